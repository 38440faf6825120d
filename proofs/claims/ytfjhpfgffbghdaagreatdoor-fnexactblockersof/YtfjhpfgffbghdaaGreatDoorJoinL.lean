/-
  The law package's marks on a list of numbers: what markIntS writes and what heldIntS answers behind it.
  The law package's marking text of a number.
  Marks on a list of numbers keep the sizes of all blocks; what is written within bounds.
  The law package's markText at every number that its marks come to.
  The law package's comparisons answer yes to what is alike.
  The law package's copies of a document: new memory of their own, with the same content; and how large a document is.
  The law package's copy of a whole document, and how it asks whether one is small enough.
-/
import Derived.Test.YtfjhpfgffbghdaaGreatDoorJoinG
import Derived.Test.YtfjhpfgffbghdaaGreatDoorJoinA
import Derived.Laws.BitsAllLaws
import Derived.Test.YtfjhpfgffbghdaaGreatDoorJoinB
import Derived.Deep.DeepCutAuto
import Derived.WalkSmall
import Derived.WalkLawsBesides
import Derived.Laws.MakeOwn
import Derived.Laws.Rows
namespace Go.Proofs.YtfjhpfgffbghdaaGreatDoor
open Go.RowKit

/-- A list that lies at the start of a block of its own; or an empty one. -/
def RowIn (w : World) (a : Option Addr) (n : Nat) (T : TypeId) : Prop :=
  n = 0 ∨ ∃ b cs, a = some ⟨b, 0, none⟩ ∧ w.heap[b]? = some (.cells cs T (0, 0)) ∧ n ≤ cs.size

/-- The list's block is written, and nothing else. -/
structure OnlyRow (w w' : World) (a : Option Addr) : Prop where
  size : w'.heap.size = w.heap.size
  same : ∀ m, (∀ b, a = some ⟨b, 0, none⟩ → m ≠ b) → w'.heap[m]? = w.heap[m]?
  below : ∀ n, (∀ b, a = some ⟨b, 0, none⟩ → n ≤ b) → Below n w w'

/-- The numbers from k on lie in it. -/
def MarksIn (w : World) (a : Option Addr) (n : Nat) (k : Int) (T : TypeId) : Prop :=
  n = 0 ∨ ∃ b cs, a = some ⟨b, 0, none⟩ ∧ w.heap[b]? = some (.cells cs T (0, 0)) ∧ n ≤ cs.size ∧ ∀ j, j < n → cs[j]? = some (.int .i64 (k + j))

set_option maxHeartbeats 400000 in
theorem markInts_any (a : Option Addr) (n cap : Nat) (k : Int) (w : World) (h : RowIn w a n 3) (hn : n ≤ 1048576) (hk0 : 0 ≤ k) (hk : k ≤ 1000000000000) :
    Calls Tryz.prog 17 #[.slice a n cap, .int .i64 k] w fun e w' => e = .returned (.int .i64 (k + n)) ∧ OnlyRow w w' a ∧ MarksIn w' a n k 3 := by
  rcases h with rfl | ⟨b, cs, rfl, hh, hsz⟩
  · go_enter Tryz.func17, Tryz.ntmps17
    go_wp2_with fail
    go_loopw [1, 5] (fun kv i wr => kv = .int .i64 k ∧ i = .int .i64 0 ∧ wr = w) (fun _ _ _ => 0)
    case atStart => exact ⟨rfl, rfl, rfl⟩
    case round =>
      obtain ⟨rfl, rfl, rfl⟩ := hrel
      go_wp2_with fail
      go_ret
      exact ⟨ret_int (by simp), ⟨rfl, fun _ _ => rfl, fun _ _ => Below.refl _ _⟩, .inl rfl⟩
  · go_enter Tryz.func17, Tryz.ntmps17
    go_wp2_with fail
    go_loopw [1, 5] (fun kv i wr => ∃ (j : Nat) (cs' : Array Value), j ≤ n ∧ kv = .int .i64 (k + j) ∧ i = .int .i64 j ∧ wr.heap.size = w.heap.size ∧ Below b w wr ∧ Hid (∀ m, m ≠ b → wr.heap[m]? = w.heap[m]?) ∧ wr.heap[b]? = some (.cells cs' 3 (0, 0)) ∧ cs'.size = cs.size ∧ Hid (∀ i, i < j → cs'[i]? = some (.int .i64 (k + i)))) (fun _ i _ => n - (intOf i).toNat)
    case atStart => exact ⟨0, cs, Nat.zero_le _, by simp, rfl, rfl, Below.refl _ _, fun _ _ => rfl, hh, rfl, fun i hi => absurd hi (by omega)⟩
    case round =>
      obtain ⟨j, cs', hj, rfl, rfl, hsw, hbl0, hoth, hbl, hcs, hmk⟩ := hrel
      by_cases hlt : j < n
      · have hc : wr.cell? ⟨b, j, none⟩ = some (cs'[j]?.getD (.int .i64 0)) := by
          rw [cell_of_heap hbl j]
          have : j < cs'.size := by omega
          simp [this]
        have hfz := frozen_of_heap hbl j
        have hlt1 : (j : Int) < (n : Int) := by omega
        have HH := hide hbl
        have H1 := hide hh
        clear hbl hh
        generalize cs'[j]?.getD (.int .i64 0) = old at *
        go_wp2_with fail
        refine ⟨⟨j + 1, cs'.setIfInBounds j (.int .i64 (k + j)), by omega, by go_num, by go_num, by simp [hsw], hbl0.setCell (p := ⟨b, j, none⟩) (Nat.le_refl _) _, fun m hm => ?_, ?_, by simp [hcs], fun i hi => ?_⟩, by simp [intOf]; omega⟩
        · rw [heap_setCell_other _ _ _ _ (by exact hm)]; exact hoth.out m hm
        · exact heap_setCell_same _ _ _ _ _ _ HH.out
        · rw [Array.getElem?_setIfInBounds]
          rcases Nat.lt_succ_iff_lt_or_eq.1 hi with h | rfl
          · rw [if_neg (by omega)]; exact hmk.out i h
          · rw [if_pos rfl, if_pos (by omega)]
      · obtain rfl : j = n := by omega
        have HH := hide hbl
        have H1 := hide hh
        clear hbl hh
        go_wp2_with fail
        go_ret
        exact ⟨rfl, ⟨hsw, fun m hm => hoth.out m (hm b rfl), fun n hn => hbl0.mono (hn b rfl)⟩, .inr ⟨b, cs', rfl, HH.out, by omega, hmk.out⟩⟩

end Go.Proofs.YtfjhpfgffbghdaaGreatDoor

namespace Go.Proofs.YtfjhpfgffbghdaaGreatDoor
open Go.RowKit

/-- A number's digits. -/
def decB (n : Nat) : ByteArray := if _h : n = 0 then ⟨#[]⟩ else decB (n / 10) ++ ⟨#[(48 + n % 10).toUInt8]⟩
termination_by n
decreasing_by omega

theorem decB_zero : decB 0 = ⟨#[]⟩ := by rw [decB]; simp
theorem decB_pos {n : Nat} (h : n ≠ 0) : decB n = decB (n / 10) ++ ⟨#[(48 + n % 10).toUInt8]⟩ := by rw [decB]; simp [h]

/-- The text that marks a number. -/
def markOf (k : Nat) : ByteArray := if k = 0 then ⟨#[109, 48]⟩ else ⟨#[109]⟩ ++ decB k

theorem digit_text (w : World) (c : Nat) (hc : c < 256) :
    (convert 144 9 (.slice (some ⟨w.heap.size, 0, none⟩) 1 1)).run Tryz.prog (w.alloc (.cells #[.int .u8 (c : Int)] 5)) = .ok (.string ⟨#[c.toUInt8]⟩) (w.alloc (.cells #[.int .u8 (c : Int)] 5)) :=
  run_convert_bytes_back (P := Tryz.prog) _ 144 9 5 ⟨w.heap.size, 0, none⟩ 1 [c.toUInt8] Tryz.underlying144 Tryz.underlying5 Tryz.underlying9 (fun j hj => by
    match j, hj with
    | 0, _ =>
      have e : ((c.toUInt8).toNat : Int) = (c : Int) := by
        have : (c.toUInt8).toNat = c % 256 := by simp
        rw [this, Nat.mod_eq_of_lt hc]
      simp only [List.getElem_cons_zero, e]
      simp [Addr.add])

theorem ret_str {a b : ByteArray} (h : a = b) : Ending.returned (.string a) = Ending.returned (.string b) := by rw [h]
theorem nil_app (b : ByteArray) : (⟨#[]⟩ : ByteArray) ++ b = b := ByteArray.ext (by rw [ByteArray.data_append]; simp)
theorem app_nil (b : ByteArray) : b ++ (⟨#[]⟩ : ByteArray) = b := ByteArray.ext (by rw [ByteArray.data_append]; simp)

set_option maxHeartbeats 1000000 in
set_option maxRecDepth 100000 in
theorem markText_any (k : Nat) (x : Int) (w : World) (hx : Hid (x = k)) (hk0 : 0 ≤ x) (hk : x ≤ 1000000000000) :
    Calls Tryz.prog 63 #[.int .i64 x] w fun e w' => e = .returned (.string (markOf k)) ∧ Below w.heap.size w w' := by
  by_cases h0 : x ≤ 0
  · have HM : Hid (markOf k = ⟨#[109, 48]⟩) := by have := hx.out; unfold Hid markOf; rw [if_pos (by omega)]
    generalize markOf k = mk at *
    go_enter Tryz.func63, Tryz.ntmps63
    go_wp2_with fail
    go_ret
    exact ⟨ret_str HM.out.symm, Below.refl _ _⟩
  · have HM : Hid (markOf k = ⟨#[109]⟩ ++ decB k) := by have := hx.out; unfold Hid markOf; rw [if_neg (by omega)]
    generalize markOf k = mk at *
    obtain ⟨dk, hdk⟩ : ∃ dk, dk = decB k := ⟨_, rfl⟩
    rw [← hdk] at HM
    have HD := hide hdk
    clear hdk
    go_enter Tryz.func63, Tryz.ntmps63
    go_wp2_with fail
    go_loopw [0, 3] (fun kv o wr => ∃ (m : Nat) (y : Int) (out : ByteArray), kv = .int .i64 y ∧ Hid (y = m) ∧ 0 ≤ y ∧ y ≤ 1000000000000 ∧ o = .string out ∧ (out.size : Int) ≤ 1000000000000 - y ∧ Hid (decB m ++ out = dk) ∧ Below w.heap.size w wr) (fun kv _ _ => (intOf kv).toNat)
    case atStart => exact ⟨k, x, ⟨#[]⟩, rfl, hx, hk0, hk, rfl, by show ((0 : Nat) : Int) ≤ _; omega, by unfold Hid; rw [HD.out, app_nil], Below.refl _ _⟩
    case round =>
      obtain ⟨m, y, out, rfl, hy, hy0, hy1, rfl, hos, hout, hbr⟩ := hrel
      have hos2 : out.size ≤ 1000000000000 := by omega
      have hs1 : ∀ c, (⟨#[c]⟩ : ByteArray).size = 1 := fun _ => rfl
      by_cases hm0 : y ≤ 0
      · have he : Hid (out = dk) := by
          have := hout.out
          have h1 := hy.out
          rw [show m = 0 by omega, decB_zero, nil_app] at this
          exact this
        clear hout
        go_wp2_with fail
        go_ret
        exact ⟨ret_str (by rw [HM.out, he.out]), hbr⟩
      · have h1 := hy.out
        obtain ⟨q, hq⟩ : ∃ q : Int, q = ((m % 10 : Nat) : Int) := ⟨_, rfl⟩
        obtain ⟨z, hz⟩ : ∃ z : Int, z = ((m / 10 : Nat) : Int) := ⟨_, rfl⟩
        obtain ⟨c, hc⟩ : ∃ c : Nat, c = 48 + m % 10 := ⟨_, rfl⟩
        have htm : y.tmod 10 = q := by rw [Int.tmod_eq_emod_of_nonneg hy0]; omega
        have htd : y.tdiv 10 = z := by rw [Int.tdiv_eq_ediv_of_nonneg hy0]; omega
        have hq0 : 0 ≤ q := by omega
        have hq9 : q ≤ 9 := by omega
        have hz0 : 0 ≤ z := by omega
        have hzy : z < y := by omega
        have HZ : Hid (z = ((m / 10 : Nat) : Int)) := hz
        have hc2 : c < 256 := by omega
        have hw8 : IntKind.u8.wrap (48 + q) = (c : Int) := by rw [IntKind.wrap_u8]; omega
        have hnew : Hid (decB (m / 10) ++ ((⟨#[c.toUInt8]⟩ : ByteArray) ++ out) = dk) := by
          have := hout.out
          rw [decB_pos (by omega), ByteArray.append_assoc, ← hc] at this
          exact this
        have hconv := digit_text wr c hc2
        clear hout h1 hq hz hc
        go_wp2_with fail
        refine ⟨⟨m / 10, z, _, rfl, HZ, hz0, by omega, rfl, ?_, hnew, hbr.alloc hbr.size _⟩, by simp [intOf]; omega⟩
        rw [ByteArray.size_append, hs1]; omega
end Go.Proofs.YtfjhpfgffbghdaaGreatDoor

namespace Go.Proofs.YtfjhpfgffbghdaaGreatDoor
open Go.RowKit

/-- Each block of cells stays one, as long as it was. -/
def KeepsSizes (w w' : World) : Prop := ∀ (m : Nat) (cs : Array Value) (T : TypeId), w.heap[m]? = some (.cells cs T (0, 0)) → ∃ cs', w'.heap[m]? = some (.cells cs' T (0, 0)) ∧ cs'.size = cs.size

theorem keeps_of {w w' : World} {b : Nat} {cs cs' : Array Value} {T : TypeId} (h : w.heap[b]? = some (.cells cs T (0, 0))) (h' : w'.heap[b]? = some (.cells cs' T (0, 0))) (hs : cs'.size = cs.size) (ho : ∀ m, m ≠ b → w'.heap[m]? = w.heap[m]?) : KeepsSizes w w' := fun m c t hm => by
  by_cases e : m = b
  · subst e
    rw [h] at hm
    simp only [Option.some.injEq, Obj.cells.injEq] at hm
    obtain ⟨rfl, rfl, -⟩ := hm
    exact ⟨cs', h', hs⟩
  · exact ⟨c, (ho m e).trans hm, rfl⟩

set_option maxHeartbeats 400000 in
theorem markInts_keeps (a : Option Addr) (n cap : Nat) (k : Int) (w : World) (h : RowIn w a n 3) (hn : n ≤ 1048576) (hk0 : 0 ≤ k) (hk : k ≤ 2000000000000000000) :
    Calls Tryz.prog 17 #[.slice a n cap, .int .i64 k] w fun e w' => e = .returned (.int .i64 (k + n)) ∧ OnlyRow w w' a ∧ KeepsSizes w w' := by
  rcases h with rfl | ⟨b, cs, rfl, hh, hsz⟩
  · go_enter Tryz.func17, Tryz.ntmps17
    go_wp2_with fail
    go_loopw [1, 5] (fun kv i wr => kv = .int .i64 k ∧ i = .int .i64 0 ∧ wr = w) (fun _ _ _ => 0)
    case atStart => exact ⟨rfl, rfl, rfl⟩
    case round =>
      obtain ⟨rfl, rfl, rfl⟩ := hrel
      go_wp2_with fail
      go_ret
      exact ⟨ret_int (by simp), ⟨rfl, fun _ _ => rfl, fun _ _ => Below.refl _ _⟩, fun _ _ _ h => ⟨_, h, rfl⟩⟩
  · go_enter Tryz.func17, Tryz.ntmps17
    go_wp2_with fail
    go_loopw [1, 5] (fun kv i wr => ∃ (j : Nat) (cs' : Array Value), j ≤ n ∧ kv = .int .i64 (k + j) ∧ i = .int .i64 j ∧ wr.heap.size = w.heap.size ∧ Below b w wr ∧ Hid (∀ m, m ≠ b → wr.heap[m]? = w.heap[m]?) ∧ wr.heap[b]? = some (.cells cs' 3 (0, 0)) ∧ cs'.size = cs.size ∧ Hid (∀ i, i < j → cs'[i]? = some (.int .i64 (k + i)))) (fun _ i _ => n - (intOf i).toNat)
    case atStart => exact ⟨0, cs, Nat.zero_le _, by simp, rfl, rfl, Below.refl _ _, fun _ _ => rfl, hh, rfl, fun i hi => absurd hi (by omega)⟩
    case round =>
      obtain ⟨j, cs', hj, rfl, rfl, hsw, hbl0, hoth, hbl, hcs, hmk⟩ := hrel
      by_cases hlt : j < n
      · have hc : wr.cell? ⟨b, j, none⟩ = some (cs'[j]?.getD (.int .i64 0)) := by
          rw [cell_of_heap hbl j]
          have : j < cs'.size := by omega
          simp [this]
        have hfz := frozen_of_heap hbl j
        have hlt1 : (j : Int) < (n : Int) := by omega
        have HH := hide hbl
        have H1 := hide hh
        clear hbl hh
        generalize cs'[j]?.getD (.int .i64 0) = old at *
        go_wp2_with fail
        refine ⟨⟨j + 1, cs'.setIfInBounds j (.int .i64 (k + j)), by omega, by go_num, by go_num, by simp [hsw], hbl0.setCell (p := ⟨b, j, none⟩) (Nat.le_refl _) _, fun m hm => ?_, ?_, by simp [hcs], fun i hi => ?_⟩, by simp [intOf]; omega⟩
        · rw [heap_setCell_other _ _ _ _ (by exact hm)]; exact hoth.out m hm
        · exact heap_setCell_same _ _ _ _ _ _ HH.out
        · rw [Array.getElem?_setIfInBounds]
          rcases Nat.lt_succ_iff_lt_or_eq.1 hi with h | rfl
          · rw [if_neg (by omega)]; exact hmk.out i h
          · rw [if_pos rfl, if_pos (by omega)]
      · obtain rfl : j = n := by omega
        have HH := hide hbl
        have H1 := hide hh
        clear hbl hh
        go_wp2_with fail
        go_ret
        exact ⟨rfl, ⟨hsw, fun m hm => hoth.out m (hm b rfl), fun n hn => hbl0.mono (hn b rfl)⟩, keeps_of H1.out HH.out hcs hoth.out⟩

theorem KeepsSizes.trans {A B C : World} (h : KeepsSizes A B) (k : KeepsSizes B C) : KeepsSizes A C := fun m cs T hm => by
  obtain ⟨c1, h1, e1⟩ := h m cs T hm
  obtain ⟨c2, h2, e2⟩ := k m c1 T h1
  exact ⟨c2, h2, e2.trans e1⟩
theorem keeps_below {A B : World} (hb : Below A.heap.size A B) : KeepsSizes A B := fun m cs _ hm => ⟨cs, (hb.block m (Array.getElem?_eq_some_iff.1 hm).1).trans hm, rfl⟩
theorem keeps_set {A : World} {b i : Nat} {v : Value} : KeepsSizes A (A.setCell ⟨b, i, none⟩ v) := fun m cs T hm => by
  by_cases e : m = b
  · subst e; exact ⟨_, heap_setCell_same _ _ _ _ _ _ hm, by simp⟩
  · exact ⟨cs, (heap_setCell_other _ _ _ _ (by exact e)).trans hm, rfl⟩

/-- What is written lies from lo on, below hi. -/
structure Within (w w' : World) (lo hi : Nat) : Prop where
  below : Below lo w w'
  above : ∀ m, hi ≤ m → m < w.heap.size → w'.heap[m]? = w.heap[m]?
end Go.Proofs.YtfjhpfgffbghdaaGreatDoor

namespace Go.Proofs.YtfjhpfgffbghdaaGreatDoor
open Go.RowKit

set_option maxHeartbeats 1000000 in
set_option maxRecDepth 100000 in
theorem markText_big (k : Nat) (x : Int) (w : World) (hx : Hid (x = k)) (hk0 : 0 ≤ x) (hk : x ≤ 2000000000000000000) :
    Calls Tryz.prog 63 #[.int .i64 x] w fun e w' => e = .returned (.string (markOf k)) ∧ Below w.heap.size w w' := by
  by_cases h0 : x ≤ 0
  · have HM : Hid (markOf k = ⟨#[109, 48]⟩) := by have := hx.out; unfold Hid markOf; rw [if_pos (by omega)]
    generalize markOf k = mk at *
    go_enter Tryz.func63, Tryz.ntmps63
    go_wp2_with fail
    go_ret
    exact ⟨ret_str HM.out.symm, Below.refl _ _⟩
  · have HM : Hid (markOf k = ⟨#[109]⟩ ++ decB k) := by have := hx.out; unfold Hid markOf; rw [if_neg (by omega)]
    generalize markOf k = mk at *
    obtain ⟨dk, hdk⟩ : ∃ dk, dk = decB k := ⟨_, rfl⟩
    rw [← hdk] at HM
    have HD := hide hdk
    clear hdk
    go_enter Tryz.func63, Tryz.ntmps63
    go_wp2_with fail
    go_loopw [0, 3] (fun kv o wr => ∃ (m : Nat) (y : Int) (out : ByteArray), kv = .int .i64 y ∧ Hid (y = m) ∧ 0 ≤ y ∧ y ≤ 2000000000000000000 ∧ o = .string out ∧ (out.size : Int) ≤ 2000000000000000000 - y ∧ Hid (decB m ++ out = dk) ∧ Below w.heap.size w wr) (fun kv _ _ => (intOf kv).toNat)
    case atStart => exact ⟨k, x, ⟨#[]⟩, rfl, hx, hk0, hk, rfl, by show ((0 : Nat) : Int) ≤ _; omega, by unfold Hid; rw [HD.out, app_nil], Below.refl _ _⟩
    case round =>
      obtain ⟨m, y, out, rfl, hy, hy0, hy1, rfl, hos, hout, hbr⟩ := hrel
      have hos2 : out.size ≤ 2000000000000000000 := by omega
      have hs1 : ∀ c, (⟨#[c]⟩ : ByteArray).size = 1 := fun _ => rfl
      by_cases hm0 : y ≤ 0
      · have he : Hid (out = dk) := by
          have := hout.out
          have h1 := hy.out
          rw [show m = 0 by omega, decB_zero, nil_app] at this
          exact this
        clear hout
        go_wp2_with fail
        go_ret
        exact ⟨ret_str (by rw [HM.out, he.out]), hbr⟩
      · have h1 := hy.out
        obtain ⟨q, hq⟩ : ∃ q : Int, q = ((m % 10 : Nat) : Int) := ⟨_, rfl⟩
        obtain ⟨z, hz⟩ : ∃ z : Int, z = ((m / 10 : Nat) : Int) := ⟨_, rfl⟩
        obtain ⟨c, hc⟩ : ∃ c : Nat, c = 48 + m % 10 := ⟨_, rfl⟩
        have htm : y.tmod 10 = q := by rw [Int.tmod_eq_emod_of_nonneg hy0]; omega
        have htd : y.tdiv 10 = z := by rw [Int.tdiv_eq_ediv_of_nonneg hy0]; omega
        have hq0 : 0 ≤ q := by omega
        have hq9 : q ≤ 9 := by omega
        have hz0 : 0 ≤ z := by omega
        have hzy : z < y := by omega
        have HZ : Hid (z = ((m / 10 : Nat) : Int)) := hz
        have hc2 : c < 256 := by omega
        have hw8 : IntKind.u8.wrap (48 + q) = (c : Int) := by rw [IntKind.wrap_u8]; omega
        have hnew : Hid (decB (m / 10) ++ ((⟨#[c.toUInt8]⟩ : ByteArray) ++ out) = dk) := by
          have := hout.out
          rw [decB_pos (by omega), ByteArray.append_assoc, ← hc] at this
          exact this
        have hconv := digit_text wr c hc2
        clear hout h1 hq hz hc
        go_wp2_with fail
        refine ⟨⟨m / 10, z, _, rfl, HZ, hz0, by omega, rfl, ?_, hnew, hbr.alloc hbr.size _⟩, by simp [intOf]; omega⟩
        rw [ByteArray.size_append, hs1]; omega
end Go.Proofs.YtfjhpfgffbghdaaGreatDoor

namespace Go.Proofs.YtfjhpfgffbghdaaGreatDoor
open Go.RowKit

/-- The value is a node. -/
def NodeVal (n₀ : Nat) (w : World) (v : Value) (x : PNode) : Prop :=
  ∃ kv, v = .agg #[.int .i64 x.id, .int .i64 x.kind, .int .i64 x.attr, .string x.text, kv] ∧ IntsAt n₀ w kv x.kids

theorem NodeVal.below {n₀ n₁ : Nat} {w w' : World} {v : Value} {x : PNode} (h : NodeVal n₀ w v x) (hn : n₀ ≤ n₁) (hb : Below n₀ w w') : NodeVal n₁ w' v x := by
  obtain ⟨kv, rfl, h⟩ := h
  exact ⟨kv, rfl, h.below hn hb⟩

set_option maxHeartbeats 400000 in
theorem eqNode_any (n₀ : Nat) (v v' : Value) (x : PNode) (w : World) (h : NodeVal n₀ w v x) (h' : NodeVal n₀ w v' x) (hn : n₀ ≤ w.heap.size) (hl : x.kids.length ≤ 1048576) :
    Calls Tryz.prog 62 #[v, v'] w fun e w' => e = .returned (.bool true) ∧ Below w.heap.size w w' := by
  obtain ⟨kv, rfl, hk⟩ := h
  obtain ⟨kv', rfl, hk'⟩ := h'
  have hs : (x.text.toList == x.text.toList) = true := by simp
  have HE : Hid (∀ w1, Below w.heap.size w w1 → Calls Tryz.prog 13 #[kv, kv'] w1 fun e w' => e = .returned (.bool true) ∧ Below w1.heap.size w1 w') := fun w1 hb =>
    eqInts_any n₀ kv kv' x.kids w1 (hk.below (Nat.le_refl _) (hb.mono hn)) (hk'.below (Nat.le_refl _) (hb.mono hn)) hl
  obtain ⟨a, cap, rfl, -⟩ := hk
  obtain ⟨a', cap', rfl, -⟩ := hk'
  have hW2 := ((Below.refl w.heap.size w).alloc (Nat.le_refl _) (.cells #[.int .i64 x.id, .int .i64 x.kind, .int .i64 x.attr, .string x.text, .slice a x.kids.length cap] 84)).alloc (by simp) (.cells #[.int .i64 x.id, .int .i64 x.kind, .int .i64 x.attr, .string x.text, .slice a' x.kids.length cap'] 84)
  go_enter Tryz.func62, Tryz.ntmps62
  go_wp2_with (go_at_call 13; refine (HE.out _ hW2).mono ?_; rintro e w1 ⟨rfl, hb1⟩)
  go_ret
  exact ⟨rfl, hW2.trans (hb1.mono (by simp; omega))⟩

theorem NodeAt.val {n₀ : Nat} {w : World} {b o : Nat} {x : PNode} (h : NodeAt n₀ w b o x) : ∃ kv, w.cell? ⟨b, o + 4, none⟩ = some kv ∧ NodeVal n₀ w (.agg #[.int .i64 x.id, .int .i64 x.kind, .int .i64 x.attr, .string x.text, kv]) x := by
  obtain ⟨kv, h4, hi⟩ := h.c4
  exact ⟨kv, h4, kv, rfl, hi⟩

set_option maxHeartbeats 1000000 in
set_option maxRecDepth 100000 in
theorem eqNodes_any (n₀ : Nat) (v v' : Value) (l : List PNode) (w : World) (h : NodesAt n₀ w v l) (h' : NodesAt n₀ w v' l) (hn : n₀ ≤ w.heap.size) (hl : l.length ≤ 1048576) (hkl : ∀ x ∈ l, x.kids.length ≤ 1048576) :
    Calls Tryz.prog 38 #[v, v'] w fun e w' => e = .returned (.bool true) ∧ Below w.heap.size w w' := by
  obtain ⟨a, cap, rfl, hk⟩ := h
  obtain ⟨a', cap', rfl, hk'⟩ := h'
  have HKL := hide hkl
  clear hkl
  go_enter Tryz.func38, Tryz.ntmps38
  go_wp2_with fail
  go_loopw [5] (fun i wr => ∃ k : Nat, k ≤ l.length ∧ i = .int .i64 k ∧ Below w.heap.size w wr) (fun i _ => l.length - (intOf i).toNat)
  case atStart => exact ⟨0, Nat.zero_le _, rfl, Below.refl _ _⟩
  case round =>
    obtain ⟨k, hkl, rfl, hbr⟩ := hrel
    have hsz := hbr.size
    by_cases hlt : k < l.length
    · obtain ⟨b, off, rfl, hb, hc⟩ := hk.resolve_left (by intro e; simp [e] at hlt)
      obtain ⟨b', off', rfl, hb', hc'⟩ := hk'.resolve_left (by intro e; simp [e] at hlt)
      have hA := (hc k hlt).below hb (Nat.le_refl _) (hbr.mono hn)
      have hA' := (hc' k hlt).below hb' (Nat.le_refl _) (hbr.mono hn)
      have hlx := HKL.out (l[k]?.getD nodeNil) (by simp [hlt])
      have g0 := hA.c0
      have g1 := hA.c1
      have g2 := hA.c2
      have g3 := hA.c3
      have f0 := hA'.c0
      have f1 := hA'.c1
      have f2 := hA'.c2
      have f3 := hA'.c3
      obtain ⟨kv, g4, hi⟩ := hA.c4
      obtain ⟨kv', f4, hi'⟩ := hA'.c4
      have hv : NodeVal n₀ wr (.agg #[.int .i64 (l[k]?.getD nodeNil).id, .int .i64 (l[k]?.getD nodeNil).kind, .int .i64 (l[k]?.getD nodeNil).attr, .string (l[k]?.getD nodeNil).text, kv]) (l[k]?.getD nodeNil) := ⟨kv, rfl, hi⟩
      have hv' : NodeVal n₀ wr (.agg #[.int .i64 (l[k]?.getD nodeNil).id, .int .i64 (l[k]?.getD nodeNil).kind, .int .i64 (l[k]?.getD nodeNil).attr, .string (l[k]?.getD nodeNil).text, kv']) (l[k]?.getD nodeNil) := ⟨kv', rfl, hi'⟩
      have hlt1 : (k : Int) < (l.length : Int) := by omega
      have hbw : b < wr.heap.size := by omega
      have hbw' : b' < wr.heap.size := by omega
      have hcal := calm_cell wr
      have HE : Hid (∀ t : Calm wr, Calls Tryz.prog 62 #[.agg #[.int .i64 (l[k]?.getD nodeNil).id, .int .i64 (l[k]?.getD nodeNil).kind, .int .i64 (l[k]?.getD nodeNil).attr, .string (l[k]?.getD nodeNil).text, kv], .agg #[.int .i64 (l[k]?.getD nodeNil).id, .int .i64 (l[k]?.getD nodeNil).kind, .int .i64 (l[k]?.getD nodeNil).attr, .string (l[k]?.getD nodeNil).text, kv']] t.out fun e w' => e = .returned (.bool true) ∧ Below t.out.heap.size t.out w') := fun t =>
        eqNode_any n₀ _ _ (l[k]?.getD nodeNil) t.out (hv.below (Nat.le_refl _) (t.below.mono (by omega))) (hv'.below (Nat.le_refl _) (t.below.mono (by omega))) (by have := t.below.size; omega) hlx
      clear hv hv'
      obtain ⟨ak, ck, rfl, -⟩ := hi
      obtain ⟨ak', ck', rfl, -⟩ := hi'
      clear hA hA' hc hc' hk hk'
      generalize l[k]?.getD nodeNil = x at *
      go_wp2_with fail
      refine wp_region_calm (by kernel_rfl) (by kernel_rfl) ?_
      repeat (go_big_quiet_step ((go_at_call 62; exact calm_of (HE.out _))))
      refine wpQuiet_nil ?_
      rintro _ ⟨t, rfl⟩
      have ht := t.below
      go_wp2_with fail
      exact ⟨⟨k + 1, by omega, by go_num, hbr.trans (ht.mono hsz)⟩, by simp [intOf]; omega⟩
    · clear hk hk'
      go_wp2_with fail
      go_ret
      exact ⟨rfl, hbr⟩

set_option maxHeartbeats 400000 in
theorem eqDoc_any (n₀ : Nat) (v v' : Value) (d : PDoc) (w : World) (h : DocAt n₀ w v d) (h' : DocAt n₀ w v' d) (hn : n₀ ≤ w.heap.size) (hl : d.nodes.length ≤ 1048576) (hkl : ∀ x ∈ d.nodes, x.kids.length ≤ 1048576) :
    Calls Tryz.prog 14 #[v, v'] w fun e w' => e = .returned (.bool true) ∧ Below w.heap.size w w' := by
  obtain ⟨s, rfl, hk⟩ := h
  obtain ⟨s', rfl, hk'⟩ := h'
  have HE : Hid (∀ w1, Below w.heap.size w w1 → Calls Tryz.prog 38 #[s, s'] w1 fun e w' => e = .returned (.bool true) ∧ Below w1.heap.size w1 w') := fun w1 hb =>
    eqNodes_any n₀ s s' d.nodes w1 (hk.below (Nat.le_refl _) (hb.mono hn)) (hk'.below (Nat.le_refl _) (hb.mono hn)) (by have := hb.size; omega) hl hkl
  obtain ⟨a, cap, rfl, -⟩ := hk
  obtain ⟨a', cap', rfl, -⟩ := hk'
  clear hkl
  have hW2 := ((Below.refl w.heap.size w).alloc (Nat.le_refl _) (.cells #[.int .i64 d.root, .int .i64 d.next, .slice a d.nodes.length cap] 38)).alloc (by simp) (.cells #[.int .i64 d.root, .int .i64 d.next, .slice a' d.nodes.length cap'] 38)
  go_enter Tryz.func14, Tryz.ntmps14
  go_wp2_with (go_at_call 38; refine (HE.out _ hW2).mono ?_; rintro e w1 ⟨rfl, hb1⟩)
  go_ret
  exact ⟨rfl, hW2.trans (hb1.mono (by simp; omega))⟩
end Go.Proofs.YtfjhpfgffbghdaaGreatDoor

namespace Go.Proofs.YtfjhpfgffbghdaaGreatDoor
open Go.RowKit

set_option maxHeartbeats 1000000 in
set_option maxRecDepth 100000 in
theorem toNode_any (n₀ : Nat) (v : Value) (x : PNode) (w : World) (h : NodeVal n₀ w v x) (hn : n₀ ≤ w.heap.size) (hl : x.kids.length ≤ 1048576) :
    Calls Tryz.prog 54 #[v] w fun e w' => ∃ kv, e = .returned (.agg #[.int .i64 x.id, .int .i64 x.kind, .int .i64 x.attr, .string x.text, kv]) ∧ IntsOwn w.heap.size w'.heap.size w' kv x.kids ∧ Below w.heap.size w w' ∧ w.heap.size < w'.heap.size := by
  obtain ⟨kv, rfl, hk⟩ := h
  have HT : Hid (∀ w1, Below w.heap.size w w1 → Calls Tryz.prog 86 #[kv] w1 fun e w' => ∃ u, e = .returned u ∧ IntsOwn w1.heap.size w'.heap.size w' u x.kids ∧ Below w1.heap.size w1 w' ∧ w1.heap.size < w'.heap.size) := fun w1 hb =>
    toInts_any n₀ kv x.kids w1 (hk.below (Nat.le_refl _) (hb.mono hn)) (by have := hb.size; omega) hl
  obtain ⟨a, cap, rfl, -⟩ := hk
  have hW3 := (((Below.refl w.heap.size w).alloc (Nat.le_refl _) (.cells #[.int .i64 x.id, .int .i64 x.kind, .int .i64 x.attr, .string x.text, .slice a x.kids.length cap] 81)).alloc (by simp) (.cells #[.int .i64 0, .int .i64 0, .int .i64 0, .string ⟨#[]⟩, .slice none 0 0] 84)).alloc (by simp; omega) (.cells #[.int .i64 x.id, .int .i64 x.kind, .int .i64 x.attr, .string x.text, .slice none 0 0] 84)
  go_enter Tryz.func54, Tryz.ntmps54
  go_wp2_with fail
  refine (HT.out _ hW3).mono ?_
  rintro e w1 ⟨u, rfl, hown, hb1, hlt⟩
  simp only [World.size_alloc] at hown hb1 hlt
  have hb1' := hW3.trans (hb1.mono (by omega))
  have hcx : ∀ b o, b < w.heap.size + 1 + 1 + 1 → w1.cell? ⟨b, o, none⟩ = _ := fun b o h => hb1.cell (p := ⟨b, o, none⟩) h
  have hfx : ∀ b o, b < w.heap.size + 1 + 1 + 1 → w1.frozen? ⟨b, o, none⟩ = _ := fun b o h => hb1.frozen (p := ⟨b, o, none⟩) h
  have hz1 : w.heap.size + 1 < w1.heap.size := by omega
  have hz2 : w.heap.size + 1 + 1 < w1.heap.size := by omega
  have HOwn := hide hown
  obtain ⟨bo, co, cs, rfl, hlo, hhi, hbo, -⟩ := hown
  have HHeap : Hid (∀ w2 : World, (∀ k, w.heap.size + 1 + 1 < k → w2.heap[k]? = w1.heap[k]?) → w2.heap.size = w1.heap.size → IntsOwn w.heap.size w2.heap.size w2 (.slice (some ⟨bo, 0, none⟩) x.kids.length co) x.kids) := fun w2 h2 hs2 =>
    HOwn.out.heap (by omega) (by omega) fun k h3 _ => h2 k (by omega)
  clear hbo HT
  go_wp2_with fail
  refine bodyPost_ret (v := .agg #[.int .i64 x.id, .int .i64 x.kind, .int .i64 x.attr, .string x.text, .slice (some ⟨bo, 0, none⟩) x.kids.length co]) (by simp [results, Tryz.results54, go_sem, hcx]) rfl ⟨_, rfl, HHeap.out _ ?_ (by simp), ?_, by simp; omega⟩
  · intro k hk
    iterate 6 rw [heap_setCell_other _ _ _ _ (by show k ≠ _; simp; omega)]
  · exact (((((hb1'.setCell (p := ⟨w.heap.size + 1 + 1, 4, none⟩) (by simp; omega) _).setCell (p := ⟨w.heap.size + 1, 0, none⟩) (by simp) _).setCell (p := ⟨w.heap.size + 1, 1, none⟩) (by simp) _).setCell (p := ⟨w.heap.size + 1, 2, none⟩) (by simp) _).setCell (p := ⟨w.heap.size + 1, 3, none⟩) (by simp) _).setCell (p := ⟨w.heap.size + 1, 4, none⟩) (by simp) _

/-- A list of nodes in a block of its own, and the lists of their kids each in one of its own behind it. -/
def NodesOwn (lo hi : Nat) (w : World) (v : Value) (l : List PNode) : Prop :=
  ∃ b cap cs, v = .slice (some ⟨b, 0, none⟩) l.length cap ∧ lo ≤ b ∧ b < hi ∧ w.heap[b]? = some (.cells cs 84 (0, 0)) ∧
    ∀ j, j < l.length → ∃ kv, cs[j * 5]? = some (.int .i64 (l[j]?.getD nodeNil).id) ∧ cs[j * 5 + 1]? = some (.int .i64 (l[j]?.getD nodeNil).kind) ∧ cs[j * 5 + 2]? = some (.int .i64 (l[j]?.getD nodeNil).attr) ∧ cs[j * 5 + 3]? = some (.string (l[j]?.getD nodeNil).text) ∧ cs[j * 5 + 4]? = some kv ∧ IntsOwn (b + 1) hi w kv (l[j]?.getD nodeNil).kids

theorem NodesOwn.at {lo hi : Nat} {w : World} {v : Value} {l : List PNode} (h : NodesOwn lo hi w v l) : NodesAt hi w v l := by
  obtain ⟨b, cap, cs, rfl, h1, h2, h3, h4⟩ := h
  refine ⟨_, cap, rfl, .inr ⟨b, 0, rfl, h2, fun j hj => ?_⟩⟩
  obtain ⟨kv, g0, g1, g2, g3, g4, g5⟩ := h4 j hj
  rw [Nat.zero_add]
  exact ⟨by rw [cell_of_heap h3, g0], by rw [cell_of_heap h3, g1], by rw [cell_of_heap h3, g2], by rw [cell_of_heap h3, g3], kv, by rw [cell_of_heap h3, g4], g5.at⟩

theorem NodesOwn.below {lo hi : Nat} {w w' : World} {v : Value} {l : List PNode} (h : NodesOwn lo hi w v l) (hb : Below hi w w') : NodesOwn lo hi w' v l := by
  obtain ⟨b, cap, cs, rfl, h1, h2, h3, h4⟩ := h
  refine ⟨b, cap, cs, rfl, h1, h2, (hb.block b h2).trans h3, fun j hj => ?_⟩
  obtain ⟨kv, g0, g1, g2, g3, g4, g5⟩ := h4 j hj
  exact ⟨kv, g0, g1, g2, g3, g4, g5.below hb⟩

theorem nodeInfo : (Tryz.prog.info? 84).map (fun i => (i.zero, i.size, i.bytes)) = some (some (.agg #[.int .i64 0, .int .i64 0, .int .i64 0, .string ⟨#[]⟩, .slice none 0 0]), 5, 64) := by kernel_rfl

theorem set_five {cs : Array Value} {k j : Nat} {a b c d e : Value} (h : k * 5 + 4 < cs.size) :
    (j = k → (((((cs.setIfInBounds (k * 5) a).setIfInBounds (k * 5 + 1) b).setIfInBounds (k * 5 + 2) c).setIfInBounds (k * 5 + 3) d).setIfInBounds (k * 5 + 4) e)[j * 5]? = some a ∧
      (((((cs.setIfInBounds (k * 5) a).setIfInBounds (k * 5 + 1) b).setIfInBounds (k * 5 + 2) c).setIfInBounds (k * 5 + 3) d).setIfInBounds (k * 5 + 4) e)[j * 5 + 1]? = some b ∧
      (((((cs.setIfInBounds (k * 5) a).setIfInBounds (k * 5 + 1) b).setIfInBounds (k * 5 + 2) c).setIfInBounds (k * 5 + 3) d).setIfInBounds (k * 5 + 4) e)[j * 5 + 2]? = some c ∧
      (((((cs.setIfInBounds (k * 5) a).setIfInBounds (k * 5 + 1) b).setIfInBounds (k * 5 + 2) c).setIfInBounds (k * 5 + 3) d).setIfInBounds (k * 5 + 4) e)[j * 5 + 3]? = some d ∧
      (((((cs.setIfInBounds (k * 5) a).setIfInBounds (k * 5 + 1) b).setIfInBounds (k * 5 + 2) c).setIfInBounds (k * 5 + 3) d).setIfInBounds (k * 5 + 4) e)[j * 5 + 4]? = some e) ∧
    (j ≠ k → ∀ m, m < 5 → (((((cs.setIfInBounds (k * 5) a).setIfInBounds (k * 5 + 1) b).setIfInBounds (k * 5 + 2) c).setIfInBounds (k * 5 + 3) d).setIfInBounds (k * 5 + 4) e)[j * 5 + m]? = cs[j * 5 + m]?) := by
  constructor
  · rintro rfl
    simp only [Array.getElem?_setIfInBounds, Array.size_setIfInBounds]
    refine ⟨?_, ?_, ?_, ?_, ?_⟩ <;> (repeat rw [if_neg (by omega)]) <;> rw [if_pos trivial, if_pos (by omega)]
  · intro hne m hm
    simp only [Array.getElem?_setIfInBounds, Array.size_setIfInBounds]
    repeat rw [if_neg (by omega)]

theorem five_world (w1 : World) (B i : Nat) (a b c d e : Value) {cs : Array Value} {t : TypeId} (hh : w1.heap[B]? = some (.cells cs t (0, 0))) :
    (((((w1.setCell ⟨B, i, none⟩ a).setCell ⟨B, i + 1, none⟩ b).setCell ⟨B, i + 2, none⟩ c).setCell ⟨B, i + 3, none⟩ d).setCell ⟨B, i + 4, none⟩ e).heap[B]? = some (.cells (((((cs.setIfInBounds i a).setIfInBounds (i + 1) b).setIfInBounds (i + 2) c).setIfInBounds (i + 3) d).setIfInBounds (i + 4) e) t (0, 0)) ∧
    ∀ m, m ≠ B → (((((w1.setCell ⟨B, i, none⟩ a).setCell ⟨B, i + 1, none⟩ b).setCell ⟨B, i + 2, none⟩ c).setCell ⟨B, i + 3, none⟩ d).setCell ⟨B, i + 4, none⟩ e).heap[m]? = w1.heap[m]? := by
  constructor
  · exact heap_setCell_same _ _ _ _ _ _ (heap_setCell_same _ _ _ _ _ _ (heap_setCell_same _ _ _ _ _ _ (heap_setCell_same _ _ _ _ _ _ (heap_setCell_same _ _ _ _ _ _ hh))))
  · intro m hm
    iterate 5 rw [heap_setCell_other _ _ _ _ (by exact hm)]

set_option maxHeartbeats 1000000 in
set_option maxRecDepth 100000 in
theorem toNodes_any (n₀ : Nat) (v : Value) (l : List PNode) (w : World) (h : NodesAt n₀ w v l) (hn : n₀ ≤ w.heap.size) (hl : l.length ≤ 1048576) (hkl : ∀ x ∈ l, x.kids.length ≤ 1048576) :
    Calls Tryz.prog 32 #[v] w fun e w' => ∃ u, e = .returned u ∧ NodesOwn w.heap.size w'.heap.size w' u l ∧ Below w.heap.size w w' := by
  obtain ⟨i0, hi, hz0, hz1, hz2⟩ := info_parts nodeInfo
  have hmk : ∀ w, (Instr.makeSlice 36 (.int .i64 (l.length : Int)) (.int .i64 (l.length : Int))).run Tryz.prog w = .ok (.slice (some ⟨w.heap.size, 0, none⟩) l.length l.length) (w.alloc (.cells (madeCells #[.int .i64 0, .int .i64 0, .int .i64 0, .string ⟨#[]⟩, .slice none 0 0] (l.length * 5)) 84)) := fun w => by
    have := run_make (P := Tryz.prog) w 36 84 i0 (.agg #[.int .i64 0, .int .i64 0, .int .i64 0, .string ⟨#[]⟩, .slice none 0 0]) Tryz.underlying36 hi hz0 .i64 .i64 l.length l.length (by omega) (Int.le_refl _) (by rw [hz2]; omega) (by omega)
    simpa [hz1, Value.cells] using this
  obtain ⟨a, cap, rfl, hk⟩ := h
  have HKL := hide hkl
  clear hi hz0 hz1 hz2 hkl
  go_enter Tryz.func32, Tryz.ntmps32
  go_wp2_with fail
  go_loopw [4] (fun i wr => ∃ (k : Nat) (cs : Array Value), k ≤ l.length ∧ i = .int .i64 k ∧ Hid (wr.heap[w.heap.size]? = some (.cells cs 84 (0, 0))) ∧ cs.size = l.length * 5 ∧ Hid (∀ j, j < k → ∃ kv, cs[j * 5]? = some (.int .i64 (l[j]?.getD nodeNil).id) ∧ cs[j * 5 + 1]? = some (.int .i64 (l[j]?.getD nodeNil).kind) ∧ cs[j * 5 + 2]? = some (.int .i64 (l[j]?.getD nodeNil).attr) ∧ cs[j * 5 + 3]? = some (.string (l[j]?.getD nodeNil).text) ∧ cs[j * 5 + 4]? = some kv ∧ IntsOwn (w.heap.size + 1) wr.heap.size wr kv (l[j]?.getD nodeNil).kids) ∧ Below w.heap.size w wr) (fun i _ => l.length - (intOf i).toNat)
  case atStart => exact ⟨0, _, Nat.zero_le _, rfl, alloc_new w _, size_madeCells _ _, fun j hj => by omega, (Below.refl _ _).alloc (Nat.le_refl _) _⟩
  case round =>
    obtain ⟨k, cs, hkl, rfl, hh, hcs, hall, hbr⟩ := hrel
    have hlt2 : w.heap.size < wr.heap.size := (Array.getElem?_eq_some_iff.1 hh.out).1
    by_cases hlt : k < l.length
    · obtain ⟨b, off, rfl, hb, hc⟩ := hk.resolve_left (by intro e; simp [e] at hlt)
      have hA := (hc k hlt).below hb (Nat.le_refl _) (hbr.mono hn)
      have hlx := HKL.out (l[k]?.getD nodeNil) (by simp [hlt])
      have g0 := hA.c0
      have g1 := hA.c1
      have g2 := hA.c2
      have g3 := hA.c3
      obtain ⟨kv, g4, hi⟩ := hA.c4
      have HCall := hide (toNode_any n₀ (.agg #[.int .i64 (l[k]?.getD nodeNil).id, .int .i64 (l[k]?.getD nodeNil).kind, .int .i64 (l[k]?.getD nodeNil).attr, .string (l[k]?.getD nodeNil).text, kv]) (l[k]?.getD nodeNil) wr ⟨kv, rfl, hi⟩ (by omega) hlx)
      obtain ⟨ak, ck, rfl, -⟩ := hi
      have hbw : b < wr.heap.size := by omega
      clear hA hc hk
      generalize hx : l[k]?.getD nodeNil = x at *
      have HX := hide hx
      clear hx
      go_wp2_with fail
      refine HCall.out.mono ?_
      rintro e w1 ⟨ku, rfl, hown, hb1, hs1⟩
      have hh1 : w1.heap[w.heap.size]? = some (.cells cs 84 (0, 0)) := (hb1.block _ hlt2).trans hh.out
      have hf1 : ∀ j, w1.frozen? ⟨w.heap.size, j, none⟩ = false := fun j => frozen_of_heap hh1 j
      have hc1 : ∀ j, j < cs.size → ∃ u, w1.cell? ⟨w.heap.size, j, none⟩ = some u := fun j hj => by rw [cell_of_heap hh1]; exact ⟨cs[j], by simp [hj]⟩
      obtain ⟨o0, p0⟩ := hc1 (k * 5) (by omega)
      obtain ⟨o1, p1⟩ := hc1 (k * 5 + 1) (by omega)
      obtain ⟨o2, p2⟩ := hc1 (k * 5 + 2) (by omega)
      obtain ⟨o3, p3⟩ := hc1 (k * 5 + 3) (by omega)
      obtain ⟨o4, p4⟩ := hc1 (k * 5 + 4) (by omega)
      have HOwn := hide hown
      obtain ⟨bo, co, cs', rfl, hlo, hhi, hbo, -⟩ := hown
      clear hc1 HCall hbo
      obtain ⟨q1, q2⟩ := five_world w1 w.heap.size (k * 5) (.int .i64 x.id) (.int .i64 x.kind) (.int .i64 x.attr) (.string x.text) (.slice (some ⟨bo, 0, none⟩) x.kids.length co) hh1
      have HQ1 := hide q1
      have HB5 : Hid (Below w.heap.size w (((((w1.setCell ⟨w.heap.size, k * 5, none⟩ (.int .i64 x.id)).setCell ⟨w.heap.size, k * 5 + 1, none⟩ (.int .i64 x.kind)).setCell ⟨w.heap.size, k * 5 + 2, none⟩ (.int .i64 x.attr)).setCell ⟨w.heap.size, k * 5 + 3, none⟩ (.string x.text)).setCell ⟨w.heap.size, k * 5 + 4, none⟩ (.slice (some ⟨bo, 0, none⟩) x.kids.length co))) :=
        (((((hbr.trans (hb1.mono (by omega))).setCell (p := ⟨w.heap.size, k * 5, none⟩) (Nat.le_refl _) _).setCell (p := ⟨w.heap.size, k * 5 + 1, none⟩) (Nat.le_refl _) _).setCell (p := ⟨w.heap.size, k * 5 + 2, none⟩) (Nat.le_refl _) _).setCell (p := ⟨w.heap.size, k * 5 + 3, none⟩) (Nat.le_refl _) _).setCell (p := ⟨w.heap.size, k * 5 + 4, none⟩) (Nat.le_refl _) _
      have HAll2 : Hid (∀ j, j < k + 1 → ∃ kv, (((((cs.setIfInBounds (k * 5) (.int .i64 x.id)).setIfInBounds (k * 5 + 1) (.int .i64 x.kind)).setIfInBounds (k * 5 + 2) (.int .i64 x.attr)).setIfInBounds (k * 5 + 3) (.string x.text)).setIfInBounds (k * 5 + 4) (.slice (some ⟨bo, 0, none⟩) x.kids.length co))[j * 5]? = some (.int .i64 (l[j]?.getD nodeNil).id) ∧ (((((cs.setIfInBounds (k * 5) (.int .i64 x.id)).setIfInBounds (k * 5 + 1) (.int .i64 x.kind)).setIfInBounds (k * 5 + 2) (.int .i64 x.attr)).setIfInBounds (k * 5 + 3) (.string x.text)).setIfInBounds (k * 5 + 4) (.slice (some ⟨bo, 0, none⟩) x.kids.length co))[j * 5 + 1]? = some (.int .i64 (l[j]?.getD nodeNil).kind) ∧ (((((cs.setIfInBounds (k * 5) (.int .i64 x.id)).setIfInBounds (k * 5 + 1) (.int .i64 x.kind)).setIfInBounds (k * 5 + 2) (.int .i64 x.attr)).setIfInBounds (k * 5 + 3) (.string x.text)).setIfInBounds (k * 5 + 4) (.slice (some ⟨bo, 0, none⟩) x.kids.length co))[j * 5 + 2]? = some (.int .i64 (l[j]?.getD nodeNil).attr) ∧ (((((cs.setIfInBounds (k * 5) (.int .i64 x.id)).setIfInBounds (k * 5 + 1) (.int .i64 x.kind)).setIfInBounds (k * 5 + 2) (.int .i64 x.attr)).setIfInBounds (k * 5 + 3) (.string x.text)).setIfInBounds (k * 5 + 4) (.slice (some ⟨bo, 0, none⟩) x.kids.length co))[j * 5 + 3]? = some (.string (l[j]?.getD nodeNil).text) ∧ (((((cs.setIfInBounds (k * 5) (.int .i64 x.id)).setIfInBounds (k * 5 + 1) (.int .i64 x.kind)).setIfInBounds (k * 5 + 2) (.int .i64 x.attr)).setIfInBounds (k * 5 + 3) (.string x.text)).setIfInBounds (k * 5 + 4) (.slice (some ⟨bo, 0, none⟩) x.kids.length co))[j * 5 + 4]? = some kv ∧ IntsOwn (w.heap.size + 1) (((((w1.setCell ⟨w.heap.size, k * 5, none⟩ (.int .i64 x.id)).setCell ⟨w.heap.size, k * 5 + 1, none⟩ (.int .i64 x.kind)).setCell ⟨w.heap.size, k * 5 + 2, none⟩ (.int .i64 x.attr)).setCell ⟨w.heap.size, k * 5 + 3, none⟩ (.string x.text)).setCell ⟨w.heap.size, k * 5 + 4, none⟩ (.slice (some ⟨bo, 0, none⟩) x.kids.length co)).heap.size (((((w1.setCell ⟨w.heap.size, k * 5, none⟩ (.int .i64 x.id)).setCell ⟨w.heap.size, k * 5 + 1, none⟩ (.int .i64 x.kind)).setCell ⟨w.heap.size, k * 5 + 2, none⟩ (.int .i64 x.attr)).setCell ⟨w.heap.size, k * 5 + 3, none⟩ (.string x.text)).setCell ⟨w.heap.size, k * 5 + 4, none⟩ (.slice (some ⟨bo, 0, none⟩) x.kids.length co)) kv (l[j]?.getD nodeNil).kids) := by
        intro j hj
        obtain ⟨f1, f2⟩ := @set_five cs k j (.int .i64 x.id) (.int .i64 x.kind) (.int .i64 x.attr) (.string x.text) (.slice (some ⟨bo, 0, none⟩) x.kids.length co) (by omega)
        by_cases e : j = k
        · obtain ⟨a0, a1, a2, a3, a4⟩ := f1 e
          rw [e, HX.out] at *
          exact ⟨_, a0, a1, a2, a3, a4, HOwn.out.heap (by omega) (by simp) fun b h3 _ => q2 b (by omega)⟩
        · obtain ⟨kv, b0, b1, b2, b3, b4, b5⟩ := hall.out j (by omega)
          have g := f2 e
          have g00 := g 0 (by omega)
          rw [Nat.add_zero] at g00
          refine ⟨kv, g00.trans b0, (g 1 (by omega)).trans b1, (g 2 (by omega)).trans b2, (g 3 (by omega)).trans b3, (g 4 (by omega)).trans b4, b5.heap (Nat.le_refl _) (by simp; omega) fun b h3 h4 => (q2 b (by omega)).trans (hb1.block b h4)⟩
      have hsz5 : (((((cs.setIfInBounds (k * 5) (.int .i64 x.id)).setIfInBounds (k * 5 + 1) (.int .i64 x.kind)).setIfInBounds (k * 5 + 2) (.int .i64 x.attr)).setIfInBounds (k * 5 + 3) (.string x.text)).setIfInBounds (k * 5 + 4) (.slice (some ⟨bo, 0, none⟩) x.kids.length co)).size = l.length * 5 := by simp [hcs]
      have HSz := hide hsz5
      clear q1 q2 hsz5 hall hh hh1
      go_wp2_with fail
      exact ⟨⟨k + 1, _, by omega, by go_num, HQ1, HSz.out, HAll2, HB5.out⟩, by simp [intOf]; omega⟩
    · clear hk
      go_wp2_with fail
      go_ret
      exact ⟨_, rfl, ⟨w.heap.size, l.length, cs, rfl, Nat.le_refl _, hlt2, hh.out, fun j hj => hall.out j (by omega)⟩, hbr⟩
end Go.Proofs.YtfjhpfgffbghdaaGreatDoor

namespace Go.Proofs.YtfjhpfgffbghdaaGreatDoor
open Go.RowKit

/-- The value is a document in memory of its own. -/
def DocOwn (lo hi : Nat) (w : World) (v : Value) (d : PDoc) : Prop :=
  ∃ s, v = .agg #[.int .i64 d.root, .int .i64 d.next, s] ∧ NodesOwn lo hi w s d.nodes

theorem DocOwn.at {lo hi : Nat} {w : World} {v : Value} {d : PDoc} (h : DocOwn lo hi w v d) : DocAt hi w v d := by
  obtain ⟨s, rfl, h⟩ := h
  exact ⟨s, rfl, h.at⟩

theorem DocOwn.below {lo hi : Nat} {w w' : World} {v : Value} {d : PDoc} (h : DocOwn lo hi w v d) (hb : Below hi w w') : DocOwn lo hi w' v d := by
  obtain ⟨s, rfl, h⟩ := h
  exact ⟨s, rfl, h.below hb⟩

theorem DocAt.form {n₀ : Nat} {w : World} {v : Value} {d : PDoc} (h : DocAt n₀ w v d) : ∃ a cap, v = .agg #[.int .i64 d.root, .int .i64 d.next, .slice a d.nodes.length cap] ∧ NodesAt n₀ w (.slice a d.nodes.length cap) d.nodes := by
  obtain ⟨s, rfl, hk⟩ := h
  have hk' := hk
  obtain ⟨a, cap, rfl, -⟩ := hk
  exact ⟨a, cap, rfl, hk'⟩

theorem NodesOwn.heap {lo hi lo' hi' : Nat} {w w' : World} {v : Value} {l : List PNode} (h : NodesOwn lo hi w v l) (hl : lo' ≤ lo) (hh : hi ≤ hi') (hb : ∀ b, lo ≤ b → b < hi → w'.heap[b]? = w.heap[b]?) : NodesOwn lo' hi' w' v l := by
  obtain ⟨b, cap, cs, rfl, h1, h2, h3, h4⟩ := h
  refine ⟨b, cap, cs, rfl, by omega, by omega, (hb b h1 h2).trans h3, fun j hj => ?_⟩
  obtain ⟨kv, g0, g1, g2, g3, g4, g5⟩ := h4 j hj
  exact ⟨kv, g0, g1, g2, g3, g4, g5.heap (Nat.le_refl _) hh fun b h6 h7 => hb b (by omega) h7⟩

/-- Small enough for the laws. -/
structure Small (d : PDoc) : Prop where
  len : d.nodes.length ≤ 1048576
  kids : ∀ x ∈ d.nodes, x.kids.length ≤ 1048576
  text : ∀ x ∈ d.nodes, x.text.size ≤ 1048576

set_option maxHeartbeats 1000000 in
set_option maxRecDepth 100000 in
theorem toDoc_any (n₀ : Nat) (v : Value) (d : PDoc) (w : World) (h : DocAt n₀ w v d) (hn : n₀ ≤ w.heap.size) (S : Small d) :
    Calls Tryz.prog 9 #[v] w fun e w' => ∃ u, e = .returned u ∧ DocOwn w.heap.size w'.heap.size w' u d ∧ Below w.heap.size w w' := by
  obtain ⟨s, rfl, hk⟩ := h
  have HT : Hid (∀ w1, Below w.heap.size w w1 → Calls Tryz.prog 32 #[s] w1 fun e w' => ∃ u, e = .returned u ∧ NodesOwn w1.heap.size w'.heap.size w' u d.nodes ∧ Below w1.heap.size w1 w') := fun w1 hb =>
    toNodes_any n₀ s d.nodes w1 (hk.below (Nat.le_refl _) (hb.mono hn)) (by have := hb.size; omega) S.len S.kids
  obtain ⟨a, cap, rfl, -⟩ := hk
  clear S
  have hW3 := (((Below.refl w.heap.size w).alloc (Nat.le_refl _) (.cells #[.int .i64 d.root, .int .i64 d.next, .slice a d.nodes.length cap] 24)).alloc (by simp) (.cells #[.int .i64 0, .int .i64 0, .slice none 0 0] 38)).alloc (by simp; omega) (.cells #[.int .i64 d.root, .int .i64 d.next, .slice none 0 0] 38)
  go_enter Tryz.func9, Tryz.ntmps9
  go_wp2_with fail
  refine (HT.out _ hW3).mono ?_
  rintro e w1 ⟨u, rfl, hown, hb1⟩
  simp only [World.size_alloc] at hown hb1
  have hlt := hb1.size
  simp only [World.size_alloc] at hlt
  have hb1' := hW3.trans (hb1.mono (by omega))
  have hcx : ∀ b o, b < w.heap.size + 1 + 1 + 1 → w1.cell? ⟨b, o, none⟩ = _ := fun b o h => hb1.cell (p := ⟨b, o, none⟩) h
  have hfx : ∀ b o, b < w.heap.size + 1 + 1 + 1 → w1.frozen? ⟨b, o, none⟩ = _ := fun b o h => hb1.frozen (p := ⟨b, o, none⟩) h
  have hz1 : w.heap.size + 1 < w1.heap.size := by omega
  have hz2 : w.heap.size + 1 + 1 < w1.heap.size := by omega
  have HOwn := hide hown
  obtain ⟨bo, co, cs, rfl, hlo, hhi, hbo, -⟩ := hown
  have HHeap : Hid (∀ w2 : World, (∀ k, w.heap.size + 1 + 1 < k → w2.heap[k]? = w1.heap[k]?) → w2.heap.size = w1.heap.size → NodesOwn w.heap.size w2.heap.size w2 (.slice (some ⟨bo, 0, none⟩) d.nodes.length co) d.nodes) := fun w2 h2 hs2 =>
    HOwn.out.heap (by omega) (by omega) fun k h3 _ => h2 k (by omega)
  clear hbo HT
  go_wp2_with fail
  refine bodyPost_ret (v := .agg #[.int .i64 d.root, .int .i64 d.next, .slice (some ⟨bo, 0, none⟩) d.nodes.length co]) (by simp [results, Tryz.results9, go_sem, hcx]) rfl ⟨_, rfl, ⟨_, rfl, HHeap.out _ ?_ (by simp)⟩, ?_⟩
  · intro k hk
    iterate 4 rw [heap_setCell_other _ _ _ _ (by show k ≠ _; simp; omega)]
  · exact (((hb1'.setCell (p := ⟨w.heap.size + 1 + 1, 2, none⟩) (by simp; omega) _).setCell (p := ⟨w.heap.size + 1, 0, none⟩) (by simp) _).setCell (p := ⟨w.heap.size + 1, 1, none⟩) (by simp) _).setCell (p := ⟨w.heap.size + 1, 2, none⟩) (by simp) _

set_option maxHeartbeats 400000 in
theorem szNode_any (x : PNode) (a : Option Addr) (cap : Nat) (c : Int) (w : World) (h0 : 0 ≤ c) (h1 : c ≤ 1048576) (hl : x.kids.length ≤ 9223372036854775807) (ht : x.text.size ≤ 9223372036854775807) :
    Calls Tryz.prog 50 #[.agg #[.int .i64 x.id, .int .i64 x.kind, .int .i64 x.attr, .string x.text, .slice a x.kids.length cap], .int .i64 c] w fun e w' => ∃ r, e = .returned (.int .i64 r) ∧ -1 ≤ r ∧ r ≤ c ∧ (0 ≤ r → x.kids.length ≤ 1048576 ∧ x.text.size ≤ 1048576) ∧ Below w.heap.size w w' := by
  by_cases h : c - x.text.size < 0
  · go_enter Tryz.func50, Tryz.ntmps50
    go_wp2_with fail
    go_ret
    exact ⟨_, rfl, by omega, by omega, by omega, (Below.refl _ _).alloc (Nat.le_refl _) _⟩
  · have HS := hide (fun w1 => szInts_any a x.kids.length cap (c - x.text.size) w1 (by omega) (by omega) hl)
    go_enter Tryz.func50, Tryz.ntmps50
    go_wp2_with fail
    refine (HS.out _).mono ?_
    rintro e w1 ⟨r, rfl, hr1, hr2, hr3, rfl⟩
    by_cases hr : r < 0
    · go_wp2_with fail
      go_ret
      exact ⟨_, rfl, by omega, by omega, by omega, (Below.refl _ _).alloc (Nat.le_refl _) _⟩
    · have HR := hide hr3
      clear hr3
      go_wp2_with fail
      go_ret
      exact ⟨_, rfl, by omega, by omega, fun h => ⟨HR.out h, by omega⟩, (Below.refl _ _).alloc (Nat.le_refl _) _⟩

set_option maxHeartbeats 1000000 in
set_option maxRecDepth 100000 in
theorem szNodes_any (n₀ : Nat) (v : Value) (l : List PNode) (c : Int) (w : World) (h : NodesAt n₀ w v l) (hn : n₀ ≤ w.heap.size) (h0 : 0 ≤ c) (h1 : c ≤ 1048576) (hl : l.length ≤ 9223372036854775807) (hk : ∀ x ∈ l, x.kids.length ≤ 9223372036854775807 ∧ x.text.size ≤ 9223372036854775807) :
    Calls Tryz.prog 24 #[v, .int .i64 c] w fun e w' => ∃ r, e = .returned (.int .i64 r) ∧ -1 ≤ r ∧ r ≤ c ∧ (0 ≤ r → l.length ≤ 1048576 ∧ ∀ x ∈ l, x.kids.length ≤ 1048576 ∧ x.text.size ≤ 1048576) ∧ Below w.heap.size w w' := by
  obtain ⟨a, cap, rfl, hk'⟩ := h
  have HK := hide hk
  clear hk
  by_cases h : c - l.length < 0
  · clear hk'
    go_enter Tryz.func24, Tryz.ntmps24
    go_wp2_with fail
    go_ret
    exact ⟨_, rfl, by omega, by omega, by omega, Below.refl _ _⟩
  · go_enter Tryz.func24, Tryz.ntmps24
    go_wp2_with fail
    go_loopw [1, 5] (fun cv i wr => ∃ (k : Nat) (r : Int), k ≤ l.length ∧ i = .int .i64 k ∧ cv = .int .i64 r ∧ 0 ≤ r ∧ r ≤ c ∧ Hid (∀ x ∈ l.take k, x.kids.length ≤ 1048576 ∧ x.text.size ≤ 1048576) ∧ Below w.heap.size w wr) (fun _ i _ => l.length - (intOf i).toNat)
    case atStart => exact ⟨0, _, Nat.zero_le _, rfl, rfl, by omega, by omega, by simp [Hid], Below.refl _ _⟩
    case round =>
      obtain ⟨k, r, hkl, rfl, rfl, hr0, hrc, hall, hbr⟩ := hrel
      have hsz := hbr.size
      by_cases hlt : k < l.length
      · obtain ⟨b, off, rfl, hb, hc⟩ := hk'.resolve_left (by intro e; simp [e] at hlt)
        have hA := (hc k hlt).below hb (Nat.le_refl _) (hbr.mono hn)
        have hlx := HK.out (l[k]?.getD nodeNil) (by simp [hlt])
        have g0 := hA.c0
        have g1 := hA.c1
        have g2 := hA.c2
        have g3 := hA.c3
        obtain ⟨kv, g4, ak, ck, rfl, -⟩ := hA.c4
        have HCall := hide (szNode_any (l[k]?.getD nodeNil) ak ck r wr hr0 (by omega) hlx.1 hlx.2)
        have HSn := hide (@take_no_snoc l k hlt (fun x => x.kids.length ≤ 1048576 ∧ x.text.size ≤ 1048576) hall.out)
        have hbw : b < wr.heap.size := by omega
        clear hA hc hk' hlx hall
        generalize l[k]?.getD nodeNil = x at *
        go_wp2_with fail
        refine HCall.out.mono ?_
        rintro e w1 ⟨r1, rfl, hr1, hr2, hr3, hb1⟩
        by_cases hr : r1 < 0
        · clear hr3
          go_wp2_with fail
          go_ret
          exact ⟨_, rfl, by omega, by omega, by omega, hbr.trans (hb1.mono hsz)⟩
        · have HA2 := hide (HSn.out (hr3 (by omega)))
          clear hr3 HCall
          go_wp2_with fail
          exact ⟨⟨k + 1, r1, by omega, by go_num, rfl, by omega, by omega, HA2, hbr.trans (hb1.mono hsz)⟩, by simp [intOf]; omega⟩
      · have HA2 : Hid (∀ x ∈ l, x.kids.length ≤ 1048576 ∧ x.text.size ≤ 1048576) := by have := hall.out; rwa [List.take_of_length_le (by omega)] at this
        clear hk' hall
        go_wp2_with fail
        go_ret
        exact ⟨_, rfl, by omega, by omega, fun _ => ⟨by omega, HA2.out⟩, hbr⟩

/-- Lists and texts that the model's memory can hold. -/
structure Fits (d : PDoc) : Prop where
  len : d.nodes.length ≤ 9223372036854775807
  nodes : ∀ x ∈ d.nodes, x.kids.length ≤ 9223372036854775807 ∧ x.text.size ≤ 9223372036854775807

set_option maxHeartbeats 400000 in
theorem szDoc_any (n₀ : Nat) (v : Value) (d : PDoc) (c : Int) (w : World) (h : DocAt n₀ w v d) (hn : n₀ ≤ w.heap.size) (h0 : 0 ≤ c) (h1 : c ≤ 1048576) (hf : Fits d) :
    Calls Tryz.prog 6 #[v, .int .i64 c] w fun e w' => ∃ r, e = .returned (.int .i64 r) ∧ -1 ≤ r ∧ r ≤ c ∧ (0 ≤ r → Small d) ∧ Below w.heap.size w w' := by
  obtain ⟨s, rfl, hk⟩ := h
  have hW := (Below.refl w.heap.size w).alloc (Nat.le_refl _) (.cells #[.int .i64 d.root, .int .i64 d.next, s] 24)
  have HS := hide (szNodes_any n₀ s d.nodes c (w.alloc (.cells #[.int .i64 d.root, .int .i64 d.next, s] 24)) (hk.below (Nat.le_refl _) (hW.mono hn)) (by simp; omega) h0 h1 hf.len hf.nodes)
  obtain ⟨a, cap, rfl, -⟩ := hk
  clear hf
  go_enter Tryz.func6, Tryz.ntmps6
  go_wp2_with fail
  refine HS.out.mono ?_
  rintro e w1 ⟨r, rfl, hr1, hr2, hr3, hb1⟩
  simp only [World.size_alloc] at hb1
  have HR : Hid (0 ≤ r → Small d) := fun h => ⟨(hr3 h).1, fun x hx => ((hr3 h).2 x hx).1, fun x hx => ((hr3 h).2 x hx).2⟩
  clear hr3
  by_cases hr : r < 0
  · go_wp2_with fail
    go_ret
    exact ⟨_, rfl, by omega, by omega, by omega, hW.trans (hb1.mono (by omega))⟩
  · go_wp2_with fail
    go_ret
    exact ⟨_, rfl, by omega, by omega, HR.out, hW.trans (hb1.mono (by omega))⟩
end Go.Proofs.YtfjhpfgffbghdaaGreatDoor
