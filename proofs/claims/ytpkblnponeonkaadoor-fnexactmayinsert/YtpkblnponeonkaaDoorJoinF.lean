/-
  The law package's copy of a whole document, and how it asks whether one is small enough.
  The law package's marks on a list of numbers: what markIntS writes and what heldIntS answers behind it.
  A list of numbers in a block of its own, or none; what is written elsewhere leaves it.
  The law package's marking text of a number.
  Marks on a list of numbers keep the sizes of all blocks; what is written within bounds.
  The law package's markText at every number that its marks come to.
  The law package's marks on a whole document: where they write.
  What the laws on documents that answer lists lean on.
  The law package's marks on terms and rules: they are written into their own memory, and nowhere else.
-/
import Derived.Test.YtpkblnponeonkaaDoorJoinC
import Derived.Test.YtpkblnponeonkaaDoorLawInts
import Derived.Test.YtpkblnponeonkaaDoorBasicIn
import Derived.Test.YtpkblnponeonkaaDoorRowFacts
import Derived.Laws.BitsAllLaws
import Derived.Test.YtpkblnponeonkaaDoorImplAt
import Derived.Test.YtpkblnponeonkaaDoorOrderPlain
import Derived.Test.YtpkblnponeonkaaDoorJoinE
namespace Go.Proofs.YtpkblnponeonkaaDoor
open Go.RowKit

/-- The value is a document in memory of its own. -/
def DocOwn (lo hi : Nat) (w : World) (v : Value) (d : PDoc) : Prop :=
  ∃ s, v = .agg #[.int .i64 d.root, .int .i64 d.next, s] ∧ NodesOwn lo hi w s d.nodes

theorem DocOwn.at {lo hi : Nat} {w : World} {v : Value} {d : PDoc} (h : DocOwn lo hi w v d) : DocAt hi w v d := by
  obtain ⟨s, rfl, h⟩ := h
  exact ⟨s, rfl, h.at⟩

theorem DocOwn.below {lo hi : Nat} {w w' : World} {v : Value} {d : PDoc} (h : DocOwn lo hi w v d) (hb : Below hi w w') : DocOwn lo hi w' v d := by
  obtain ⟨s, rfl, h⟩ := h
  exact ⟨s, rfl, h.below hb⟩

theorem DocAt.form {n₀ : Nat} {w : World} {v : Value} {d : PDoc} (h : DocAt n₀ w v d) : ∃ a cap, v = .agg #[.int .i64 d.root, .int .i64 d.next, .slice a d.nodes.length cap] ∧ NodesAt n₀ w (.slice a d.nodes.length cap) d.nodes := by
  obtain ⟨s, rfl, hk⟩ := h
  have hk' := hk
  obtain ⟨a, cap, rfl, -⟩ := hk
  exact ⟨a, cap, rfl, hk'⟩

theorem NodesOwn.heap {lo hi lo' hi' : Nat} {w w' : World} {v : Value} {l : List PNode} (h : NodesOwn lo hi w v l) (hl : lo' ≤ lo) (hh : hi ≤ hi') (hb : ∀ b, lo ≤ b → b < hi → w'.heap[b]? = w.heap[b]?) : NodesOwn lo' hi' w' v l := by
  obtain ⟨b, cap, cs, rfl, h1, h2, h3, h4⟩ := h
  refine ⟨b, cap, cs, rfl, by omega, by omega, (hb b h1 h2).trans h3, fun j hj => ?_⟩
  obtain ⟨kv, g0, g1, g2, g3, g4, g5⟩ := h4 j hj
  exact ⟨kv, g0, g1, g2, g3, g4, g5.heap (Nat.le_refl _) hh fun b h6 h7 => hb b (by omega) h7⟩

/-- Small enough for the laws. -/
structure Small (d : PDoc) : Prop where
  len : d.nodes.length ≤ 1048576
  kids : ∀ x ∈ d.nodes, x.kids.length ≤ 1048576
  text : ∀ x ∈ d.nodes, x.text.size ≤ 1048576

set_option maxHeartbeats 1000000 in
set_option maxRecDepth 100000 in
theorem toDoc_any (n₀ : Nat) (v : Value) (d : PDoc) (w : World) (h : DocAt n₀ w v d) (hn : n₀ ≤ w.heap.size) (S : Small d) :
    Calls Tryd.prog 20 #[v] w fun e w' => ∃ u, e = .returned u ∧ DocOwn w.heap.size w'.heap.size w' u d ∧ Below w.heap.size w w' := by
  obtain ⟨s, rfl, hk⟩ := h
  have HT : Hid (∀ w1, Below w.heap.size w w1 → Calls Tryd.prog 51 #[s] w1 fun e w' => ∃ u, e = .returned u ∧ NodesOwn w1.heap.size w'.heap.size w' u d.nodes ∧ Below w1.heap.size w1 w') := fun w1 hb =>
    toNodes_any n₀ s d.nodes w1 (hk.below (Nat.le_refl _) (hb.mono hn)) (by have := hb.size; omega) S.len S.kids
  obtain ⟨a, cap, rfl, -⟩ := hk
  clear S
  have hW3 := (((Below.refl w.heap.size w).alloc (Nat.le_refl _) (.cells #[.int .i64 d.root, .int .i64 d.next, .slice a d.nodes.length cap] 38)).alloc (by simp) (.cells #[.int .i64 0, .int .i64 0, .slice none 0 0] 48)).alloc (by simp; omega) (.cells #[.int .i64 d.root, .int .i64 d.next, .slice none 0 0] 48)
  go_enter Tryd.func20, Tryd.ntmps20
  go_wp2_with fail
  refine (HT.out _ hW3).mono ?_
  rintro e w1 ⟨u, rfl, hown, hb1⟩
  simp only [World.size_alloc] at hown hb1
  have hlt := hb1.size
  simp only [World.size_alloc] at hlt
  have hb1' := hW3.trans (hb1.mono (by omega))
  have hcx : ∀ b o, b < w.heap.size + 1 + 1 + 1 → w1.cell? ⟨b, o, none⟩ = _ := fun b o h => hb1.cell (p := ⟨b, o, none⟩) h
  have hfx : ∀ b o, b < w.heap.size + 1 + 1 + 1 → w1.frozen? ⟨b, o, none⟩ = _ := fun b o h => hb1.frozen (p := ⟨b, o, none⟩) h
  have hz1 : w.heap.size + 1 < w1.heap.size := by omega
  have hz2 : w.heap.size + 1 + 1 < w1.heap.size := by omega
  have HOwn := hide hown
  obtain ⟨bo, co, cs, rfl, hlo, hhi, hbo, -⟩ := hown
  have HHeap : Hid (∀ w2 : World, (∀ k, w.heap.size + 1 + 1 < k → w2.heap[k]? = w1.heap[k]?) → w2.heap.size = w1.heap.size → NodesOwn w.heap.size w2.heap.size w2 (.slice (some ⟨bo, 0, none⟩) d.nodes.length co) d.nodes) := fun w2 h2 hs2 =>
    HOwn.out.heap (by omega) (by omega) fun k h3 _ => h2 k (by omega)
  clear hbo HT
  go_wp2_with fail
  refine bodyPost_ret (v := .agg #[.int .i64 d.root, .int .i64 d.next, .slice (some ⟨bo, 0, none⟩) d.nodes.length co]) (by simp [results, Tryd.results20, go_sem, hcx]) rfl ⟨_, rfl, ⟨_, rfl, HHeap.out _ ?_ (by simp)⟩, ?_⟩
  · intro k hk
    iterate 4 rw [heap_setCell_other _ _ _ _ (by show k ≠ _; simp; omega)]
  · exact (((hb1'.setCell (p := ⟨w.heap.size + 1 + 1, 2, none⟩) (by simp; omega) _).setCell (p := ⟨w.heap.size + 1, 0, none⟩) (by simp) _).setCell (p := ⟨w.heap.size + 1, 1, none⟩) (by simp) _).setCell (p := ⟨w.heap.size + 1, 2, none⟩) (by simp) _

set_option maxHeartbeats 400000 in
theorem szNode_any (x : PNode) (a : Option Addr) (cap : Nat) (c : Int) (w : World) (h0 : 0 ≤ c) (h1 : c ≤ 1048576) (hl : x.kids.length ≤ 9223372036854775807) (ht : x.text.size ≤ 9223372036854775807) :
    Calls Tryd.prog 77 #[.agg #[.int .i64 x.id, .int .i64 x.kind, .int .i64 x.attr, .string x.text, .slice a x.kids.length cap], .int .i64 c] w fun e w' => ∃ r, e = .returned (.int .i64 r) ∧ -1 ≤ r ∧ r ≤ c ∧ (0 ≤ r → x.kids.length ≤ 1048576 ∧ x.text.size ≤ 1048576) ∧ Below w.heap.size w w' := by
  by_cases h : c - x.text.size < 0
  · go_enter Tryd.func77, Tryd.ntmps77
    go_wp2_with fail
    go_ret
    exact ⟨_, rfl, by omega, by omega, by omega, (Below.refl _ _).alloc (Nat.le_refl _) _⟩
  · have HS := hide (fun w1 => szInts_any a x.kids.length cap (c - x.text.size) w1 (by omega) (by omega) hl)
    go_enter Tryd.func77, Tryd.ntmps77
    go_wp2_with fail
    refine (HS.out _).mono ?_
    rintro e w1 ⟨r, rfl, hr1, hr2, hr3, rfl⟩
    by_cases hr : r < 0
    · go_wp2_with fail
      go_ret
      exact ⟨_, rfl, by omega, by omega, by omega, (Below.refl _ _).alloc (Nat.le_refl _) _⟩
    · have HR := hide hr3
      clear hr3
      go_wp2_with fail
      go_ret
      exact ⟨_, rfl, by omega, by omega, fun h => ⟨HR.out h, by omega⟩, (Below.refl _ _).alloc (Nat.le_refl _) _⟩

set_option maxHeartbeats 1000000 in
set_option maxRecDepth 100000 in
theorem szNodes_any (n₀ : Nat) (v : Value) (l : List PNode) (c : Int) (w : World) (h : NodesAt n₀ w v l) (hn : n₀ ≤ w.heap.size) (h0 : 0 ≤ c) (h1 : c ≤ 1048576) (hl : l.length ≤ 9223372036854775807) (hk : ∀ x ∈ l, x.kids.length ≤ 9223372036854775807 ∧ x.text.size ≤ 9223372036854775807) :
    Calls Tryd.prog 44 #[v, .int .i64 c] w fun e w' => ∃ r, e = .returned (.int .i64 r) ∧ -1 ≤ r ∧ r ≤ c ∧ (0 ≤ r → l.length ≤ 1048576 ∧ ∀ x ∈ l, x.kids.length ≤ 1048576 ∧ x.text.size ≤ 1048576) ∧ Below w.heap.size w w' := by
  obtain ⟨a, cap, rfl, hk'⟩ := h
  have HK := hide hk
  clear hk
  by_cases h : c - l.length < 0
  · clear hk'
    go_enter Tryd.func44, Tryd.ntmps44
    go_wp2_with fail
    go_ret
    exact ⟨_, rfl, by omega, by omega, by omega, Below.refl _ _⟩
  · go_enter Tryd.func44, Tryd.ntmps44
    go_wp2_with fail
    go_loopw [1, 5] (fun cv i wr => ∃ (k : Nat) (r : Int), k ≤ l.length ∧ i = .int .i64 k ∧ cv = .int .i64 r ∧ 0 ≤ r ∧ r ≤ c ∧ Hid (∀ x ∈ l.take k, x.kids.length ≤ 1048576 ∧ x.text.size ≤ 1048576) ∧ Below w.heap.size w wr) (fun _ i _ => l.length - (intOf i).toNat)
    case atStart => exact ⟨0, _, Nat.zero_le _, rfl, rfl, by omega, by omega, by simp [Hid], Below.refl _ _⟩
    case round =>
      obtain ⟨k, r, hkl, rfl, rfl, hr0, hrc, hall, hbr⟩ := hrel
      have hsz := hbr.size
      by_cases hlt : k < l.length
      · obtain ⟨b, off, rfl, hb, hc⟩ := hk'.resolve_left (by intro e; simp [e] at hlt)
        have hA := (hc k hlt).below hb (Nat.le_refl _) (hbr.mono hn)
        have hlx := HK.out (l[k]?.getD nodeNil) (by simp [hlt])
        have g0 := hA.c0
        have g1 := hA.c1
        have g2 := hA.c2
        have g3 := hA.c3
        obtain ⟨kv, g4, ak, ck, rfl, -⟩ := hA.c4
        have HCall := hide (szNode_any (l[k]?.getD nodeNil) ak ck r wr hr0 (by omega) hlx.1 hlx.2)
        have HSn := hide (@take_no_snoc l k hlt (fun x => x.kids.length ≤ 1048576 ∧ x.text.size ≤ 1048576) hall.out)
        have hbw : b < wr.heap.size := by omega
        clear hA hc hk' hlx hall
        generalize l[k]?.getD nodeNil = x at *
        go_wp2_with fail
        refine HCall.out.mono ?_
        rintro e w1 ⟨r1, rfl, hr1, hr2, hr3, hb1⟩
        by_cases hr : r1 < 0
        · clear hr3
          go_wp2_with fail
          go_ret
          exact ⟨_, rfl, by omega, by omega, by omega, hbr.trans (hb1.mono hsz)⟩
        · have HA2 := hide (HSn.out (hr3 (by omega)))
          clear hr3 HCall
          go_wp2_with fail
          exact ⟨⟨k + 1, r1, by omega, by go_num, rfl, by omega, by omega, HA2, hbr.trans (hb1.mono hsz)⟩, by simp [intOf]; omega⟩
      · have HA2 : Hid (∀ x ∈ l, x.kids.length ≤ 1048576 ∧ x.text.size ≤ 1048576) := by have := hall.out; rwa [List.take_of_length_le (by omega)] at this
        clear hk' hall
        go_wp2_with fail
        go_ret
        exact ⟨_, rfl, by omega, by omega, fun _ => ⟨by omega, HA2.out⟩, hbr⟩

/-- Lists and texts that the model's memory can hold. -/
structure Fits (d : PDoc) : Prop where
  len : d.nodes.length ≤ 9223372036854775807
  nodes : ∀ x ∈ d.nodes, x.kids.length ≤ 9223372036854775807 ∧ x.text.size ≤ 9223372036854775807

set_option maxHeartbeats 400000 in
theorem szDoc_any (n₀ : Nat) (v : Value) (d : PDoc) (c : Int) (w : World) (h : DocAt n₀ w v d) (hn : n₀ ≤ w.heap.size) (h0 : 0 ≤ c) (h1 : c ≤ 1048576) (hf : Fits d) :
    Calls Tryd.prog 17 #[v, .int .i64 c] w fun e w' => ∃ r, e = .returned (.int .i64 r) ∧ -1 ≤ r ∧ r ≤ c ∧ (0 ≤ r → Small d) ∧ Below w.heap.size w w' := by
  obtain ⟨s, rfl, hk⟩ := h
  have hW := (Below.refl w.heap.size w).alloc (Nat.le_refl _) (.cells #[.int .i64 d.root, .int .i64 d.next, s] 38)
  have HS := hide (szNodes_any n₀ s d.nodes c (w.alloc (.cells #[.int .i64 d.root, .int .i64 d.next, s] 38)) (hk.below (Nat.le_refl _) (hW.mono hn)) (by simp; omega) h0 h1 hf.len hf.nodes)
  obtain ⟨a, cap, rfl, -⟩ := hk
  clear hf
  go_enter Tryd.func17, Tryd.ntmps17
  go_wp2_with fail
  refine HS.out.mono ?_
  rintro e w1 ⟨r, rfl, hr1, hr2, hr3, hb1⟩
  simp only [World.size_alloc] at hb1
  have HR : Hid (0 ≤ r → Small d) := fun h => ⟨(hr3 h).1, fun x hx => ((hr3 h).2 x hx).1, fun x hx => ((hr3 h).2 x hx).2⟩
  clear hr3
  by_cases hr : r < 0
  · go_wp2_with fail
    go_ret
    exact ⟨_, rfl, by omega, by omega, by omega, hW.trans (hb1.mono (by omega))⟩
  · go_wp2_with fail
    go_ret
    exact ⟨_, rfl, by omega, by omega, HR.out, hW.trans (hb1.mono (by omega))⟩
end Go.Proofs.YtpkblnponeonkaaDoor

namespace Go.Proofs.YtpkblnponeonkaaDoor
open Go.RowKit

/-- A list that lies at the start of a block of its own; or an empty one. -/
def RowIn (w : World) (a : Option Addr) (n : Nat) (T : TypeId) : Prop :=
  n = 0 ∨ ∃ b cs, a = some ⟨b, 0, none⟩ ∧ w.heap[b]? = some (.cells cs T (0, 0)) ∧ n ≤ cs.size

/-- The list's block is written, and nothing else. -/
structure OnlyRow (w w' : World) (a : Option Addr) : Prop where
  size : w'.heap.size = w.heap.size
  same : ∀ m, (∀ b, a = some ⟨b, 0, none⟩ → m ≠ b) → w'.heap[m]? = w.heap[m]?
  below : ∀ n, (∀ b, a = some ⟨b, 0, none⟩ → n ≤ b) → Below n w w'

/-- The numbers from k on lie in it. -/
def MarksIn (w : World) (a : Option Addr) (n : Nat) (k : Int) (T : TypeId) : Prop :=
  n = 0 ∨ ∃ b cs, a = some ⟨b, 0, none⟩ ∧ w.heap[b]? = some (.cells cs T (0, 0)) ∧ n ≤ cs.size ∧ ∀ j, j < n → cs[j]? = some (.int .i64 (k + j))

set_option maxHeartbeats 400000 in
theorem markInts_any (a : Option Addr) (n cap : Nat) (k : Int) (w : World) (h : RowIn w a n 3) (hn : n ≤ 1048576) (hk0 : 0 ≤ k) (hk : k ≤ 1000000000000) :
    Calls Tryd.prog 27 #[.slice a n cap, .int .i64 k] w fun e w' => e = .returned (.int .i64 (k + n)) ∧ OnlyRow w w' a ∧ MarksIn w' a n k 3 := by
  rcases h with rfl | ⟨b, cs, rfl, hh, hsz⟩
  · go_enter Tryd.func27, Tryd.ntmps27
    go_wp2_with fail
    go_loopw [1, 5] (fun kv i wr => kv = .int .i64 k ∧ i = .int .i64 0 ∧ wr = w) (fun _ _ _ => 0)
    case atStart => exact ⟨rfl, rfl, rfl⟩
    case round =>
      obtain ⟨rfl, rfl, rfl⟩ := hrel
      go_wp2_with fail
      go_ret
      exact ⟨ret_int (by simp), ⟨rfl, fun _ _ => rfl, fun _ _ => Below.refl _ _⟩, .inl rfl⟩
  · go_enter Tryd.func27, Tryd.ntmps27
    go_wp2_with fail
    go_loopw [1, 5] (fun kv i wr => ∃ (j : Nat) (cs' : Array Value), j ≤ n ∧ kv = .int .i64 (k + j) ∧ i = .int .i64 j ∧ wr.heap.size = w.heap.size ∧ Below b w wr ∧ Hid (∀ m, m ≠ b → wr.heap[m]? = w.heap[m]?) ∧ wr.heap[b]? = some (.cells cs' 3 (0, 0)) ∧ cs'.size = cs.size ∧ Hid (∀ i, i < j → cs'[i]? = some (.int .i64 (k + i)))) (fun _ i _ => n - (intOf i).toNat)
    case atStart => exact ⟨0, cs, Nat.zero_le _, by simp, rfl, rfl, Below.refl _ _, fun _ _ => rfl, hh, rfl, fun i hi => absurd hi (by omega)⟩
    case round =>
      obtain ⟨j, cs', hj, rfl, rfl, hsw, hbl0, hoth, hbl, hcs, hmk⟩ := hrel
      by_cases hlt : j < n
      · have hc : wr.cell? ⟨b, j, none⟩ = some (cs'[j]?.getD (.int .i64 0)) := by
          rw [cell_of_heap hbl j]
          have : j < cs'.size := by omega
          simp [this]
        have hfz := frozen_of_heap hbl j
        have hlt1 : (j : Int) < (n : Int) := by omega
        have HH := hide hbl
        have H1 := hide hh
        clear hbl hh
        generalize cs'[j]?.getD (.int .i64 0) = old at *
        go_wp2_with fail
        refine ⟨⟨j + 1, cs'.setIfInBounds j (.int .i64 (k + j)), by omega, by go_num, by go_num, by simp [hsw], hbl0.setCell (p := ⟨b, j, none⟩) (Nat.le_refl _) _, fun m hm => ?_, ?_, by simp [hcs], fun i hi => ?_⟩, by simp [intOf]; omega⟩
        · rw [heap_setCell_other _ _ _ _ (by exact hm)]; exact hoth.out m hm
        · exact heap_setCell_same _ _ _ _ _ _ HH.out
        · rw [Array.getElem?_setIfInBounds]
          rcases Nat.lt_succ_iff_lt_or_eq.1 hi with h | rfl
          · rw [if_neg (by omega)]; exact hmk.out i h
          · rw [if_pos rfl, if_pos (by omega)]
      · obtain rfl : j = n := by omega
        have HH := hide hbl
        have H1 := hide hh
        clear hbl hh
        go_wp2_with fail
        go_ret
        exact ⟨rfl, ⟨hsw, fun m hm => hoth.out m (hm b rfl), fun n hn => hbl0.mono (hn b rfl)⟩, .inr ⟨b, cs', rfl, HH.out, by omega, hmk.out⟩⟩

set_option maxHeartbeats 400000 in
theorem heldInts_any (a : Option Addr) (n cap : Nat) (k : Int) (w : World) (h : MarksIn w a n k 3) (hn : n ≤ 1048576) (hk0 : 0 ≤ k) (hk : k ≤ 1000000000000) :
    Calls Tryd.prog 28 #[.slice a n cap, .int .i64 k] w fun e w' => e = .returned (.int .i64 (k + n)) ∧ w' = w := by
  rcases h with rfl | ⟨b, cs, rfl, hh, hsz, hm⟩
  · go_enter Tryd.func28, Tryd.ntmps28
    go_wp2_with fail
    go_loopw [1, 5] (fun kv i wr => kv = .int .i64 k ∧ i = .int .i64 0 ∧ wr = w) (fun _ _ _ => 0)
    case atStart => exact ⟨rfl, rfl, rfl⟩
    case round =>
      obtain ⟨rfl, rfl, rfl⟩ := hrel
      go_wp2_with fail
      go_ret
      exact ⟨ret_int (by simp), rfl⟩
  · have HM := hide hm
    have HH := hide hh
    clear hm hh
    go_enter Tryd.func28, Tryd.ntmps28
    go_wp2_with fail
    go_loopw [1, 5] (fun kv i wr => ∃ j : Nat, j ≤ n ∧ kv = .int .i64 (k + j) ∧ i = .int .i64 j ∧ wr = w) (fun _ i _ => n - (intOf i).toNat)
    case atStart => exact ⟨0, Nat.zero_le _, by simp, rfl, rfl⟩
    case round =>
      obtain ⟨j, hj, rfl, rfl, rfl⟩ := hrel
      by_cases hlt : j < n
      · have hc : wr.cell? ⟨b, j, none⟩ = some (.int .i64 (k + j)) := by rw [cell_of_heap HH.out j]; exact HM.out j hlt
        have hlt1 : (j : Int) < (n : Int) := by omega
        go_wp2_with fail
        exact ⟨⟨j + 1, by omega, by go_num, by go_num, by trivial⟩, by simp [intOf]; omega⟩
      · obtain rfl : j = n := by omega
        go_wp2_with fail
        go_ret
        exact ⟨rfl, rfl⟩
end Go.Proofs.YtpkblnponeonkaaDoor

namespace Go.Proofs.YtpkblnponeonkaaDoor
open Go.RowKit

def ListIn (lo hi : Nat) (w : World) (v : Value) (ks : List Int) : Prop :=
  ∃ a c, v = .slice a ks.length c ∧ ((a = none ∧ ks = []) ∨ ∃ g cs, a = some ⟨g, 0, none⟩ ∧ lo ≤ g ∧ g < hi ∧ w.heap[g]? = some (.cells cs 3 (0, 0)) ∧ ks.length ≤ cs.size ∧ ∀ j, j < ks.length → cs[j]? = some (.int .i64 (ks[j]?.getD 0)))

theorem ListIn.of_row {lo : Nat} {w : World} {v : Value} {ks : List Int} (h : w.ownsRow lo 3 1 v ks.length (ks.map (Value.int .i64))) : ListIn lo w.heap.size w v ks := by
  obtain ⟨_, ⟨rfl, h0⟩ | ⟨g, cap, cur, rfl, hg, hh, h1, h2, h3, h4⟩⟩ := h
  · have : ks = [] := List.eq_nil_of_length_eq_zero h0
    subst this
    exact ⟨none, 0, rfl, .inl ⟨rfl, rfl⟩⟩
  · refine ⟨_, cap, rfl, .inr ⟨g, cur, rfl, hg, (Array.getElem?_eq_some_iff.1 hh).1, hh, by omega, fun j hj => ?_⟩⟩
    have h5 : (cur.toList.take ks.length)[j]? = (ks.map (Value.int .i64))[j]? := by
      have := h4; simp only [Nat.mul_one] at this; rw [this]
    rw [List.getElem?_take, if_pos hj, Array.getElem?_toList] at h5
    rw [h5]; simp [hj]

theorem ListIn.at {lo hi : Nat} {w : World} {v : Value} {ks : List Int} (h : ListIn lo hi w v ks) : IntsAt hi w v ks := by
  obtain ⟨a, c, rfl, ⟨rfl, rfl⟩ | ⟨g, cs, rfl, h1, h2, h3, h4, h5⟩⟩ := h
  · exact ⟨none, c, rfl, .inl rfl⟩
  · exact ⟨_, c, rfl, .inr ⟨g, 0, rfl, h2, fun j hj => by rw [Nat.zero_add, cell_of_heap h3, h5 j hj]⟩⟩

theorem ListIn.heap {lo hi : Nat} {w w' : World} {v : Value} {ks : List Int} (h : ListIn lo hi w v ks) (hb : ∀ g, lo ≤ g → g < hi → w'.heap[g]? = w.heap[g]?) : ListIn lo hi w' v ks := by
  obtain ⟨a, c, rfl, h | ⟨g, cs, rfl, h1, h2, h3, h4, h5⟩⟩ := h
  · exact ⟨a, c, rfl, .inl h⟩
  · exact ⟨_, c, rfl, .inr ⟨g, cs, rfl, h1, h2, (hb g h1 h2).trans h3, h4, h5⟩⟩

theorem ListIn.below {lo hi : Nat} {w w' : World} {v : Value} {ks : List Int} (h : ListIn lo hi w v ks) (hb : Below hi w w') : ListIn lo hi w' v ks := h.heap fun g _ h2 => hb.block g h2

theorem ListIn.row {lo hi : Nat} {w : World} {v : Value} {ks : List Int} (h : ListIn lo hi w v ks) : ∃ a c, v = .slice a ks.length c ∧ RowIn w a ks.length 3 ∧ (∀ b, a = some ⟨b, 0, none⟩ → lo ≤ b ∧ b < hi) := by
  obtain ⟨a, c, rfl, ⟨rfl, rfl⟩ | ⟨g, cs, rfl, h1, h2, h3, h4, h5⟩⟩ := h
  · exact ⟨none, c, rfl, .inl rfl, fun b hb => by cases hb⟩
  · exact ⟨_, c, rfl, .inr ⟨g, cs, rfl, h3, h4⟩, fun b hb => by cases hb; exact ⟨h1, h2⟩⟩

theorem MarksIn.below {w w' : World} {a : Option Addr} {n : Nat} {k : Int} {T : TypeId} (h : MarksIn w a n k T) (hb : Below w.heap.size w w') : MarksIn w' a n k T := by
  rcases h with h | ⟨b, cs, rfl, h1, h2⟩
  · exact .inl h
  · exact .inr ⟨b, cs, rfl, (hb.block b (Array.getElem?_eq_some_iff.1 h1).1).trans h1, h2⟩
end Go.Proofs.YtpkblnponeonkaaDoor

namespace Go.Proofs.YtpkblnponeonkaaDoor
open Go.RowKit

/-- A number's digits. -/
def decB (n : Nat) : ByteArray := if _h : n = 0 then ⟨#[]⟩ else decB (n / 10) ++ ⟨#[(48 + n % 10).toUInt8]⟩
termination_by n
decreasing_by omega

theorem decB_zero : decB 0 = ⟨#[]⟩ := by rw [decB]; simp
theorem decB_pos {n : Nat} (h : n ≠ 0) : decB n = decB (n / 10) ++ ⟨#[(48 + n % 10).toUInt8]⟩ := by rw [decB]; simp [h]

/-- The text that marks a number. -/
def markOf (k : Nat) : ByteArray := if k = 0 then ⟨#[109, 48]⟩ else ⟨#[109]⟩ ++ decB k

theorem digit_text (w : World) (c : Nat) (hc : c < 256) :
    (convert 105 9 (.slice (some ⟨w.heap.size, 0, none⟩) 1 1)).run Tryd.prog (w.alloc (.cells #[.int .u8 (c : Int)] 5)) = .ok (.string ⟨#[c.toUInt8]⟩) (w.alloc (.cells #[.int .u8 (c : Int)] 5)) :=
  run_convert_bytes_back (P := Tryd.prog) _ 105 9 5 ⟨w.heap.size, 0, none⟩ 1 [c.toUInt8] Tryd.underlying105 Tryd.underlying5 Tryd.underlying9 (fun j hj => by
    match j, hj with
    | 0, _ =>
      have e : ((c.toUInt8).toNat : Int) = (c : Int) := by
        have : (c.toUInt8).toNat = c % 256 := by simp
        rw [this, Nat.mod_eq_of_lt hc]
      simp only [List.getElem_cons_zero, e]
      simp [Addr.add])

theorem ret_str {a b : ByteArray} (h : a = b) : Ending.returned (.string a) = Ending.returned (.string b) := by rw [h]
theorem nil_app (b : ByteArray) : (⟨#[]⟩ : ByteArray) ++ b = b := ByteArray.ext (by rw [ByteArray.data_append]; simp)
theorem app_nil (b : ByteArray) : b ++ (⟨#[]⟩ : ByteArray) = b := ByteArray.ext (by rw [ByteArray.data_append]; simp)

set_option maxHeartbeats 1000000 in
set_option maxRecDepth 100000 in
theorem markText_any (k : Nat) (x : Int) (w : World) (hx : Hid (x = k)) (hk0 : 0 ≤ x) (hk : x ≤ 1000000000000) :
    Calls Tryd.prog 56 #[.int .i64 x] w fun e w' => e = .returned (.string (markOf k)) ∧ Below w.heap.size w w' := by
  by_cases h0 : x ≤ 0
  · have HM : Hid (markOf k = ⟨#[109, 48]⟩) := by have := hx.out; unfold Hid markOf; rw [if_pos (by omega)]
    generalize markOf k = mk at *
    go_enter Tryd.func56, Tryd.ntmps56
    go_wp2_with fail
    go_ret
    exact ⟨ret_str HM.out.symm, Below.refl _ _⟩
  · have HM : Hid (markOf k = ⟨#[109]⟩ ++ decB k) := by have := hx.out; unfold Hid markOf; rw [if_neg (by omega)]
    generalize markOf k = mk at *
    obtain ⟨dk, hdk⟩ : ∃ dk, dk = decB k := ⟨_, rfl⟩
    rw [← hdk] at HM
    have HD := hide hdk
    clear hdk
    go_enter Tryd.func56, Tryd.ntmps56
    go_wp2_with fail
    go_loopw [0, 3] (fun kv o wr => ∃ (m : Nat) (y : Int) (out : ByteArray), kv = .int .i64 y ∧ Hid (y = m) ∧ 0 ≤ y ∧ y ≤ 1000000000000 ∧ o = .string out ∧ (out.size : Int) ≤ 1000000000000 - y ∧ Hid (decB m ++ out = dk) ∧ Below w.heap.size w wr) (fun kv _ _ => (intOf kv).toNat)
    case atStart => exact ⟨k, x, ⟨#[]⟩, rfl, hx, hk0, hk, rfl, by show ((0 : Nat) : Int) ≤ _; omega, by unfold Hid; rw [HD.out, app_nil], Below.refl _ _⟩
    case round =>
      obtain ⟨m, y, out, rfl, hy, hy0, hy1, rfl, hos, hout, hbr⟩ := hrel
      have hos2 : out.size ≤ 1000000000000 := by omega
      have hs1 : ∀ c, (⟨#[c]⟩ : ByteArray).size = 1 := fun _ => rfl
      by_cases hm0 : y ≤ 0
      · have he : Hid (out = dk) := by
          have := hout.out
          have h1 := hy.out
          rw [show m = 0 by omega, decB_zero, nil_app] at this
          exact this
        clear hout
        go_wp2_with fail
        go_ret
        exact ⟨ret_str (by rw [HM.out, he.out]), hbr⟩
      · have h1 := hy.out
        obtain ⟨q, hq⟩ : ∃ q : Int, q = ((m % 10 : Nat) : Int) := ⟨_, rfl⟩
        obtain ⟨z, hz⟩ : ∃ z : Int, z = ((m / 10 : Nat) : Int) := ⟨_, rfl⟩
        obtain ⟨c, hc⟩ : ∃ c : Nat, c = 48 + m % 10 := ⟨_, rfl⟩
        have htm : y.tmod 10 = q := by rw [Int.tmod_eq_emod_of_nonneg hy0]; omega
        have htd : y.tdiv 10 = z := by rw [Int.tdiv_eq_ediv_of_nonneg hy0]; omega
        have hq0 : 0 ≤ q := by omega
        have hq9 : q ≤ 9 := by omega
        have hz0 : 0 ≤ z := by omega
        have hzy : z < y := by omega
        have HZ : Hid (z = ((m / 10 : Nat) : Int)) := hz
        have hc2 : c < 256 := by omega
        have hw8 : IntKind.u8.wrap (48 + q) = (c : Int) := by rw [IntKind.wrap_u8]; omega
        have hnew : Hid (decB (m / 10) ++ ((⟨#[c.toUInt8]⟩ : ByteArray) ++ out) = dk) := by
          have := hout.out
          rw [decB_pos (by omega), ByteArray.append_assoc, ← hc] at this
          exact this
        have hconv := digit_text wr c hc2
        clear hout h1 hq hz hc
        go_wp2_with fail
        refine ⟨⟨m / 10, z, _, rfl, HZ, hz0, by omega, rfl, ?_, hnew, hbr.alloc hbr.size _⟩, by simp [intOf]; omega⟩
        rw [ByteArray.size_append, hs1]; omega
end Go.Proofs.YtpkblnponeonkaaDoor

namespace Go.Proofs.YtpkblnponeonkaaDoor
open Go.RowKit

/-- Each block of cells stays one, as long as it was. -/
def KeepsSizes (w w' : World) : Prop := ∀ (m : Nat) (cs : Array Value) (T : TypeId), w.heap[m]? = some (.cells cs T (0, 0)) → ∃ cs', w'.heap[m]? = some (.cells cs' T (0, 0)) ∧ cs'.size = cs.size

theorem keeps_of {w w' : World} {b : Nat} {cs cs' : Array Value} {T : TypeId} (h : w.heap[b]? = some (.cells cs T (0, 0))) (h' : w'.heap[b]? = some (.cells cs' T (0, 0))) (hs : cs'.size = cs.size) (ho : ∀ m, m ≠ b → w'.heap[m]? = w.heap[m]?) : KeepsSizes w w' := fun m c t hm => by
  by_cases e : m = b
  · subst e
    rw [h] at hm
    simp only [Option.some.injEq, Obj.cells.injEq] at hm
    obtain ⟨rfl, rfl, -⟩ := hm
    exact ⟨cs', h', hs⟩
  · exact ⟨c, (ho m e).trans hm, rfl⟩

set_option maxHeartbeats 400000 in
theorem markInts_keeps (a : Option Addr) (n cap : Nat) (k : Int) (w : World) (h : RowIn w a n 3) (hn : n ≤ 1048576) (hk0 : 0 ≤ k) (hk : k ≤ 2000000000000000000) :
    Calls Tryd.prog 27 #[.slice a n cap, .int .i64 k] w fun e w' => e = .returned (.int .i64 (k + n)) ∧ OnlyRow w w' a ∧ KeepsSizes w w' := by
  rcases h with rfl | ⟨b, cs, rfl, hh, hsz⟩
  · go_enter Tryd.func27, Tryd.ntmps27
    go_wp2_with fail
    go_loopw [1, 5] (fun kv i wr => kv = .int .i64 k ∧ i = .int .i64 0 ∧ wr = w) (fun _ _ _ => 0)
    case atStart => exact ⟨rfl, rfl, rfl⟩
    case round =>
      obtain ⟨rfl, rfl, rfl⟩ := hrel
      go_wp2_with fail
      go_ret
      exact ⟨ret_int (by simp), ⟨rfl, fun _ _ => rfl, fun _ _ => Below.refl _ _⟩, fun _ _ _ h => ⟨_, h, rfl⟩⟩
  · go_enter Tryd.func27, Tryd.ntmps27
    go_wp2_with fail
    go_loopw [1, 5] (fun kv i wr => ∃ (j : Nat) (cs' : Array Value), j ≤ n ∧ kv = .int .i64 (k + j) ∧ i = .int .i64 j ∧ wr.heap.size = w.heap.size ∧ Below b w wr ∧ Hid (∀ m, m ≠ b → wr.heap[m]? = w.heap[m]?) ∧ wr.heap[b]? = some (.cells cs' 3 (0, 0)) ∧ cs'.size = cs.size ∧ Hid (∀ i, i < j → cs'[i]? = some (.int .i64 (k + i)))) (fun _ i _ => n - (intOf i).toNat)
    case atStart => exact ⟨0, cs, Nat.zero_le _, by simp, rfl, rfl, Below.refl _ _, fun _ _ => rfl, hh, rfl, fun i hi => absurd hi (by omega)⟩
    case round =>
      obtain ⟨j, cs', hj, rfl, rfl, hsw, hbl0, hoth, hbl, hcs, hmk⟩ := hrel
      by_cases hlt : j < n
      · have hc : wr.cell? ⟨b, j, none⟩ = some (cs'[j]?.getD (.int .i64 0)) := by
          rw [cell_of_heap hbl j]
          have : j < cs'.size := by omega
          simp [this]
        have hfz := frozen_of_heap hbl j
        have hlt1 : (j : Int) < (n : Int) := by omega
        have HH := hide hbl
        have H1 := hide hh
        clear hbl hh
        generalize cs'[j]?.getD (.int .i64 0) = old at *
        go_wp2_with fail
        refine ⟨⟨j + 1, cs'.setIfInBounds j (.int .i64 (k + j)), by omega, by go_num, by go_num, by simp [hsw], hbl0.setCell (p := ⟨b, j, none⟩) (Nat.le_refl _) _, fun m hm => ?_, ?_, by simp [hcs], fun i hi => ?_⟩, by simp [intOf]; omega⟩
        · rw [heap_setCell_other _ _ _ _ (by exact hm)]; exact hoth.out m hm
        · exact heap_setCell_same _ _ _ _ _ _ HH.out
        · rw [Array.getElem?_setIfInBounds]
          rcases Nat.lt_succ_iff_lt_or_eq.1 hi with h | rfl
          · rw [if_neg (by omega)]; exact hmk.out i h
          · rw [if_pos rfl, if_pos (by omega)]
      · obtain rfl : j = n := by omega
        have HH := hide hbl
        have H1 := hide hh
        clear hbl hh
        go_wp2_with fail
        go_ret
        exact ⟨rfl, ⟨hsw, fun m hm => hoth.out m (hm b rfl), fun n hn => hbl0.mono (hn b rfl)⟩, keeps_of H1.out HH.out hcs hoth.out⟩

theorem KeepsSizes.trans {A B C : World} (h : KeepsSizes A B) (k : KeepsSizes B C) : KeepsSizes A C := fun m cs T hm => by
  obtain ⟨c1, h1, e1⟩ := h m cs T hm
  obtain ⟨c2, h2, e2⟩ := k m c1 T h1
  exact ⟨c2, h2, e2.trans e1⟩
theorem keeps_below {A B : World} (hb : Below A.heap.size A B) : KeepsSizes A B := fun m cs _ hm => ⟨cs, (hb.block m (Array.getElem?_eq_some_iff.1 hm).1).trans hm, rfl⟩
theorem keeps_set {A : World} {b i : Nat} {v : Value} : KeepsSizes A (A.setCell ⟨b, i, none⟩ v) := fun m cs T hm => by
  by_cases e : m = b
  · subst e; exact ⟨_, heap_setCell_same _ _ _ _ _ _ hm, by simp⟩
  · exact ⟨cs, (heap_setCell_other _ _ _ _ (by exact e)).trans hm, rfl⟩

/-- What is written lies from lo on, below hi. -/
structure Within (w w' : World) (lo hi : Nat) : Prop where
  below : Below lo w w'
  above : ∀ m, hi ≤ m → m < w.heap.size → w'.heap[m]? = w.heap[m]?
end Go.Proofs.YtpkblnponeonkaaDoor

namespace Go.Proofs.YtpkblnponeonkaaDoor
open Go.RowKit

set_option maxHeartbeats 1000000 in
set_option maxRecDepth 100000 in
theorem markText_big (k : Nat) (x : Int) (w : World) (hx : Hid (x = k)) (hk0 : 0 ≤ x) (hk : x ≤ 2000000000000000000) :
    Calls Tryd.prog 56 #[.int .i64 x] w fun e w' => e = .returned (.string (markOf k)) ∧ Below w.heap.size w w' := by
  by_cases h0 : x ≤ 0
  · have HM : Hid (markOf k = ⟨#[109, 48]⟩) := by have := hx.out; unfold Hid markOf; rw [if_pos (by omega)]
    generalize markOf k = mk at *
    go_enter Tryd.func56, Tryd.ntmps56
    go_wp2_with fail
    go_ret
    exact ⟨ret_str HM.out.symm, Below.refl _ _⟩
  · have HM : Hid (markOf k = ⟨#[109]⟩ ++ decB k) := by have := hx.out; unfold Hid markOf; rw [if_neg (by omega)]
    generalize markOf k = mk at *
    obtain ⟨dk, hdk⟩ : ∃ dk, dk = decB k := ⟨_, rfl⟩
    rw [← hdk] at HM
    have HD := hide hdk
    clear hdk
    go_enter Tryd.func56, Tryd.ntmps56
    go_wp2_with fail
    go_loopw [0, 3] (fun kv o wr => ∃ (m : Nat) (y : Int) (out : ByteArray), kv = .int .i64 y ∧ Hid (y = m) ∧ 0 ≤ y ∧ y ≤ 2000000000000000000 ∧ o = .string out ∧ (out.size : Int) ≤ 2000000000000000000 - y ∧ Hid (decB m ++ out = dk) ∧ Below w.heap.size w wr) (fun kv _ _ => (intOf kv).toNat)
    case atStart => exact ⟨k, x, ⟨#[]⟩, rfl, hx, hk0, hk, rfl, by show ((0 : Nat) : Int) ≤ _; omega, by unfold Hid; rw [HD.out, app_nil], Below.refl _ _⟩
    case round =>
      obtain ⟨m, y, out, rfl, hy, hy0, hy1, rfl, hos, hout, hbr⟩ := hrel
      have hos2 : out.size ≤ 2000000000000000000 := by omega
      have hs1 : ∀ c, (⟨#[c]⟩ : ByteArray).size = 1 := fun _ => rfl
      by_cases hm0 : y ≤ 0
      · have he : Hid (out = dk) := by
          have := hout.out
          have h1 := hy.out
          rw [show m = 0 by omega, decB_zero, nil_app] at this
          exact this
        clear hout
        go_wp2_with fail
        go_ret
        exact ⟨ret_str (by rw [HM.out, he.out]), hbr⟩
      · have h1 := hy.out
        obtain ⟨q, hq⟩ : ∃ q : Int, q = ((m % 10 : Nat) : Int) := ⟨_, rfl⟩
        obtain ⟨z, hz⟩ : ∃ z : Int, z = ((m / 10 : Nat) : Int) := ⟨_, rfl⟩
        obtain ⟨c, hc⟩ : ∃ c : Nat, c = 48 + m % 10 := ⟨_, rfl⟩
        have htm : y.tmod 10 = q := by rw [Int.tmod_eq_emod_of_nonneg hy0]; omega
        have htd : y.tdiv 10 = z := by rw [Int.tdiv_eq_ediv_of_nonneg hy0]; omega
        have hq0 : 0 ≤ q := by omega
        have hq9 : q ≤ 9 := by omega
        have hz0 : 0 ≤ z := by omega
        have hzy : z < y := by omega
        have HZ : Hid (z = ((m / 10 : Nat) : Int)) := hz
        have hc2 : c < 256 := by omega
        have hw8 : IntKind.u8.wrap (48 + q) = (c : Int) := by rw [IntKind.wrap_u8]; omega
        have hnew : Hid (decB (m / 10) ++ ((⟨#[c.toUInt8]⟩ : ByteArray) ++ out) = dk) := by
          have := hout.out
          rw [decB_pos (by omega), ByteArray.append_assoc, ← hc] at this
          exact this
        have hconv := digit_text wr c hc2
        clear hout h1 hq hz hc
        go_wp2_with fail
        refine ⟨⟨m / 10, z, _, rfl, HZ, hz0, by omega, rfl, ?_, hnew, hbr.alloc hbr.size _⟩, by simp [intOf]; omega⟩
        rw [ByteArray.size_append, hs1]; omega
end Go.Proofs.YtpkblnponeonkaaDoor

namespace Go.Proofs.YtpkblnponeonkaaDoor
open Go.RowKit

set_option maxHeartbeats 2000000 in
set_option maxRecDepth 100000 in
theorem markNodes_from (k0 : Int) (hk0 : 0 ≤ k0) (hk1 : k0 ≤ 1500000000000000000) (lo hi : Nat) (v : Value) (l : List PNode) (w : World) (h : NodesOwn lo hi w v l) (_hhi : hi ≤ w.heap.size) (hl : l.length ≤ 1048576) (hkl : ∀ x ∈ l, x.kids.length ≤ 1048576) :
    Calls Tryd.prog 58 #[v, .int .i64 k0] w fun e w' => ∃ r, e = .returned (.int .i64 r) ∧ 0 ≤ r ∧ Within w w' lo hi := by
  obtain ⟨b, cap, cs, rfl, hlo, hbh, hh, hrow⟩ := h
  have hrow2 : ∀ i, i < l.length → ∃ bk ck, cs[i * 5 + 4]? = some (.slice (some ⟨bk, 0, none⟩) (l[i]?.getD nodeNil).kids.length ck) ∧ b < bk ∧ bk < hi ∧ ∃ c5, w.heap[bk]? = some (.cells c5 3 (0, 0)) ∧ (l[i]?.getD nodeNil).kids.length ≤ c5.size := fun i hi' => by
    obtain ⟨kv, -, -, -, -, g4, bk, ck, c5, rfl, k1, k2, k3, k4⟩ := hrow i hi'
    refine ⟨bk, ck, g4, by omega, k2, c5, k3, ?_⟩
    rcases Nat.lt_or_ge c5.size (l[i]?.getD nodeNil).kids.length with hlt | hge
    · have := k4 c5.size hlt
      simp at this
    · exact hge
  have hsz5 : ∀ i, i < l.length → i * 5 + 4 < cs.size := fun i hi' => by
    obtain ⟨_, _, g, _⟩ := hrow2 i hi'
    exact (Array.getElem?_eq_some_iff.1 g).1
  have HRow := hide hrow2
  have HS5 := hide hsz5
  have HKL := hide hkl
  have HH := hide hh
  clear hrow hrow2 hsz5 hkl hh
  go_enter Tryd.func58, Tryd.ntmps58
  go_wp2_with fail
  go_loopw [1, 5] (fun kv i wr => ∃ (j : Nat) (y : Int) (cs' : Array Value), j ≤ l.length ∧ kv = .int .i64 y ∧ 0 ≤ y ∧ y ≤ k0 + j * 1048580 ∧ i = .int .i64 j ∧ Hid (wr.heap[b]? = some (.cells cs' 83 (0, 0))) ∧ cs'.size = cs.size ∧ Hid (∀ i, i < l.length → cs'[i * 5 + 4]? = cs[i * 5 + 4]?) ∧ Hid (KeepsSizes w wr) ∧ Hid (Within w wr lo hi)) (fun _ i _ => l.length - (intOf i).toNat)
  case atStart => exact ⟨0, k0, cs, Nat.zero_le _, rfl, by omega, by omega, rfl, HH, rfl, fun _ _ => rfl, fun _ _ _ h => ⟨_, h, rfl⟩, ⟨Below.refl _ _, fun _ _ _ => rfl⟩⟩
  case round =>
    obtain ⟨j, y, cs', hj, rfl, hy0, hy1, rfl, hbl, hcs, hk4, hks, hwi⟩ := hrel
    by_cases hlt : j < l.length
    · obtain ⟨bk, ck, g4, hbk, hbk2, c5, hc5, hn5⟩ := HRow.out j hlt
      have h5 := HS5.out j hlt
      have hkx : (l[j]?.getD nodeNil).kids.length ≤ 1048576 := HKL.out _ (by simp [hlt])
      generalize (l[j]?.getD nodeNil).kids.length = n at *
      have hwb := hwi.out.below.size
      have hbw : b < wr.heap.size := (Array.getElem?_eq_some_iff.1 hbl.out).1
      have hcell : ∀ o, o < 5 → ∃ u, wr.cell? ⟨b, j * 5 + o, none⟩ = some u := fun o ho => by
        rw [cell_of_heap hbl.out (j * 5 + o)]
        exact ⟨_, Array.getElem?_eq_getElem (by omega)⟩
      obtain ⟨v0, d0⟩ := hcell 0 (by omega)
      obtain ⟨v1, d1⟩ := hcell 1 (by omega)
      obtain ⟨v2, d2⟩ := hcell 2 (by omega)
      obtain ⟨v3, d3⟩ := hcell 3 (by omega)
      have d4 : wr.cell? ⟨b, j * 5 + 4, none⟩ = some (.slice (some ⟨bk, 0, none⟩) n ck) := (cell_of_heap hbl.out (j * 5 + 4)).trans ((hk4.out j hlt).trans g4)
      have z0 := frozen_of_heap hbl.out (j * 5)
      have z1 := frozen_of_heap hbl.out (j * 5 + 1)
      have z2 := frozen_of_heap hbl.out (j * 5 + 2)
      have z3 := frozen_of_heap hbl.out (j * 5 + 3)
      rw [Nat.add_zero] at d0
      have hlt1 : (j : Int) < (l.length : Int) := by omega
      clear hcell
      obtain ⟨W3, hW3⟩ : ∃ W3, W3 = ((wr.setCell ⟨b, j * 5, none⟩ (.int .i64 y)).setCell ⟨b, j * 5 + 1, none⟩ (.int .i64 (y + 1))).setCell ⟨b, j * 5 + 2, none⟩ (.int .i64 (y + 1 + 1)) := ⟨_, rfl⟩
      have H3 : Hid (W3.heap[b]? = some (.cells (((cs'.setIfInBounds (j * 5) (.int .i64 y)).setIfInBounds (j * 5 + 1) (.int .i64 (y + 1))).setIfInBounds (j * 5 + 2) (.int .i64 (y + 1 + 1))) 83 (0, 0))) := by
        rw [hW3]; exact heap_setCell_same _ b _ _ _ _ (heap_setCell_same _ b _ _ _ _ (heap_setCell_same wr b _ _ _ _ hbl.out))
      have HK3 : Hid (KeepsSizes wr W3) := by rw [hW3]; exact (keeps_set.trans keeps_set).trans keeps_set
      have HB3 : Hid (Below lo wr W3) := by rw [hW3]; exact (((Below.refl lo wr).setCell (p := ⟨b, j * 5, none⟩) hlo _).setCell (p := ⟨b, j * 5 + 1, none⟩) hlo _).setCell (p := ⟨b, j * 5 + 2, none⟩) hlo _
      have HO3 : Hid (∀ m, m ≠ b → W3.heap[m]? = wr.heap[m]?) := fun m hm => by
        rw [hW3, heap_setCell_other _ _ _ _ (by exact hm), heap_setCell_other _ _ _ _ (by exact hm), heap_setCell_other _ _ _ _ (by exact hm)]
      have HS3 : Hid (W3.heap.size = wr.heap.size) := by rw [hW3]; simp [World.size_setCell, Hid]
      obtain ⟨kk, hkk⟩ : ∃ kk : Nat, y + 1 + 1 + 1 = (kk : Int) := ⟨(y + 1 + 1 + 1).toNat, by omega⟩
      have HKK : Hid (y + 1 + 1 + 1 = (kk : Int)) := hkk
      clear hkk
      go_wp2_with fail
      rw [← hW3]
      refine (markText_big kk _ W3 HKK (by omega) (by omega)).mono ?_
      rintro e w4 ⟨rfl, hb4⟩
      have hs4 := hb4.size
      have hsw3 := HS3.out
      have h4 := (hb4.block b (by omega)).trans H3.out
      have e3 : ∃ u, w4.cell? ⟨b, j * 5 + 3, none⟩ = some u := by rw [cell_of_heap h4]; exact ⟨_, Array.getElem?_eq_getElem (by simp; omega)⟩
      obtain ⟨u3, e3⟩ := e3
      have e4 : w4.cell? ⟨b, j * 5 + 4, none⟩ = some (.slice (some ⟨bk, 0, none⟩) n ck) := by
        rw [cell_of_heap h4]
        simp only [Array.getElem?_setIfInBounds, Array.size_setIfInBounds]
        rw [if_neg (by omega), if_neg (by omega), if_neg (by omega)]
        exact (hk4.out j hlt).trans g4
      have f3 := frozen_of_heap h4 (j * 5 + 3)
      have H4 := hide h4
      clear h4
      generalize markOf kk = mk at *
      go_wp2_with fail
      have hrowin : RowIn (w4.setCell ⟨b, j * 5 + 3, none⟩ (.string mk)) (some ⟨bk, 0, none⟩) n 3 := by
        obtain ⟨c6, h6, s6⟩ := (((hks.out.trans HK3.out).trans (keeps_below hb4)).trans (keeps_set (b := b) (i := j * 5 + 3) (v := .string mk))) bk c5 _ hc5
        exact .inr ⟨bk, c6, rfl, h6, by omega⟩
      refine (markInts_keeps (some ⟨bk, 0, none⟩) n ck _ _ hrowin (by omega) (by omega) (by omega)).mono ?_
      rintro e w6 ⟨rfl, ho, hk6⟩
      go_wp2_with fail
      refine ⟨⟨j + 1, _, (((cs'.setIfInBounds (j * 5) (.int .i64 y)).setIfInBounds (j * 5 + 1) (.int .i64 (y + 1))).setIfInBounds (j * 5 + 2) (.int .i64 (y + 1 + 1))).setIfInBounds (j * 5 + 3) (.string mk), by omega, rfl, by omega, by omega, by go_num, ?_, ?_, ?_, ?_, ?_⟩, by simp [intOf]; omega⟩
      · exact (ho.same b (fun b2 e2 => by cases e2; omega)).trans (heap_setCell_same w4 b _ _ _ _ H4.out)
      · simp [hcs]
      · intro i hi'
        simp only [Array.getElem?_setIfInBounds, Array.size_setIfInBounds]
        rw [if_neg (by omega), if_neg (by omega), if_neg (by omega), if_neg (by omega)]
        exact hk4.out i hi'
      · exact (((hks.out.trans HK3.out).trans (keeps_below hb4)).trans keeps_set).trans hk6
      · refine ⟨(((hwi.out.below.trans HB3.out).trans (hb4.mono (by omega))).trans ((Below.refl lo w4).setCell (p := ⟨b, j * 5 + 3, none⟩) hlo _)).trans (ho.below lo (fun b2 e2 => by cases e2; omega)), fun m hm hmw => ?_⟩
        rw [ho.same m (fun b2 e2 => by cases e2; omega), heap_setCell_other _ _ _ _ (by show m ≠ b; omega), hb4.block m (by omega), HO3.out m (by omega)]
        exact hwi.out.above m hm hmw
    · clear hk4 hks
      go_wp2_with fail
      go_ret
      exact ⟨y, rfl, hy0, hwi.out⟩

set_option maxHeartbeats 400000 in
theorem markDoc_from (k0 : Int) (hk0 : 0 ≤ k0) (hk1 : k0 ≤ 1500000000000000000) (lo hi : Nat) (v : Value) (d : PDoc) (w : World) (h : DocOwn lo hi w v d) (hhi : hi ≤ w.heap.size) (hl : d.nodes.length ≤ 1048576) (hkl : ∀ x ∈ d.nodes, x.kids.length ≤ 1048576) :
    Calls Tryd.prog 26 #[v, .int .i64 k0] w fun e w' => ∃ r, e = .returned (.int .i64 r) ∧ 0 ≤ r ∧ Within w w' lo hi := by
  obtain ⟨s, rfl, hk⟩ := h
  have hW := (Below.refl w.heap.size w).alloc (Nat.le_refl _) (.cells #[.int .i64 d.root, .int .i64 d.next, s] 48)
  have HM := hide (markNodes_from k0 hk0 hk1 lo hi s d.nodes (w.alloc (.cells #[.int .i64 d.root, .int .i64 d.next, s] 48)) (hk.below (hW.mono hhi)) (by simp; omega) hl hkl)
  obtain ⟨b, cap, cs, rfl, hlo, hbh, -⟩ := hk
  clear hkl
  go_enter Tryd.func26, Tryd.ntmps26
  go_wp2_with fail
  refine HM.out.mono ?_
  rintro e w1 ⟨r, rfl, hr, hw⟩
  have HWi := hide hw
  clear hw
  go_wp2_with fail
  go_ret
  exact ⟨r, rfl, hr, (hW.mono (by omega)).trans HWi.out.below, fun m hm hmw => (HWi.out.above m hm (by simp; omega)).trans (hW.block m hmw)⟩

theorem markDoc_any (lo hi : Nat) (v : Value) (d : PDoc) (w : World) (h : DocOwn lo hi w v d) (hhi : hi ≤ w.heap.size) (hl : d.nodes.length ≤ 1048576) (hkl : ∀ x ∈ d.nodes, x.kids.length ≤ 1048576) :
    Calls Tryd.prog 26 #[v, .int .i64 1] w fun e w' => ∃ r, e = .returned (.int .i64 r) ∧ 0 ≤ r ∧ Within w w' lo hi :=
  markDoc_from 1 (by decide) (by decide) lo hi v d w h hhi hl hkl
end Go.Proofs.YtpkblnponeonkaaDoor

namespace Go.Proofs.YtpkblnponeonkaaDoor
end Go.Proofs.YtpkblnponeonkaaDoor

namespace Go.Proofs.YtpkblnponeonkaaDoor
open Go.RowKit

/-- Blocks of terms keep where their lists of kinds lie. -/
def KeepsKinds (w w' : World) : Prop := ∀ (m : Nat) (cs : Array Value), w.heap[m]? = some (Obj.cells cs 131 (0, 0)) → ∃ cs', w'.heap[m]? = some (Obj.cells cs' 131 (0, 0)) ∧ cs'.size = cs.size ∧ ∀ j, cs'[j * 2]? = cs[j * 2]?

theorem KeepsKinds.refl (w : World) : KeepsKinds w w := fun _ cs h => ⟨cs, h, rfl, fun _ => rfl⟩
theorem KeepsKinds.trans {A B C : World} (h : KeepsKinds A B) (k : KeepsKinds B C) : KeepsKinds A C := fun m cs hm => by
  obtain ⟨c1, h1, e1, f1⟩ := h m cs hm
  obtain ⟨c2, h2, e2, f2⟩ := k m c1 h1
  exact ⟨c2, h2, e2.trans e1, fun j => (f2 j).trans (f1 j)⟩
theorem kinds_below {A B : World} (hb : Below A.heap.size A B) : KeepsKinds A B := fun m cs hm => ⟨cs, (hb.block m (Array.getElem?_eq_some_iff.1 hm).1).trans hm, rfl, fun _ => rfl⟩
/-- A block of another type is written. -/
theorem kinds_other {A B : World} {b : Nat} {cs : Array Value} {T : TypeId} (h : A.heap[b]? = some (Obj.cells cs T (0, 0))) (hT : T ≠ 131) (ho : ∀ m, m ≠ b → B.heap[m]? = A.heap[m]?) : KeepsKinds A B := fun m c hm => by
  have : m ≠ b := fun e => by
    rw [e, h] at hm
    simp only [Option.some.injEq, Obj.cells.injEq] at hm
    exact hT hm.2.1
  exact ⟨c, (ho m this).trans hm, rfl, fun _ => rfl⟩

/-- A list of terms whose lists of kinds have room, as it is marked. -/
def TermsFit (lo hi : Nat) (w : World) (a : Option Addr) (ns : List Nat) : Prop :=
  ∃ b cs, a = some ⟨b, 0, none⟩ ∧ lo ≤ b ∧ b < hi ∧ w.heap[b]? = some (Obj.cells cs 131 (0, 0)) ∧
    ∀ j, j < ns.length → j * 2 + 1 < cs.size ∧ ∃ bk ck, cs[j * 2]? = some (.slice (some ⟨bk, 0, none⟩) (ns[j]?.getD 0) ck) ∧ lo ≤ bk ∧ bk < hi ∧ ∃ c5, w.heap[bk]? = some (Obj.cells c5 3 (0, 0)) ∧ ns[j]?.getD 0 ≤ c5.size

theorem TermsFit.kept {lo hi : Nat} {w w' : World} {a : Option Addr} {ns : List Nat} (h : TermsFit lo hi w a ns) (hk : KeepsKinds w w') (hs : KeepsSizes w w') : TermsFit lo hi w' a ns := by
  obtain ⟨b, cs, rfl, h1, h2, h3, h4⟩ := h
  obtain ⟨cs', g1, g2, g3⟩ := hk b cs h3
  refine ⟨b, cs', rfl, h1, h2, g1, fun j hj => ?_⟩
  obtain ⟨k0, bk, ck, k1, k2, k3, c5, k4, k5⟩ := h4 j hj
  obtain ⟨c6, l1, l2⟩ := hs bk c5 _ k4
  exact ⟨by omega, bk, ck, (g3 j).trans k1, k2, k3, c6, l1, by omega⟩

theorem TermsOwn.fit {lo hi : Nat} {w : World} {v : Value} {l : List PTerm} (h : TermsOwn lo hi w v l) : ∃ a cap, v = .slice a l.length cap ∧ TermsFit lo hi w a (l.map fun t => t.kinds.length) := by
  obtain ⟨b, cap, cs, rfl, _, h1, h2, h3, h4⟩ := h
  refine ⟨_, cap, rfl, b, cs, rfl, h1, h2, h3, fun j hj => ?_⟩
  simp only [List.length_map] at hj
  obtain ⟨kv, g0, g1, bk, ck, c5, rfl, k1, k2, k3, k4⟩ := h4 j hj
  refine ⟨(Array.getElem?_eq_some_iff.1 g1).1, bk, ck, ?_, by omega, k2, c5, k3, ?_⟩
  · rw [g0]; simp [hj]
  · have e : (l.map fun t => t.kinds.length)[j]?.getD 0 = (l[j]?.getD termNil).kinds.length := by simp [hj]
    rw [e]
    rcases Nat.lt_or_ge c5.size (l[j]?.getD termNil).kinds.length with h | h
    · have := k4 c5.size h
      simp at this
    · exact h

set_option maxHeartbeats 2000000 in
set_option maxRecDepth 100000 in
theorem markTerms_any (lo hi : Nat) (a : Option Addr) (cap : Nat) (ns : List Nat) (k : Int) (w : World) (h : TermsFit lo hi w a ns) (_hhi : hi ≤ w.heap.size) (hl : ns.length ≤ 1048576) (hnl : ∀ n ∈ ns, n ≤ 1048576) (hk0 : 0 ≤ k) (hk : k ≤ 1500000000000000000) :
    Calls Tryd.prog 57 #[.slice a ns.length cap, .int .i64 k] w fun e w' => ∃ r, e = .returned (.int .i64 r) ∧ 0 ≤ r ∧ r ≤ k + ns.length * 1048577 ∧ Within w w' lo hi ∧ KeepsSizes w w' ∧ KeepsKinds w w' := by
  have HF := hide h
  obtain ⟨b, cs, rfl, hlo, hbh, hh, -⟩ := h
  have hb0 := (Array.getElem?_eq_some_iff.1 hh).1
  have HNL := hide hnl
  clear hnl hh
  go_enter Tryd.func57, Tryd.ntmps57
  go_wp2_with fail
  go_loopw [1, 5] (fun kv i wr => ∃ (j : Nat) (y : Int), j ≤ ns.length ∧ kv = .int .i64 y ∧ 0 ≤ y ∧ y ≤ k + j * 1048577 ∧ i = .int .i64 j ∧ Hid (Within w wr lo hi) ∧ Hid (KeepsSizes w wr) ∧ Hid (KeepsKinds w wr)) (fun _ i _ => ns.length - (intOf i).toNat)
  case atStart => exact ⟨0, k, Nat.zero_le _, rfl, hk0, by omega, rfl, ⟨Below.refl _ _, fun _ _ _ => rfl⟩, fun _ _ _ h => ⟨_, h, rfl⟩, KeepsKinds.refl _⟩
  case round =>
    obtain ⟨j, y, hj, rfl, hy0, hy1, rfl, hwi, hks, hkk⟩ := hrel
    have hsw := hwi.out.below.size
    by_cases hlt : j < ns.length
    · obtain ⟨b1, cs1, e1, -, -, hh1, hrow⟩ := HF.out.kept hkk.out hks.out
      cases e1
      obtain ⟨hs5, bk, ck, g0, hbk, hbk2, c5, hc5, hn5⟩ := hrow j hlt
      have hkx : ns[j]?.getD 0 ≤ 1048576 := HNL.out _ (by simp [hlt])
      generalize ns[j]?.getD 0 = n at *
      have d0 : wr.cell? ⟨b, j * 2, none⟩ = some (.slice (some ⟨bk, 0, none⟩) n ck) := (cell_of_heap hh1 (j * 2)).trans g0
      have hbw : b < wr.heap.size := (Array.getElem?_eq_some_iff.1 hh1).1
      have hlt1 : (j : Int) < (ns.length : Int) := by omega
      have HRi : Hid (RowIn wr (some ⟨bk, 0, none⟩) n 3) := .inr ⟨bk, c5, rfl, hc5, hn5⟩
      have hne : b ≠ bk := fun e => by
        rw [e, hc5] at hh1
        simp only [Option.some.injEq, Obj.cells.injEq] at hh1
        exact absurd hh1.2.1 (by decide)
      have HC5 := hide hc5
      have HH1 := hide hh1
      clear hc5 hh1 hrow
      go_wp2_with fail
      refine (markInts_keeps (some ⟨bk, 0, none⟩) n ck _ _ HRi.out (by omega) (by omega) (by omega)).mono ?_
      rintro e w6 ⟨rfl, ho, hk6⟩
      have h6 : w6.heap[b]? = some (Obj.cells cs1 131 (0, 0)) := (ho.same b (fun b2 e2 => by cases e2; exact hne)).trans HH1.out
      have hc6 : ∃ u, w6.cell? ⟨b, j * 2 + 1, none⟩ = some u := by rw [cell_of_heap h6]; exact ⟨_, Array.getElem?_eq_getElem hs5⟩
      obtain ⟨u6, hc6⟩ := hc6
      have hf6 := frozen_of_heap h6 (j * 2 + 1)
      have hs6 := ho.size
      have HO : Hid (∀ m, m ≠ bk → w6.heap[m]? = wr.heap[m]?) := fun m hm => ho.same m (fun b2 e2 => by cases e2; exact hm)
      have HOB : Hid (Below lo wr w6) := ho.below lo (fun b2 e2 => by cases e2; exact hbk)
      have HK6 := hide hk6
      have H6 := hide h6
      clear ho hk6 h6
      go_wp2_with fail
      refine ⟨⟨j + 1, y + n + 1, by omega, by go_num, by omega, by omega, by go_num, ⟨(hwi.out.below.trans HOB.out).setCell (p := ⟨b, j * 2 + 1, none⟩) hlo _, fun m hm hmw => ?_⟩, (hks.out.trans HK6.out).trans keeps_set, ?_⟩, by simp [intOf]; omega⟩
      · rw [heap_setCell_other _ _ _ _ (by show m ≠ b; omega), HO.out m (by omega)]
        exact hwi.out.above m hm hmw
      · refine (hkk.out.trans (kinds_other HC5.out (by decide) HO.out)).trans fun m c hm => ?_
        by_cases e : m = b
        · subst e
          have e2 := H6.out.symm.trans hm
          simp only [Option.some.injEq, Obj.cells.injEq] at e2
          obtain ⟨rfl, -⟩ := e2
          refine ⟨_, heap_setCell_same _ _ _ _ _ _ hm, by simp, fun i => ?_⟩
          rw [Array.getElem?_setIfInBounds_ne (by omega)]
        · exact ⟨c, (heap_setCell_other _ _ _ _ (by exact e)).trans hm, rfl, fun _ => rfl⟩
    · go_wp2_with fail
      go_ret
      exact ⟨y, rfl, hy0, by have : (j : Int) = ns.length := by omega
                             omega, hwi.out, hks.out, hkk.out⟩

set_option maxHeartbeats 4000000 in
set_option maxRecDepth 100000 in
theorem markRules_upto (lo hi : Nat) (v : Value) (l : List PRule) (w : World) (h : RulesOwn lo hi w v l) (hhi : hi ≤ w.heap.size) (hl : SmallRules l) :
    Calls Tryd.prog 25 #[v, .int .i64 1] w fun e w' => ∃ r, e = .returned (.int .i64 r) ∧ 0 ≤ r ∧ r ≤ 1200000000000000000 ∧ Within w w' lo hi := by
  obtain ⟨b, cap, cs, rfl, hcp, hlo, hbh, hh, hrow⟩ := h
  have HRow : Hid (∀ i, i < l.length → i * 3 + 2 < cs.size ∧ ∃ a ck, cs[i * 3 + 2]? = some (.slice a (l[i]?.getD ruleNil).terms.length ck) ∧ TermsFit (b + 1) hi w a ((l[i]?.getD ruleNil).terms.map fun t => t.kinds.length)) := fun i hi' => by
    obtain ⟨kv, -, -, g2, g5⟩ := hrow i hi'
    obtain ⟨a, ck, rfl, hf⟩ := g5.fit
    exact ⟨(Array.getElem?_eq_some_iff.1 g2).1, a, ck, g2, hf⟩
  have hl1 := hl.len
  have HKL := hide hl.rules
  have HH := hide hh
  have hb0 := (Array.getElem?_eq_some_iff.1 hh).1
  clear hrow hl hh
  go_enter Tryd.func25, Tryd.ntmps25
  go_wp2_with fail
  go_loopw [1, 5] (fun kv i wr => ∃ (j : Nat) (y : Int) (cs' : Array Value), j ≤ l.length ∧ kv = .int .i64 y ∧ 0 ≤ y ∧ y ≤ 1 + j * 1099512676355 ∧ i = .int .i64 j ∧ Hid (wr.heap[b]? = some (.cells cs' 87 (0, 0))) ∧ cs'.size = cs.size ∧ Hid (∀ i, cs'[i * 3 + 2]? = cs[i * 3 + 2]?) ∧ Hid (KeepsSizes w wr) ∧ Hid (KeepsKinds w wr) ∧ Hid (Within w wr lo hi)) (fun _ i _ => l.length - (intOf i).toNat)
  case atStart => exact ⟨0, 1, cs, Nat.zero_le _, rfl, by omega, by omega, rfl, HH, rfl, fun _ => rfl, fun _ _ _ h => ⟨_, h, rfl⟩, KeepsKinds.refl _, ⟨Below.refl _ _, fun _ _ _ => rfl⟩⟩
  case round =>
    obtain ⟨j, y, cs', hj, rfl, hy0, hy1, rfl, hbl, hcs, hk2, hks, hkk, hwi⟩ := hrel
    have hsw := hwi.out.below.size
    by_cases hlt : j < l.length
    · obtain ⟨hs3, at', ct, g2, hft⟩ := HRow.out j hlt
      have hsx := HKL.out (l[j]?.getD ruleNil) (by simp [hlt])
      have htl := hsx.terms.len
      have HTk : Hid (∀ n ∈ (l[j]?.getD ruleNil).terms.map (fun t => t.kinds.length), n ≤ 1048576) := fun n hn => by
        obtain ⟨t, ht, rfl⟩ := List.mem_map.1 hn
        exact hsx.terms.kinds t ht
      have htn : (l[j]?.getD ruleNil).terms.length = ((l[j]?.getD ruleNil).terms.map fun t => t.kinds.length).length := by simp
      rw [htn] at g2 htl
      have HFt := hide hft
      clear hsx htn hft
      generalize (l[j]?.getD ruleNil).terms.map (fun t => t.kinds.length) = ns at *
      have hbw : b < wr.heap.size := (Array.getElem?_eq_some_iff.1 hbl.out).1
      have hlt1 : (j : Int) < (l.length : Int) := by omega
      obtain ⟨kk, hkk1⟩ : ∃ kk : Nat, y = (kk : Int) := ⟨y.toNat, by omega⟩
      have HT := hide (markText_big kk y wr hkk1 (by omega) (by omega))
      clear hkk1
      generalize markOf kk = mk at *
      go_wp2_with fail
      refine HT.out.mono ?_
      rintro e w4 ⟨rfl, hb4⟩
      have hs4 := hb4.size
      have h4 := (hb4.block b hbw).trans hbl.out
      have hcell : ∀ o, o < 3 → ∃ u, w4.cell? ⟨b, j * 3 + o, none⟩ = some u := fun o ho => by
        rw [cell_of_heap h4 (j * 3 + o)]
        exact ⟨_, Array.getElem?_eq_getElem (by omega)⟩
      obtain ⟨v0, d0⟩ := hcell 0 (by omega)
      obtain ⟨v1, d1⟩ := hcell 1 (by omega)
      rw [Nat.add_zero] at d0
      have d2 : w4.cell? ⟨b, j * 3 + 2, none⟩ = some (.slice at' ns.length ct) := (cell_of_heap h4 (j * 3 + 2)).trans ((hk2.out j).trans g2)
      have z0 := frozen_of_heap h4 (j * 3)
      have z1 := frozen_of_heap h4 (j * 3 + 1)
      have hyp : (0 : Int) ≤ y + 1 := by omega
      have H4 := hide h4
      clear h4 hcell HT
      obtain ⟨W5, hW5⟩ : ∃ W5, W5 = (w4.setCell ⟨b, j * 3, none⟩ (.string mk)).setCell ⟨b, j * 3 + 1, none⟩ (.bool ((y + 1) % 3 == 0)) := ⟨_, rfl⟩
      have H5 : Hid (W5.heap[b]? = some (.cells ((cs'.setIfInBounds (j * 3) (.string mk)).setIfInBounds (j * 3 + 1) (.bool ((y + 1) % 3 == 0))) 87 (0, 0))) := by
        rw [hW5]; exact heap_setCell_same _ b _ _ _ _ (heap_setCell_same _ b _ _ _ _ H4.out)
      have HO5 : Hid (∀ m, m ≠ b → W5.heap[m]? = w4.heap[m]?) := fun m hm => by
        rw [hW5, heap_setCell_other _ _ _ _ (by exact hm), heap_setCell_other _ _ _ _ (by exact hm)]
      have HK5 : Hid (KeepsSizes w4 W5) := by rw [hW5]; exact keeps_set.trans keeps_set
      have HKk5 : Hid (KeepsKinds w4 W5) := kinds_other H4.out (by decide) HO5.out
      have HB5 : Hid (Below lo w4 W5) := by rw [hW5]; exact ((Below.refl lo w4).setCell (p := ⟨b, j * 3, none⟩) hlo _).setCell (p := ⟨b, j * 3 + 1, none⟩) hlo _
      have HS5 : Hid (W5.heap.size = w4.heap.size) := by rw [hW5]; simp [World.size_setCell, Hid]
      have hs5 := HS5.out
      have HKs := hide ((hks.out.trans (keeps_below hb4)).trans HK5.out)
      have HKk := hide ((hkk.out.trans (kinds_below hb4)).trans HKk5.out)
      have HMt := hide (markTerms_any (b + 1) hi at' ct ns (y + 1 + 1) W5 (HFt.out.kept HKk.out HKs.out) (by omega) htl HTk.out (by omega) (by omega))
      go_wp2_with fail
      rw [← hW5]
      clear hW5
      refine HMt.out.mono ?_
      rintro e w6 ⟨r, rfl, hr0, hr1, hwi6, hks6, hkk6⟩
      have HW6 := hide hwi6
      have HS6 := hide hks6
      have HKK6 := hide hkk6
      clear hwi6 hks6 hkk6 HMt
      have hs6 := HW6.out.below.size
      go_wp2_with fail
      refine ⟨⟨j + 1, r, ((cs'.setIfInBounds (j * 3) (.string mk)).setIfInBounds (j * 3 + 1) (.bool ((y + 1) % 3 == 0))), by omega, rfl, hr0, by omega, by go_num, ?_, by simp [hcs], fun i => ?_, HKs.out.trans HS6.out, HKk.out.trans HKK6.out, ⟨((hwi.out.below.trans (hb4.mono (by omega))).trans HB5.out).trans (HW6.out.below.mono (by omega)), fun m hm hmw => ?_⟩⟩, by simp [intOf]; omega⟩
      · exact (HW6.out.below.block b (by omega)).trans H5.out
      · rw [Array.getElem?_setIfInBounds_ne (by omega), Array.getElem?_setIfInBounds_ne (by omega)]
        exact hk2.out i
      · rw [HW6.out.above m hm (by omega), HO5.out m (by omega), hb4.block m (by omega)]
        exact hwi.out.above m hm hmw
    · clear hks hkk hk2
      go_wp2_with fail
      go_ret
      exact ⟨y, rfl, hy0, by have : j ≤ 1048576 := by omega
                             omega, hwi.out⟩

theorem markRules_any (lo hi : Nat) (v : Value) (l : List PRule) (w : World) (h : RulesOwn lo hi w v l) (hhi : hi ≤ w.heap.size) (hl : SmallRules l) :
    Calls Tryd.prog 25 #[v, .int .i64 1] w fun e w' => ∃ r, e = .returned (.int .i64 r) ∧ 0 ≤ r ∧ Within w w' lo hi :=
  (markRules_upto lo hi v l w h hhi hl).mono fun _ _ ⟨r, he, h0, _, hw⟩ => ⟨r, he, h0, hw⟩
end Go.Proofs.YtpkblnponeonkaaDoor
