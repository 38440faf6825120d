/-
  When kids are taken by terms, stretch by stretch: plain facts.
  A text of no bytes.
  The law package's copies of lists of numbers, how it compares them, and how long they may be.
-/
import Derived.Test.YtmcopoonnhcdjaaDoorJoin9
import Derived.Test.YtmcopoonnhcdjaaDoorJoin1
import Derived.Test.YtmcopoonnhcdjaaDoorJoin4
import Derived.Deep.DeepCutAuto
import Derived.WalkSmall
import Derived.WalkLawsBesides
import Derived.Laws.MakeOwn
import Derived.Laws.Rows
namespace Go.Proofs.YtmcopoonnhcdjaaDoor

def leastOf (m : Int) : Nat := if m = 0 ∨ m = 3 then 1 else 0
def mostOf (m : Int) (n : Nat) : Nat := if m < 2 then min n 1 else n

/-- A term takes these kids. -/
structure Takes (t : PTerm) (xs : List Int) : Prop where
  least : leastOf t.many ≤ xs.length
  most : t.many < 2 → xs.length ≤ 1
  kinds : ∀ x ∈ xs, x ∈ t.kinds

/-- Kids are parted into stretches, each of which its term takes. -/
def MatchP : List PTerm → List Int → Prop
  | [], ks => ks = []
  | t :: ts, ks => ∃ n, n ≤ ks.length ∧ Takes t (ks.take n) ∧ MatchP ts (ks.drop n)

theorem match_cons {t : PTerm} {ts : List PTerm} {ks : List Int} : MatchP (t :: ts) ks ↔ ∃ n, n ≤ mostOf t.many ks.length ∧ leastOf t.many ≤ n ∧ (∀ j, j < n → ks[j]?.getD 0 ∈ t.kinds) ∧ MatchP ts (ks.drop n) := by
  constructor
  · rintro ⟨n, hn, hT, hM⟩
    have h1 := hT.least
    have h2 := hT.most
    rw [List.length_take, Nat.min_eq_left hn] at h1 h2
    refine ⟨n, by unfold mostOf; split <;> omega, h1, fun j hj => ?_, hM⟩
    have : ks[j]?.getD 0 ∈ ks.take n := by
      rw [List.getElem?_eq_getElem (by omega), Option.getD_some]
      exact List.mem_take_iff_getElem.2 ⟨j, by omega, rfl⟩
    exact hT.kinds _ this
  · rintro ⟨n, hn, h1, hk, hM⟩
    have hle : n ≤ ks.length := by unfold mostOf at hn; split at hn <;> omega
    refine ⟨n, hle, ⟨?_, ?_, ?_⟩, hM⟩
    · rw [List.length_take, Nat.min_eq_left hle]; exact h1
    · intro h; rw [List.length_take, Nat.min_eq_left hle]; unfold mostOf at hn; rw [if_pos h] at hn; omega
    · intro x hx
      obtain ⟨j, hj, rfl⟩ := List.mem_take_iff_getElem.1 hx
      have := hk j (by omega)
      rwa [List.getElem?_eq_getElem (by omega), Option.getD_some] at this

theorem match_snoc {ts : List PTerm} {t : PTerm} {ks : List Int} : MatchP (ts ++ [t]) ks ↔ ∃ m, m ≤ ks.length ∧ MatchP ts (ks.take m) ∧ Takes t (ks.drop m) := by
  induction ts generalizing ks with
  | nil =>
    simp only [List.nil_append, MatchP]
    constructor
    · rintro ⟨n, hn, hT, hd⟩
      have : n = ks.length := by have := congrArg List.length hd; simp at this; omega
      subst this
      rw [List.take_length] at hT
      exact ⟨0, by omega, by simp, by simpa using hT⟩
    · rintro ⟨m, hm, h1, hT⟩
      have h0 : ks.take m = [] := h1
      by_cases e : m = 0
      · subst e; exact ⟨ks.length, by omega, by simpa using hT, by simp⟩
      · have hk : ks = [] := by
          have := congrArg List.length h0
          simp at this
          rcases this with h | h
          · exact absurd h e
          · exact h
        subst hk
        exact ⟨0, by simp, by simpa using hT, by simp⟩
  | cons s ts ih =>
    simp only [List.cons_append, MatchP]
    constructor
    · rintro ⟨n, hn, hT, hM⟩
      obtain ⟨m, hm, h1, h2⟩ := ih.1 hM
      rw [List.length_drop] at hm
      refine ⟨n + m, by omega, ⟨n, by rw [List.length_take]; omega, ?_, ?_⟩, ?_⟩
      · rw [List.take_take, Nat.min_eq_left (by omega)]; exact hT
      · rw [List.drop_take, Nat.add_sub_cancel_left]; exact h1
      · rwa [List.drop_drop] at h2
    · rintro ⟨m, hm, ⟨n, hn, hT, hM⟩, h2⟩
      rw [List.length_take, Nat.min_eq_left hm] at hn
      refine ⟨n, by omega, ?_, ih.2 ⟨m - n, by rw [List.length_drop]; omega, ?_, ?_⟩⟩
      · rw [List.take_take, Nat.min_eq_left (by omega)] at hT; exact hT
      · rw [List.drop_take] at hM; exact hM
      · rw [List.drop_drop, show n + (m - n) = m by omega]; exact h2

/-- How many kids are of these kinds ahead of one that is not. -/
def FirstP (kinds ks : List Int) (n : Nat) : Prop := n ≤ ks.length ∧ (∀ j, j < n → ks[j]?.getD 0 ∈ kinds) ∧ (n < ks.length → ks[n]?.getD 0 ∉ kinds)

theorem FirstP.uniq {kinds ks : List Int} {m n : Nat} (h : FirstP kinds ks m) (h' : FirstP kinds ks n) : m = n := by
  rcases Nat.lt_trichotomy m n with hlt | e | hlt
  · exact absurd (h'.2.1 m hlt) (h.2.2 (by have := h'.1; omega))
  · exact e
  · exact absurd (h.2.1 n hlt) (h'.2.2 (by have := h.1; omega))

theorem FirstP.ex (kinds : List Int) : ∀ ks : List Int, ∃ n, FirstP kinds ks n
  | [] => ⟨0, by simp, by simp, by simp⟩
  | x :: ks => by
    by_cases h : x ∈ kinds
    · obtain ⟨n, h1, h2, h3⟩ := FirstP.ex kinds ks
      refine ⟨n + 1, by simp; omega, fun j hj => ?_, fun hj => by simpa using h3 (by simpa using hj)⟩
      cases j with
      | zero => simpa using h
      | succ j => simpa using h2 j (by omega)
    · exact ⟨0, by simp, by simp, fun _ => by simpa using h⟩

theorem FirstP.le_iff {kinds ks : List Int} {q n : Nat} (h : FirstP kinds ks q) : n ≤ q ↔ n ≤ ks.length ∧ ∀ j, j < n → ks[j]?.getD 0 ∈ kinds := by
  refine ⟨fun hn => ⟨by have := h.1; omega, fun j hj => h.2.1 j (by omega)⟩, fun ⟨h1, h2⟩ => ?_⟩
  rcases Nat.lt_or_ge q n with hlt | hge
  · exact absurd (h2 q hlt) (h.2.2 (by omega))
  · exact hge

/-- The places that can be come to behind a term. -/
theorem reach_step {ts : List PTerm} {t : PTerm} {ks : List Int} {p : Nat} (hp : p ≤ ks.length) :
    MatchP (ts ++ [t]) (ks.take p) ↔ ∃ m, m ≤ p ∧ MatchP ts (ks.take m) ∧ leastOf t.many ≤ p - m ∧ p - m ≤ mostOf t.many (p - m) ∧ ∀ j, j < p - m → (ks.drop m)[j]?.getD 0 ∈ t.kinds := by
  rw [match_snoc, List.length_take, Nat.min_eq_left hp]
  constructor
  · rintro ⟨m, hm, h1, h2⟩
    rw [List.take_take, Nat.min_eq_left hm] at h1
    have hl : ((ks.take p).drop m).length = p - m := by simp; omega
    have a := h2.least
    have b := h2.most
    rw [hl] at a b
    refine ⟨m, hm, h1, a, by unfold mostOf; split <;> omega, fun j hj => h2.kinds _ ?_⟩
    rw [List.drop_take]
    rw [List.getElem?_eq_getElem (by simp; omega), Option.getD_some]
    exact List.mem_take_iff_getElem.2 ⟨j, by simp; omega, rfl⟩
  · rintro ⟨m, hm, h1, h2, h3, h4⟩
    have hl : ((ks.take p).drop m).length = p - m := by simp; omega
    refine ⟨m, hm, by rw [List.take_take, Nat.min_eq_left hm]; exact h1, ⟨by rw [hl]; exact h2, fun h => by rw [hl]; unfold mostOf at h3; rw [if_pos h] at h3; omega, fun x hx => ?_⟩⟩
    rw [List.drop_take] at hx
    obtain ⟨j, hj, rfl⟩ := List.mem_take_iff_getElem.1 hx
    have := h4 j (by omega)
    rwa [List.getElem?_eq_getElem (by simp at hj ⊢; omega), Option.getD_some] at this
end Go.Proofs.YtmcopoonnhcdjaaDoor

namespace Go.Proofs.YtmcopoonnhcdjaaDoor
open Go.RowKit

theorem loop_ne (bs : ByteArray) : ∀ (n i : Nat) (r : List UInt8), bs.size - i = n → (r ≠ [] ∨ i < bs.size) → ByteArray.toList.loop bs i r ≠ [] := by
  intro n
  induction n with
  | zero =>
    intro i r h hr
    rw [ByteArray.toList.loop, if_neg (by omega)]
    rcases hr with hr | hr
    · simpa using hr
    · omega
  | succ n ih =>
    intro i r h hr
    rw [ByteArray.toList.loop, if_pos (by omega)]
    exact ih (i + 1) _ (by omega) (.inl (by simp))

theorem toList_nil {t : ByteArray} : t.toList = [] ↔ t.size = 0 := by
  constructor
  · intro h
    by_cases h0 : 0 < t.size
    · exact absurd h (loop_ne t _ 0 [] rfl (.inr h0))
    · omega
  · intro h
    rw [ByteArray.toList, ByteArray.toList.loop, if_neg (by omega)]
    rfl

theorem empty_iff {t : ByteArray} : t = ByteArray.empty ↔ t.size = 0 := by
  constructor
  · rintro rfl; rfl
  · intro h; cases t with | mk d => simp [ByteArray.size] at h; subst h; rfl
end Go.Proofs.YtmcopoonnhcdjaaDoor

namespace Go.Proofs.YtmcopoonnhcdjaaDoor
open Go.RowKit

set_option maxHeartbeats 400000 in
theorem eqInts_any (n₀ : Nat) (v v' : Value) (ks : List Int) (w : World) (h : IntsAt n₀ w v ks) (h' : IntsAt n₀ w v' ks) (hl : ks.length ≤ 1048576) :
    Calls Tryd.prog 20 #[v, v'] w fun e w' => e = .returned (.bool true) ∧ Below w.heap.size w w' := by
  obtain ⟨a, cap, rfl, hk⟩ := h
  obtain ⟨a', cap', rfl, hk'⟩ := h'
  go_enter Tryd.func20, Tryd.ntmps20
  go_wp2_with fail
  go_loopw [5] (fun i wr => ∃ k : Nat, k ≤ ks.length ∧ i = .int .i64 k ∧ ∃ q, wr = w.drewN q) (fun i _ => ks.length - (intOf i).toNat)
  case atStart => exact ⟨0, Nat.zero_le _, rfl, 0, rfl⟩
  case round =>
    obtain ⟨k, hkl, rfl, q, rfl⟩ := hrel
    by_cases hlt : k < ks.length
    · obtain ⟨b, off, rfl, hb, hc⟩ := hk.resolve_left (by intro e; simp [e] at hlt)
      obtain ⟨b', off', rfl, hb', hc'⟩ := hk'.resolve_left (by intro e; simp [e] at hlt)
      have hck := hc k hlt
      have hck' := hc' k hlt
      have hlt1 : (k : Int) < (ks.length : Int) := by omega
      clear hc hc' hk hk'
      generalize ks[k]?.getD 0 = y at *
      go_wp2_with fail
      go_quiet (fail)
      go_wp2_with fail
      exact ⟨⟨k + 1, by omega, by go_num, _, rfl⟩, by simp [intOf]; omega⟩
    · clear hk hk'
      go_wp2_with fail
      go_ret
      exact ⟨rfl, below_drewN (Below.refl _ _) _⟩

/-- A list of numbers in a block of its own. -/
def IntsOwn (lo hi : Nat) (w : World) (v : Value) (ks : List Int) : Prop :=
  ∃ b cap cs, v = .slice (some ⟨b, 0, none⟩) ks.length cap ∧ lo ≤ b ∧ b < hi ∧ w.heap[b]? = some (.cells cs 3 (0, 0)) ∧ ∀ j, j < ks.length → cs[j]? = some (.int .i64 (ks[j]?.getD 0))

theorem IntsOwn.at {lo hi : Nat} {w : World} {v : Value} {ks : List Int} (h : IntsOwn lo hi w v ks) : IntsAt hi w v ks := by
  obtain ⟨b, cap, cs, rfl, h1, h2, h3, h4⟩ := h
  exact ⟨_, cap, rfl, .inr ⟨b, 0, rfl, h2, fun j hj => by rw [Nat.zero_add, cell_of_heap h3, h4 j hj]⟩⟩

theorem IntsOwn.heap {lo hi lo' hi' : Nat} {w w' : World} {v : Value} {ks : List Int} (h : IntsOwn lo hi w v ks) (hl : lo' ≤ lo) (hh : hi ≤ hi') (hb : ∀ b, lo ≤ b → b < hi → w'.heap[b]? = w.heap[b]?) : IntsOwn lo' hi' w' v ks := by
  obtain ⟨b, cap, cs, rfl, h1, h2, h3, h4⟩ := h
  exact ⟨b, cap, cs, rfl, by omega, by omega, (hb b h1 h2).trans h3, h4⟩

theorem IntsOwn.below {lo hi : Nat} {w w' : World} {v : Value} {ks : List Int} (h : IntsOwn lo hi w v ks) (hb : Below hi w w') : IntsOwn lo hi w' v ks := h.heap (Nat.le_refl _) (Nat.le_refl _) fun b _ h2 => hb.block b h2

theorem specInfoInt' : (Tryd.prog.info? 3).map (fun i => (i.zero, i.size, i.bytes)) = some (some (.int .i64 0), 1, 8) := by kernel_rfl

set_option maxHeartbeats 400000 in
theorem toInts_any (n₀ : Nat) (v : Value) (ks : List Int) (w : World) (h : IntsAt n₀ w v ks) (hn : n₀ ≤ w.heap.size) (hl : ks.length ≤ 1048576) :
    Calls Tryd.prog 94 #[v] w fun e w' => ∃ u, e = .returned u ∧ IntsOwn w.heap.size w'.heap.size w' u ks ∧ Below w.heap.size w w' ∧ w.heap.size < w'.heap.size := by
  obtain ⟨i0, hi, hz0, hz1, hz2⟩ := info_parts specInfoInt'
  have hmk : ∀ w, (Instr.makeSlice 41 (.int .i64 (ks.length : Int)) (.int .i64 (ks.length : Int))).run Tryd.prog w = .ok (.slice (some ⟨w.heap.size, 0, none⟩) ks.length ks.length) (w.alloc (.cells (madeCells #[.int .i64 0] ks.length) 3)) := fun w => by
    have := run_make (P := Tryd.prog) w 41 3 i0 (.int .i64 0) Tryd.underlying41 hi hz0 .i64 .i64 ks.length ks.length (by omega) (Int.le_refl _) (by rw [hz2]; omega) (by omega)
    simpa [hz1, Value.cells] using this
  obtain ⟨a, cap, rfl, hk⟩ := h
  clear hi hz0 hz1 hz2
  go_enter Tryd.func94, Tryd.ntmps94
  go_wp2_with fail
  go_loopw [4] (fun i wr => ∃ (k : Nat) (cs : Array Value), k ≤ ks.length ∧ i = .int .i64 k ∧ Hid (wr.heap[w.heap.size]? = some (.cells cs 3 (0, 0))) ∧ cs.size = ks.length ∧ Hid (∀ j, j < k → cs[j]? = some (.int .i64 (ks[j]?.getD 0))) ∧ Below w.heap.size w wr) (fun i _ => ks.length - (intOf i).toNat)
  case atStart => exact ⟨0, _, Nat.zero_le _, rfl, alloc_new w _, size_madeCells _ _, fun j hj => by omega, (Below.refl _ _).alloc (Nat.le_refl _) _⟩
  case round =>
    obtain ⟨k, cs, hkl, rfl, hh, hcs, hall, hbr⟩ := hrel
    have hlt2 : w.heap.size < wr.heap.size := (Array.getElem?_eq_some_iff.1 hh.out).1
    by_cases hlt : k < ks.length
    · obtain ⟨b, off, rfl, hb, hc⟩ := hk.resolve_left (by intro e; simp [e] at hlt)
      have hck := (hbr.cell (p := ⟨b, off + k, none⟩) (show b < w.heap.size by omega)).trans (hc k hlt)
      have hco : wr.cell? ⟨w.heap.size, k, none⟩ = some (cs[k]'(by omega)) := by rw [cell_of_heap hh.out]; simp [hcs, hlt]
      have hfo := frozen_of_heap hh.out k
      have HH2 : Hid ((wr.setCell ⟨w.heap.size, k, none⟩ (.int .i64 (ks[k]?.getD 0))).heap[w.heap.size]? = some (.cells (cs.setIfInBounds k (.int .i64 (ks[k]?.getD 0))) 3 (0, 0))) := heap_setCell_same _ _ _ _ _ _ hh.out
      have HAll2 : Hid (∀ j, j < k + 1 → (cs.setIfInBounds k (.int .i64 (ks[k]?.getD 0)))[j]? = some (.int .i64 (ks[j]?.getD 0))) := by
        intro j hj
        by_cases e : j = k
        · subst e; simp [hcs, hlt]
        · rw [Array.getElem?_setIfInBounds_ne (fun h => e h.symm)]; exact hall.out j (by omega)
      clear hc hk hall
      generalize cs[k]'(by omega) = old at *
      have hsz2 : ∀ u, (cs.setIfInBounds k u).size = ks.length := fun u => by simp [hcs]
      clear hcs
      generalize ks[k]?.getD 0 = y at *
      go_wp2_with fail
      go_roundw
      case rel => exact ⟨k + 1, _, by omega, by go_num, HH2, hsz2 _, HAll2, hbr.setCell (p := ⟨w.heap.size, k, none⟩) (Nat.le_refl _) _⟩
      case measure => simp [intOf]; omega
    · clear hk
      go_wp2_with fail
      go_ret
      exact ⟨_, rfl, ⟨w.heap.size, ks.length, cs, rfl, Nat.le_refl _, hlt2, hh.out, fun j hj => hall.out j (by omega)⟩, hbr, hlt2⟩

set_option maxHeartbeats 400000 in
theorem szInts_any (a : Option Addr) (n cap : Nat) (c : Int) (w : World) (h0 : 0 ≤ c) (h1 : c ≤ 1048576) (hl : n ≤ 9223372036854775807) :
    Calls Tryd.prog 90 #[.slice a n cap, .int .i64 c] w fun e w' => ∃ r, e = .returned (.int .i64 r) ∧ -1 ≤ r ∧ r ≤ c ∧ (0 ≤ r → n ≤ 1048576) ∧ w' = w := by
  by_cases h : c - n < 0
  · go_enter Tryd.func90, Tryd.ntmps90
    go_wp2
    go_ret
    exact ⟨_, rfl, by omega, by omega, by omega, rfl⟩
  · go_enter Tryd.func90, Tryd.ntmps90
    go_wp2
    go_ret
    exact ⟨_, rfl, by omega, by omega, by omega, rfl⟩
end Go.Proofs.YtmcopoonnhcdjaaDoor
