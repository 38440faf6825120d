/-
  The program's sets of numbers: a map of one's own; setOf of no elements, has, add.
-/
import Derived.Test.YtfjhpfgffbghdaaBasicInJ
import Derived.Maps.OwnSet
import Derived.Maps.Views
namespace Go.Proofs.Ytfjhpfgffbghdaa
open Go.RowKit

/-- Block b is a set that has just the numbers of a list. -/
def IntSet (w : World) (b n : Nat) (S : List Int) : Prop :=
  ∃ D : DataW Unit, w.ownsMap Try.prog 3 unitElem b n D ∧ Maps.IsMap D ∧ ∀ i : Int, Maps.has D (.int .i64 i) = decide (i ∈ S)

theorem IntSet.lt {w : World} {b n : Nat} {S : List Int} (h : IntSet w b n S) : b < w.heap.size := let ⟨_, h, _⟩ := h; h.lt
theorem IntSet.heap {w w' : World} {b n : Nat} {S : List Int} (h : IntSet w b n S) (he : w'.heap[b]? = w.heap[b]?) : IntSet w' b n S := by
  obtain ⟨D, ⟨es, clock, hb, F, hs, hD⟩, h2, h3⟩ := h
  exact ⟨D, ⟨es, clock, he.trans hb, F, hs, hD⟩, h2, h3⟩
theorem IntSet.below {w w' : World} {b n : Nat} {S : List Int} (h : IntSet w b n S) (hb : Below w.heap.size w w') : IntSet w' b n S := h.heap (hb.block b h.lt)
/-- The block of a set is no block of cells. -/
theorem IntSet.far {w : World} {b n : Nat} {S : List Int} (h : IntSet w b n S) {c : Nat} {cs : Array Value} {t : TypeId} {fr : Nat × Nat} (hc : w.heap[c]? = some (.cells cs t fr)) : c ≠ b := by
  obtain ⟨D, ⟨es, clock, hh, _⟩, _⟩ := h
  intro e; subst e; rw [hh] at hc; cases hc

theorem set_zero (w : World) : (zeroValue 141).run Try.prog w = .ok (.agg #[]) w := by kernel_rfl

set_option maxHeartbeats 400000 in
theorem setOf_none (w : World) : Calls Try.prog 75 #[.slice none 0 0] w fun e w' => e = .returned (.map (some w.heap.size)) ∧ IntSet w' w.heap.size 0 [] ∧ Below w.heap.size w w' := by
  have hmm := @run_makeMap Try.prog
  have hset : IntSet (w.alloc (.map #[] 0)) w.heap.size 0 [] := ⟨.map [], World.ownsMap_made w _ _ _, ⟨[], rfl⟩, fun i => by simp [Maps.has]⟩
  go_enter Try.func75, Try.ntmps75
  go_wp2
  refine wp_loop_rounds 1 ?_
  rw [rounds_succ]
  go_wp2
  go_ret
  exact ⟨rfl, hset, (Below.refl _ _).alloc (Nat.le_refl _) _⟩

set_option maxHeartbeats 400000 in
theorem has_any (b n : Nat) (S : List Int) (i : Int) (w : World) (h : IntSet w b n S) (hi : Wf64 i) (r : Bool) (hr : r = decide (i ∈ S)) :
    Calls Try.prog 76 #[.map (some b), .int .i64 i] w fun e w' => e = .returned (.bool r) ∧ Below w.heap.size w w' := by
  obtain ⟨D, hown, hD, hhas⟩ := h
  have HR : Hid (Maps.has D (.int .i64 i) = r) := (hhas i).trans hr.symm
  clear hhas hr
  go_enter Try.func76, Try.ntmps76
  go_wp2_with (at_lookup; refine wpList_lookup_own_unit _ rfl _ _ 121 rfl 3 141 (Maps.int_keyed Try.underlying3) Try.underlying121 (set_zero _) b n D rfl hown _ _ rfl (Maps.keyOf_int_mk Try.underlying3 hi) ?_)
  go_ret
  exact ⟨ret_bool HR.out, (Below.refl _ _).alloc (Nat.le_refl _) _⟩

set_option maxHeartbeats 400000 in
theorem add_any (b n : Nat) (S : List Int) (i : Int) (w : World) (h : IntSet w b n S) (hn : n ≤ 1048576) (hi : Wf64 i) :
    Calls Try.prog 77 #[.map (some b), .int .i64 i] w fun e w' => e = .returned (.tuple #[]) ∧ IntSet w' b (n + 1) (i :: S) ∧ w.grownBy w' (some b) := by
  obtain ⟨D, hown, hD, hhas⟩ := h
  have HD := hide hD
  have HHas := hide hhas
  clear hD hhas
  go_enter Try.func77, Try.ntmps77
  go_wp2_with (at_mapUpdate; refine wpList_mapUpdate_own _ rfl _ _ _ 121 rfl 3 141 (Maps.int_keyed Try.underlying3) Try.underlying121 (unitElem (H := Unit)) b n D rfl hown (by unfold maxLen; omega) _ _ _ rfl rfl (Maps.keyOf_int_mk Try.underlying3 hi) _ [] unitElem_mk ?_)
  intro w2 hown2 hgr2
  have HS : Hid (IntSet w2 b (n + 1) (i :: S)) := by
    refine ⟨_, hown2, ?_, fun j => ?_⟩
    · obtain ⟨es, rfl⟩ := HD.out; exact ⟨_, rfl⟩
    · by_cases e : j = i
      · subst e; rw [Maps.has_put_same HD.out (by trivial)]; simp
      · rw [Maps.has_put_other (by intro h; simp at h; exact e h), HHas.out]; simp [e]
  clear hown2
  go_wp2
  exact bodyPost_end (v := .tuple #[]) (results_none rfl _ _ _) rfl ⟨rfl, HS.out, hgr2⟩
end Go.Proofs.Ytfjhpfgffbghdaa
