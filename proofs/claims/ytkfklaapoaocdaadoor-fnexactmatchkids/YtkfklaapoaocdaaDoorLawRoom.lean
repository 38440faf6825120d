/-
  The law package's copy of a list of numbers has room for them.
-/
import Derived.Test.YtkfklaapoaocdaaDoorSchTo
namespace Go.Proofs.YtkfklaapoaocdaaDoor
open Go.RowKit

set_option maxHeartbeats 400000 in
theorem toIntsRoom_any (n₀ : Nat) (v : Value) (ks : List Int) (w : World) (h : IntsAt n₀ w v ks) (hn : n₀ ≤ w.heap.size) (hl : ks.length ≤ 1048576) :
    Calls Tryd.prog 11 #[v] w fun e w' => ∃ u, e = .returned u ∧ (IntsOwn w.heap.size w'.heap.size w' u ks ∧ Roomy u ks.length) ∧ Below w.heap.size w w' ∧ w.heap.size < w'.heap.size := by
  obtain ⟨i0, hi, hz0, hz1, hz2⟩ := info_parts specInfoInt'
  have hmk : ∀ w, (Instr.makeSlice 23 (.int .i64 (ks.length : Int)) (.int .i64 (ks.length : Int))).run Tryd.prog w = .ok (.slice (some ⟨w.heap.size, 0, none⟩) ks.length ks.length) (w.alloc (.cells (madeCells #[.int .i64 0] ks.length) 3)) := fun w => by
    have := run_make (P := Tryd.prog) w 23 3 i0 (.int .i64 0) Tryd.underlying23 hi hz0 .i64 .i64 ks.length ks.length (by omega) (Int.le_refl _) (by rw [hz2]; omega) (by omega)
    simpa [hz1, Value.cells] using this
  obtain ⟨a, cap, rfl, hk⟩ := h
  clear hi hz0 hz1 hz2
  go_enter Tryd.func11, Tryd.ntmps11
  go_wp2_with fail
  go_loopw [4] (fun i wr => ∃ (k : Nat) (cs : Array Value), k ≤ ks.length ∧ i = .int .i64 k ∧ Hid (wr.heap[w.heap.size]? = some (.cells cs 3 (0, 0))) ∧ cs.size = ks.length ∧ Hid (∀ j, j < k → cs[j]? = some (.int .i64 (ks[j]?.getD 0))) ∧ Below w.heap.size w wr) (fun i _ => ks.length - (intOf i).toNat)
  case atStart => exact ⟨0, _, Nat.zero_le _, rfl, alloc_new w _, size_madeCells _ _, fun j hj => by omega, (Below.refl _ _).alloc (Nat.le_refl _) _⟩
  case round =>
    obtain ⟨k, cs, hkl, rfl, hh, hcs, hall, hbr⟩ := hrel
    have hlt2 : w.heap.size < wr.heap.size := (Array.getElem?_eq_some_iff.1 hh.out).1
    by_cases hlt : k < ks.length
    · obtain ⟨b, off, rfl, hb, hc⟩ := hk.resolve_left (by intro e; simp [e] at hlt)
      have hck := (hbr.cell (p := ⟨b, off + k, none⟩) (show b < w.heap.size by omega)).trans (hc k hlt)
      have hco : wr.cell? ⟨w.heap.size, k, none⟩ = some (cs[k]'(by omega)) := by rw [cell_of_heap hh.out]; simp [hcs, hlt]
      have hfo := frozen_of_heap hh.out k
      have HH2 : Hid ((wr.setCell ⟨w.heap.size, k, none⟩ (.int .i64 (ks[k]?.getD 0))).heap[w.heap.size]? = some (.cells (cs.setIfInBounds k (.int .i64 (ks[k]?.getD 0))) 3 (0, 0))) := heap_setCell_same _ _ _ _ _ _ hh.out
      have HAll2 : Hid (∀ j, j < k + 1 → (cs.setIfInBounds k (.int .i64 (ks[k]?.getD 0)))[j]? = some (.int .i64 (ks[j]?.getD 0))) := by
        intro j hj
        by_cases e : j = k
        · subst e; simp [hcs, hlt]
        · rw [Array.getElem?_setIfInBounds_ne (fun h => e h.symm)]; exact hall.out j (by omega)
      clear hc hk hall
      generalize cs[k]'(by omega) = old at *
      have hsz2 : ∀ u, (cs.setIfInBounds k u).size = ks.length := fun u => by simp [hcs]
      clear hcs
      generalize ks[k]?.getD 0 = y at *
      go_wp2_with fail
      go_roundw
      case rel => exact ⟨k + 1, _, by omega, by go_num, HH2, hsz2 _, HAll2, hbr.setCell (p := ⟨w.heap.size, k, none⟩) (Nat.le_refl _) _⟩
      case measure => simp [intOf]; omega
    · clear hk
      go_wp2_with fail
      go_ret
      exact ⟨_, rfl, ⟨⟨w.heap.size, ks.length, cs, rfl, Nat.le_refl _, hlt2, hh.out, fun j hj => hall.out j (by omega)⟩, ⟨_, _, rfl, Nat.le_refl _⟩⟩, hbr, hlt2⟩
end Go.Proofs.YtkfklaapoaocdaaDoor
