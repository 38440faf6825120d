/-
  The law package's marks on a list of one node without kids, and on a document of such a list or of none.
-/
import Derived.Test.YtigkjljknmojhaaMarkText
import Derived.Test.YtigkjljknmojhaaCalm
import Derived.Deep.DeepCutAuto
namespace Go.Proofs.Ytigkjljknmojhaa
open Go.RowKit

def markedOne : Obj := .cells #[.int .i64 1, .int .i64 2, .int .i64 3, .string (markOf 4), .slice none 0 0] 39 (0, 0)

def MarkOnePost (w : World) (b : Nat) (e : Ending) (w' : World) : Prop :=
  e = .returned (.int .i64 5) ∧ w'.heap[b]? = some markedOne ∧ Below b w w' ∧ ∀ m, m ≠ b → m < w.heap.size → w'.heap[m]? = w.heap[m]?

set_option maxHeartbeats 1000000 in
set_option maxRecDepth 100000 in
theorem markNodes_one (b cap : Nat) (c0 c1 c2 c3 : Value) (w : World) (hh : w.heap[b]? = some (.cells #[c0, c1, c2, c3, .slice none 0 0] 39 (0, 0))) :
    Calls Try.prog 46 #[.slice (some ⟨b, 0, none⟩) 1 cap, .int .i64 1] w (MarkOnePost w b) := by
  have d0 : w.cell? ⟨b, 0, none⟩ = some c0 := cell_of_heap hh 0
  have d1 : w.cell? ⟨b, 1, none⟩ = some c1 := cell_of_heap hh 1
  have d2 : w.cell? ⟨b, 2, none⟩ = some c2 := cell_of_heap hh 2
  have d3 : w.cell? ⟨b, 3, none⟩ = some c3 := cell_of_heap hh 3
  have d4 : w.cell? ⟨b, 4, none⟩ = some (.slice none 0 0) := cell_of_heap hh 4
  have z0 := frozen_of_heap hh 0
  have z1 := frozen_of_heap hh 1
  have z2 := frozen_of_heap hh 2
  have z3 := frozen_of_heap hh 3
  have hbw : b < w.heap.size := (Array.getElem?_eq_some_iff.1 hh).1
  have HH := hide hh
  have H3 : Hid ((((w.setCell ⟨b, 0, none⟩ (.int .i64 1)).setCell ⟨b, 1, none⟩ (.int .i64 2)).setCell ⟨b, 2, none⟩ (.int .i64 3)).heap[b]? = some (.cells #[.int .i64 1, .int .i64 2, .int .i64 3, c3, .slice none 0 0] 39 (0, 0))) := by
    have := heap_setCell_same _ b 2 _ _ (.int .i64 3) (heap_setCell_same _ b 1 _ _ (.int .i64 2) (heap_setCell_same w b 0 _ _ (.int .i64 1) hh))
    unfold Hid; simpa using this
  have HB3 : Hid (Below b w (((w.setCell ⟨b, 0, none⟩ (.int .i64 1)).setCell ⟨b, 1, none⟩ (.int .i64 2)).setCell ⟨b, 2, none⟩ (.int .i64 3))) :=
    (((Below.refl b w).setCell (p := ⟨b, 0, none⟩) (Nat.le_refl _) _).setCell (p := ⟨b, 1, none⟩) (Nat.le_refl _) _).setCell (p := ⟨b, 2, none⟩) (Nat.le_refl _) _
  have HO3 : Hid (∀ m, m ≠ b → (((w.setCell ⟨b, 0, none⟩ (.int .i64 1)).setCell ⟨b, 1, none⟩ (.int .i64 2)).setCell ⟨b, 2, none⟩ (.int .i64 3)).heap[m]? = w.heap[m]?) := fun m hm => by
    rw [heap_setCell_other _ _ _ _ (by exact hm), heap_setCell_other _ _ _ _ (by exact hm), heap_setCell_other _ _ _ _ (by exact hm)]
  clear hh
  go_enter Try.func46, Try.ntmps46
  go_wp2_with fail
  go_loopw [1, 5] (fun kv i wr => (kv = .int .i64 1 ∧ i = .int .i64 0 ∧ wr = w) ∨ (kv = .int .i64 5 ∧ i = .int .i64 1 ∧ Hid (wr.heap[b]? = some markedOne ∧ Below b w wr ∧ ∀ m, m ≠ b → m < w.heap.size → wr.heap[m]? = w.heap[m]?))) (fun _ i _ => 1 - (intOf i).toNat)
  case atStart => exact .inl ⟨rfl, rfl, rfl⟩
  case round =>
    rcases hrel with ⟨rfl, rfl, rfl⟩ | ⟨rfl, rfl, hp⟩
    · go_wp2_with fail
      refine (markText_any 4 4 _ rfl (by omega) (by omega)).mono ?_
      rintro e w4 ⟨rfl, hb4⟩
      simp only [World.size_setCell] at hb4
      have h4 := (hb4.block b hbw).trans H3.out
      have e3 : w4.cell? ⟨b, 3, none⟩ = some c3 := cell_of_heap h4 3
      have e4 : w4.cell? ⟨b, 4, none⟩ = some (.slice none 0 0) := cell_of_heap h4 4
      have f3 := frozen_of_heap h4 3
      have f4 := frozen_of_heap h4 4
      have H4 := hide h4
      clear h4
      generalize hmk : markOf 4 = mk at *
      go_wp2_with fail
      refine (markInts_any none 0 0 5 _ (.inl rfl) (by omega) (by omega) (by omega)).mono ?_
      rintro e w6 ⟨rfl, ho, -⟩
      go_wp2_with fail
      refine ⟨.inr ⟨by simp, rfl, ?_⟩, by simp [intOf]⟩
      have h5 := heap_setCell_same w4 b 3 _ _ (.string mk) H4.out
      refine ⟨(ho.same b (fun _ h => by cases h)).trans (h5.trans ?_), ?_, fun m hm hlt => ?_⟩
      · simp [markedOne, hmk]
      · exact (HB3.out.trans (hb4.mono (by omega))).trans (((Below.refl b w4).setCell (p := ⟨b, 3, none⟩) (Nat.le_refl _) _).trans (ho.below b (fun _ h => by cases h)))
      · rw [ho.same m (fun _ h => by cases h), heap_setCell_other _ _ _ _ (by exact hm), hb4.block m hlt, HO3.out m hm]
    · go_wp2_with fail
      go_ret
      exact ⟨rfl, hp.out⟩

set_option maxHeartbeats 1000000 in
set_option maxRecDepth 100000 in
theorem heldNodes_one (b cap : Nat) (w : World) (hh : w.heap[b]? = some markedOne) :
    Calls Try.prog 47 #[.slice (some ⟨b, 0, none⟩) 1 cap, .int .i64 1] w fun e w' => e = .returned (.int .i64 5) ∧ Below w.heap.size w w' := by
  have hbw : b < w.heap.size := (Array.getElem?_eq_some_iff.1 hh).1
  have HH := hide hh
  clear hh
  go_enter Try.func47, Try.ntmps47
  go_wp2_with fail
  go_loopw [1, 5] (fun kv i wr => (kv = .int .i64 1 ∧ i = .int .i64 0 ∧ wr = w) ∨ (kv = .int .i64 5 ∧ i = .int .i64 1 ∧ Below w.heap.size w wr)) (fun _ i _ => 1 - (intOf i).toNat)
  case atStart => exact .inl ⟨rfl, rfl, rfl⟩
  case round =>
    rcases hrel with ⟨rfl, rfl, rfl⟩ | ⟨rfl, rfl, hp⟩
    · have hh := HH.out
      unfold markedOne at hh
      have d0 : wr.cell? ⟨b, 0, none⟩ = some (.int .i64 1) := cell_of_heap hh 0
      have d1 : wr.cell? ⟨b, 1, none⟩ = some (.int .i64 2) := cell_of_heap hh 1
      have d2 : wr.cell? ⟨b, 2, none⟩ = some (.int .i64 3) := cell_of_heap hh 2
      have d3 : wr.cell? ⟨b, 3, none⟩ = some (.string (markOf 4)) := cell_of_heap hh 3
      have d4 : wr.cell? ⟨b, 4, none⟩ = some (.slice none 0 0) := cell_of_heap hh 4
      have HE : Hid (∀ t : Calm wr, Calls Try.prog 73 #[.int .i64 4] t.out fun e w' => e = .returned (.string (markOf 4)) ∧ Below t.out.heap.size t.out w') := fun t => markText_any 4 4 t.out rfl (by omega) (by omega)
      have hs : ((markOf 4).toList == (markOf 4).toList) = true := by simp
      have hcal := calm_cell wr
      clear hh
      generalize markOf 4 = mk at *
      go_wp2_with fail
      refine wp_region_calm (by kernel_rfl) (by kernel_rfl) ?_
      repeat (go_big_quiet_step ((go_at_call 73; exact calm_of (HE.out _))))
      refine wpQuiet_nil ?_
      rintro _ ⟨t, rfl⟩
      have ht := t.below
      go_wp2_with fail
      refine (heldInts_any none 0 0 5 _ (.inl rfl) (by omega) (by omega) (by omega)).mono ?_
      rintro e w6 ⟨rfl, rfl⟩
      go_wp2_with fail
      exact ⟨.inr ⟨by simp, rfl, ht⟩, by simp [intOf]⟩
    · go_wp2_with fail
      go_ret
      exact ⟨rfl, hp⟩
end Go.Proofs.Ytigkjljknmojhaa
