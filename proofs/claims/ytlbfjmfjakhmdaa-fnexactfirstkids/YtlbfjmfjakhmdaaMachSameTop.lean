/-
  SameMachine: what the program and the specification answer.
-/
import Derived.Test.YtlbfjmfjakhmdaaMachSame
namespace Go.Proofs.Ytlbfjmfjakhmdaa
open Go.RowKit

set_option maxHeartbeats 1000000 in
set_option maxRecDepth 100000 in
theorem specSameMachine_any (n₀ : Nat) (v v' : Value) (x y : PMach) (w : World) (h : MachVal n₀ w v x) (h' : MachVal n₀ w v' y) (hn : n₀ ≤ w.heap.size) (hl : SmallMach x) (hl' : SmallMach y) (r : Bool) (hr : r = true ↔ MachP x ∧ MachP y ∧ x = y) :
    Calls Try.prog 21 #[v, v'] w fun e w' => e = .returned (.bool r) ∧ Below w.heap.size w w' := by
  have HD := hide h
  have HD' := hide h'
  obtain ⟨a, cap, af, capf, rfl, -, hk, hf⟩ := h.form
  obtain ⟨a', cap', af', capf', rfl, -, hk', hf'⟩ := h'.form
  have hW := ((Below.refl w.heap.size w).alloc (Nat.le_refl _) (.cells #[.slice a x.next.length cap, .slice af x.final.length capf] 28)).alloc (by simp) (.cells #[.slice a' y.next.length cap', .slice af' y.final.length capf'] 28)
  obtain ⟨ra, hra⟩ : ∃ r : Bool, r = true ↔ MachP x := ⟨dec _, dec_iff _⟩
  obtain ⟨rb, hrb⟩ : ∃ r : Bool, r = true ↔ MachP y := ⟨dec _, dec_iff _⟩
  have HA := hide (specMachineOK_any n₀ _ x _ (HD.out.below (Nat.le_refl _) (hW.mono hn)) (by simp; omega) hl ra hra)
  have HB : Hid (∀ wx, Below w.heap.size w wx → Calls Try.prog 8 #[.agg #[.slice a' y.next.length cap', .slice af' y.final.length capf']] wx fun e w' => e = .returned (.bool rb) ∧ Below wx.heap.size wx w') := fun wx hb =>
    specMachineOK_any n₀ _ y wx (HD'.out.below (Nat.le_refl _) (hb.mono hn)) (by have := hb.size; omega) hl' rb hrb
  rw [← hra, ← hrb] at hr
  have HR := hide hr
  have HS : Hid (∀ wx, Below w.heap.size w wx → Calls Try.prog 39 #[.agg #[.slice a x.next.length cap, .slice af x.final.length capf], .agg #[.slice a' y.next.length cap', .slice af' y.final.length capf']] wx fun e w' => e = .returned (.bool (dec (x = y))) ∧ Below wx.heap.size wx w') := fun wx hb =>
    specSameMach_any n₀ _ _ x y wx (HD.out.below (Nat.le_refl _) (hb.mono hn)) (HD'.out.below (Nat.le_refl _) (hb.mono hn)) (by have := hb.size; omega) hl hl' _ (dec_iff _)
  clear hr hra hrb h h' hk hk' hf hf' hl hl'
  cases ra with
  | false =>
    have hff : Hid (r = false) := no_true HR.out fun e => by cases e.1
    go_enter Try.func21, Try.ntmps21
    go_wp2_with fail
    refine HA.out.mono ?_
    rintro e w1 ⟨rfl, hb1⟩
    go_wp2_with fail
    go_ret
    exact ⟨ret_bool hff.out.symm, hW.trans (hb1.mono (by simp; omega))⟩
  | true =>
    go_enter Try.func21, Try.ntmps21
    go_wp2_with fail
    refine HA.out.mono ?_
    rintro e w1 ⟨rfl, hb1⟩
    simp only [World.size_alloc] at hb1
    have hs1 := hb1.size
    simp only [World.size_alloc] at hs1
    have hb1' := hW.trans (hb1.mono (by omega))
    have c0 : w1.cell? ⟨w.heap.size, 0, none⟩ = some (.slice a x.next.length cap) := by rw [hb1.cell (p := ⟨w.heap.size, 0, none⟩) (by simp; omega)]; simp
    have c1 : w1.cell? ⟨w.heap.size, 1, none⟩ = some (.slice af x.final.length capf) := by rw [hb1.cell (p := ⟨w.heap.size, 1, none⟩) (by simp; omega)]; simp
    have d0 : w1.cell? ⟨w.heap.size + 1, 0, none⟩ = some (.slice a' y.next.length cap') := by rw [hb1.cell (p := ⟨w.heap.size + 1, 0, none⟩) (by simp)]; simp
    have d1 : w1.cell? ⟨w.heap.size + 1, 1, none⟩ = some (.slice af' y.final.length capf') := by rw [hb1.cell (p := ⟨w.heap.size + 1, 1, none⟩) (by simp)]; simp
    clear HA
    cases rb with
    | false =>
      have hff : Hid (r = false) := no_true HR.out fun e => by cases e.2.1
      go_wp2_with fail
      refine (HB.out _ hb1').mono ?_
      rintro e w2 ⟨rfl, hb2⟩
      go_wp2_with fail
      go_ret
      exact ⟨ret_bool hff.out.symm, hb1'.trans (hb2.mono (by omega))⟩
    | true =>
      go_wp2_with fail
      refine (HB.out _ hb1').mono ?_
      rintro e w2 ⟨rfl, hb2⟩
      have hs2 := hb2.size
      have hb2' := hb1'.trans (hb2.mono (by omega))
      have c0 := (hb2.cell (p := ⟨w.heap.size, 0, none⟩) (show w.heap.size < _ by omega)).trans c0
      have c1 := (hb2.cell (p := ⟨w.heap.size, 1, none⟩) (show w.heap.size < _ by omega)).trans c1
      have d0 := (hb2.cell (p := ⟨w.heap.size + 1, 0, none⟩) (show w.heap.size + 1 < _ by omega)).trans d0
      have d1 := (hb2.cell (p := ⟨w.heap.size + 1, 1, none⟩) (show w.heap.size + 1 < _ by omega)).trans d1
      clear HB
      have he : Hid (dec (x = y) = r) := by
        rw [Hid, Bool.eq_iff_iff, dec_iff, HR.out]
        simp
      generalize dec (x = y) = q at *
      go_wp2_with fail
      refine (HS.out _ hb2').mono ?_
      rintro e w3 ⟨rfl, hb3⟩
      go_wp2_with fail
      go_ret
      exact ⟨ret_bool he.out, hb2'.trans (hb3.mono (by omega))⟩

set_option maxHeartbeats 1000000 in
set_option maxRecDepth 100000 in
theorem implSameMachine_any (n₀ : Nat) (v v' : Value) (x y : PMach) (w : World) (h : MachVal n₀ w v x) (h' : MachVal n₀ w v' y) (hn : n₀ ≤ w.heap.size) (hl : SmallMach x) (hl' : SmallMach y) (r : Bool) (hr : r = true ↔ MachP x ∧ MachP y ∧ x = y) :
    Calls Try.prog 22 #[v, v'] w fun e w' => e = .returned (.bool r) ∧ Below w.heap.size w w' := by
  have HD := hide h
  have HD' := hide h'
  obtain ⟨a, cap, af, capf, rfl, -, hk, hf⟩ := h.form
  obtain ⟨a', cap', af', capf', rfl, -, hk', hf'⟩ := h'.form
  have hW := ((Below.refl w.heap.size w).alloc (Nat.le_refl _) (.cells #[.slice a x.next.length cap, .slice af x.final.length capf] 28)).alloc (by simp) (.cells #[.slice a' y.next.length cap', .slice af' y.final.length capf'] 28)
  obtain ⟨ra, hra⟩ : ∃ r : Bool, r = true ↔ MachP x := ⟨dec _, dec_iff _⟩
  obtain ⟨rb, hrb⟩ : ∃ r : Bool, r = true ↔ MachP y := ⟨dec _, dec_iff _⟩
  have HA := hide (implMachineOK_any n₀ _ x _ (HD.out.below (Nat.le_refl _) (hW.mono hn)) (by simp; omega) hl ra hra)
  have HB : Hid (∀ wx, Below w.heap.size w wx → Calls Try.prog 10 #[.agg #[.slice a' y.next.length cap', .slice af' y.final.length capf']] wx fun e w' => e = .returned (.bool rb) ∧ Below wx.heap.size wx w') := fun wx hb =>
    implMachineOK_any n₀ _ y wx (HD'.out.below (Nat.le_refl _) (hb.mono hn)) (by have := hb.size; omega) hl' rb hrb
  rw [← hra, ← hrb] at hr
  have HR := hide hr
  obtain ⟨rn, hrn⟩ : ∃ r : Bool, r = true ↔ x.next = y.next := ⟨dec _, dec_iff _⟩
  obtain ⟨rf, hrf⟩ : ∃ r : Bool, r = true ↔ x.final = y.final := ⟨dec _, dec_iff _⟩
  have HS : Hid (∀ wx, Below w.heap.size w wx → Calls Try.prog 40 #[.slice a x.next.length cap, .slice a' y.next.length cap', .func (.func 41) #[] #[]] wx fun e w' => e = .returned (.bool rn) ∧ Below wx.heap.size wx w') := fun wx hb =>
    equalRows_any n₀ _ _ x.next y.next wx (hk.below (Nat.le_refl _) (hb.mono hn)) (hk'.below (Nat.le_refl _) (hb.mono hn)) (by have := hb.size; omega) hl.next hl.rows hl'.rows rn hrn
  have HF : Hid (∀ wx, Below w.heap.size w wx → Calls Try.prog 42 #[.slice af x.final.length capf, .slice af' y.final.length capf'] wx fun e w' => e = .returned (.bool rf) ∧ Below wx.heap.size wx w') := fun wx hb =>
    equalBools_any n₀ _ _ x.final y.final wx (hf.below (Nat.le_refl _) (hb.mono hn)) (hf'.below (Nat.le_refl _) (hb.mono hn)) hl.final hl'.final rf hrf
  have HE : Hid (x = y ↔ rn = true ∧ rf = true) := by rw [Hid, mach_eq_iff, hrn, hrf]
  clear hr hra hrb h h' hk hk' hf hf' hl hl' hrn hrf
  cases ra with
  | false =>
    have hff : Hid (r = false) := no_true HR.out fun e => by cases e.1
    go_enter Try.func22, Try.ntmps22
    go_wp2_with fail
    refine HA.out.mono ?_
    rintro e w1 ⟨rfl, hb1⟩
    go_wp2_with fail
    go_ret
    exact ⟨ret_bool hff.out.symm, hW.trans (hb1.mono (by simp; omega))⟩
  | true =>
    go_enter Try.func22, Try.ntmps22
    go_wp2_with fail
    refine HA.out.mono ?_
    rintro e w1 ⟨rfl, hb1⟩
    simp only [World.size_alloc] at hb1
    have hs1 := hb1.size
    simp only [World.size_alloc] at hs1
    have hb1' := hW.trans (hb1.mono (by omega))
    have c0 : w1.cell? ⟨w.heap.size, 0, none⟩ = some (.slice a x.next.length cap) := by rw [hb1.cell (p := ⟨w.heap.size, 0, none⟩) (by simp; omega)]; simp
    have c1 : w1.cell? ⟨w.heap.size, 1, none⟩ = some (.slice af x.final.length capf) := by rw [hb1.cell (p := ⟨w.heap.size, 1, none⟩) (by simp; omega)]; simp
    have d0 : w1.cell? ⟨w.heap.size + 1, 0, none⟩ = some (.slice a' y.next.length cap') := by rw [hb1.cell (p := ⟨w.heap.size + 1, 0, none⟩) (by simp)]; simp
    have d1 : w1.cell? ⟨w.heap.size + 1, 1, none⟩ = some (.slice af' y.final.length capf') := by rw [hb1.cell (p := ⟨w.heap.size + 1, 1, none⟩) (by simp)]; simp
    clear HA
    cases rb with
    | false =>
      have hff : Hid (r = false) := no_true HR.out fun e => by cases e.2.1
      go_wp2_with fail
      refine (HB.out _ hb1').mono ?_
      rintro e w2 ⟨rfl, hb2⟩
      go_wp2_with fail
      go_ret
      exact ⟨ret_bool hff.out.symm, hb1'.trans (hb2.mono (by omega))⟩
    | true =>
      go_wp2_with fail
      refine (HB.out _ hb1').mono ?_
      rintro e w2 ⟨rfl, hb2⟩
      have hs2 := hb2.size
      have hb2' := hb1'.trans (hb2.mono (by omega))
      have c0 := (hb2.cell (p := ⟨w.heap.size, 0, none⟩) (show w.heap.size < _ by omega)).trans c0
      have c1 := (hb2.cell (p := ⟨w.heap.size, 1, none⟩) (show w.heap.size < _ by omega)).trans c1
      have d0 := (hb2.cell (p := ⟨w.heap.size + 1, 0, none⟩) (show w.heap.size + 1 < _ by omega)).trans d0
      have d1 := (hb2.cell (p := ⟨w.heap.size + 1, 1, none⟩) (show w.heap.size + 1 < _ by omega)).trans d1
      clear HB
      cases rn with
      | false =>
        have hff : Hid (r = false) := no_true HR.out fun e => by cases (HE.out.1 e.2.2).1
        go_wp2_with fail
        refine (HS.out _ hb2').mono ?_
        rintro e w3 ⟨rfl, hb3⟩
        go_wp2_with fail
        go_ret
        exact ⟨ret_bool hff.out.symm, hb2'.trans (hb3.mono (by omega))⟩
      | true =>
        have he : Hid (rf = r) := by
          rw [Hid, Bool.eq_iff_iff, HR.out, HE.out]
          simp
        go_wp2_with fail
        refine (HS.out _ hb2').mono ?_
        rintro e w3 ⟨rfl, hb3⟩
        have hs3 := hb3.size
        have hb3' := hb2'.trans (hb3.mono (by omega))
        have c1 := (hb3.cell (p := ⟨w.heap.size, 1, none⟩) (show w.heap.size < _ by omega)).trans c1
        have d1 := (hb3.cell (p := ⟨w.heap.size + 1, 1, none⟩) (show w.heap.size + 1 < _ by omega)).trans d1
        clear HS
        go_wp2_with fail
        refine (HF.out _ hb3').mono ?_
        rintro e w4 ⟨rfl, hb4⟩
        go_wp2_with fail
        go_ret
        exact ⟨ret_bool he.out, hb3'.trans (hb4.mono (by omega))⟩
end Go.Proofs.Ytlbfjmfjakhmdaa
