/-
  The law on MachineOK answers true at every machine that a program can hold.
-/
import Derived.Test.YtlbfjmfjakhmdaaMachSpec
import Derived.Deep.RegionWith
namespace Go.Proofs.Ytlbfjmfjakhmdaa
open Go.RowKit

theorem toMachOwn_any (n₀ : Nat) (v : Value) (x : PMach) (w : World) (h : MachVal n₀ w v x) (hn : n₀ ≤ w.heap.size) (hl : SmallMach x) :
    Calls Try.prog 9 #[v] w fun e w' => ∃ u, e = .returned u ∧ MachOwn w.heap.size w'.heap.size w' u x ∧ Below w.heap.size w w' :=
  (toMach_any n₀ v x w h hn hl).mono fun _ _ ⟨_, he, ho, hb, _⟩ => ⟨_, he, ho, hb⟩

set_option maxHeartbeats 1000000 in
set_option maxRecDepth 100000 in
theorem machineOKLaw (n₀ : Nat) (v : Value) (x : PMach) (w : World) (h : MachVal n₀ w v x) (hn : n₀ ≤ w.heap.size) (hf : FitsMach x) :
    Calls Try.prog 3 #[v] w fun e w' => e = .returned (.bool true) ∧ Below w.heap.size w w' := by
  have hD := h
  obtain ⟨a, cap, af, capf, rfl, -, -, -⟩ := h.form
  have hW := (Below.refl w.heap.size w).alloc (Nat.le_refl _) (.cells #[.slice a x.next.length cap, .slice af x.final.length capf] 25)
  have HSz := hide (szMach_any n₀ _ x 1048576 (w.alloc (.cells #[.slice a x.next.length cap, .slice af x.final.length capf] 25)) (hD.below (Nat.le_refl _) (hW.mono hn)) (by simp; omega) (by omega) (by omega) hf)
  have HD := hide hD
  clear hf h hD
  obtain ⟨r, hr⟩ : ∃ r : Bool, r = true ↔ MachP x := ⟨dec _, dec_iff _⟩
  have HR := hide hr
  clear hr
  go_enter Try.func3, Try.ntmps3
  go_wp2_with fail
  refine HSz.out.mono ?_
  rintro e w1 ⟨q, rfl, hq1, hq2, hq3, hb1⟩
  simp only [World.size_alloc] at hb1
  have hs1 := hb1.size
  simp only [World.size_alloc] at hs1
  by_cases hq : q < 0
  · clear hq3
    go_wp2_with fail
    go_ret
    exact ⟨rfl, hW.trans (hb1.mono (by omega))⟩
  · have HS := hide (hq3 (by omega))
    clear hq3
    have hb1' := hW.trans (hb1.mono (by omega))
    have HTo : Hid (∀ wx, Below w.heap.size w wx → Calls Try.prog 9 #[.agg #[.slice a x.next.length cap, .slice af x.final.length capf]] wx fun e w' => ∃ u, e = .returned u ∧ MachOwn wx.heap.size w'.heap.size w' u x ∧ Below wx.heap.size wx w') := fun wx hb =>
      toMachOwn_any n₀ _ x wx (HD.out.below (Nat.le_refl _) (hb.mono hn)) (by have := hb.size; omega) HS.out
    obtain ⟨hcx, hfx⟩ := bcell (W := w.alloc _) (by simpa using hb1)
    go_wp2_with fail
    refine (HTo.out _ hb1').mono ?_
    rintro e w2 ⟨u2, rfl, ho2, hb2⟩
    have hs2 := hb2.size
    obtain ⟨a2, c2, b2, d2, rfl, hn2, -, -⟩ := ho2.at.form
    have HSp := hide (specMachineOK_any w2.heap.size _ x w2 hn2 (Nat.le_refl _) HS.out r HR.out)
    clear hn2 ho2
    go_wp2_with fail
    refine HSp.out.mono ?_
    rintro e w3 ⟨rfl, hb3⟩
    have hs3 := hb3.size
    have hb3' := hb1.trans ((hb2.mono hs1).trans (hb3.mono (by omega)))
    clear hcx hfx
    obtain ⟨hcx, hfx⟩ := bcell (W := w.alloc _) (by simpa using hb3')
    go_wp2_with fail
    refine (HTo.out _ (hW.trans (hb3'.mono (by omega)))).mono ?_
    rintro e w4 ⟨u4, rfl, ho4, hb4⟩
    have hs4 := hb4.size
    have hb4' := hb3'.trans (hb4.mono (by omega))
    have ho4' := ho4.at
    obtain ⟨a4, c4, b4, d4, rfl, hn4, -, -⟩ := ho4'.form
    clear hcx hfx ho4
    obtain ⟨hcx, hfx⟩ := bcell (W := w.alloc _) (by simpa using hb4')
    have hW5 := (Below.refl w4.heap.size w4).alloc (Nat.le_refl _) (.cells #[.slice a4 x.next.length c4, .slice b4 x.final.length d4] 28)
    have HIm := hide (implMachineOK_any w4.heap.size _ x (w4.alloc (.cells #[.slice a4 x.next.length c4, .slice b4 x.final.length d4] 28)) (hn4.below (Nat.le_refl _) hW5) (by simp) HS.out r HR.out)
    go_wp2_with fail
    refine HIm.out.mono ?_
    rintro e w5 ⟨rfl, hb5⟩
    have hb5 : Below (w4.heap.size + 1) (w4.alloc (.cells #[.slice a4 x.next.length c4, .slice b4 x.final.length d4] 28)) w5 := by simpa using hb5
    have hs5 := hb5.size
    simp only [World.size_alloc] at hs5
    obtain ⟨hcy, hfy⟩ := bcell (W := w4.alloc _) (by simpa using hb5)
    have hlw : w.heap.size < w4.heap.size := by omega
    have h45 : w4.heap.size < w5.heap.size := by omega
    have h05 : w.heap.size < w5.heap.size := by omega
    have hb5' : Below w.heap.size w w5 := (hW.trans (hb4'.mono (by omega))).trans ((hW5.trans (hb5.mono (by omega))).mono (by omega))
    have HX0 : Hid (MachVal w4.heap.size w5 (.agg #[.slice a4 x.next.length c4, .slice b4 x.final.length d4]) x) := hn4.below (Nat.le_refl _) (hW5.trans (hb5.mono (by omega)))
    have x0 : w5.cell? ⟨w4.heap.size, 0, none⟩ = some (.slice a4 x.next.length c4) := by rw [hcy _ _ (by simp)]; simp
    have x1 : w5.cell? ⟨w4.heap.size, 1, none⟩ = some (.slice b4 x.final.length d4) := by rw [hcy _ _ (by simp)]; simp
    have y0 : w5.cell? ⟨w.heap.size, 0, none⟩ = some (.slice a x.next.length cap) := by rw [hcy _ _ (by simp; omega), World.cell?_alloc_lt _ _ _ (by exact hlw), hcx _ _ (by simp)]; simp
    have y1 : w5.cell? ⟨w.heap.size, 1, none⟩ = some (.slice af x.final.length capf) := by rw [hcy _ _ (by simp; omega), World.cell?_alloc_lt _ _ _ (by exact hlw), hcx _ _ (by simp)]; simp
    clear HSp HIm hn4 ho4' hcx hfx hcy hfy
    go_wp2_with fail
    go_cut [26] (fun v26 wc => v26 = .bool false ∧ Below w.heap.size w wc)
    case first =>
      go_region_with (first
        | (go_at_call 9; refine (HTo.out _ hb5'.drew).mono ?_; rintro e w6 ⟨u6, rfl, ho6, hb6⟩; have hs6 := hb6.size; have z0 := (hb6.cell (p := ⟨w4.heap.size, 0, none⟩) h45).trans x0; have z1 := (hb6.cell (p := ⟨w4.heap.size, 1, none⟩) h45).trans x1; have hd6 := ho6.at; obtain ⟨a6, c6, b6, d6, rfl, hn6, -, -⟩ := hd6.form; clear hn6 ho6)
        | (go_at_call 11; refine (eqMach_any w6.heap.size _ _ x _ (HX0.out.below (by simp at hs6; omega) ((((Below.refl _ _).drew).trans hb6).mono (by simp; omega))) hd6 (Nat.le_refl _) HS.out).mono ?_; rintro e w7 ⟨rfl, hb7⟩))
      all_goals
        go_wp2_with fail
        go_meet
        exact ⟨rfl, hb5'.trans ((((Below.refl _ _).drew).trans (hb6.trans (hb7.mono (by simp at hs6 ⊢; omega)))).mono (by simp; omega))⟩
    case rest =>
      obtain ⟨rfl, hbc⟩ := hcut
      go_wp2_with fail
      go_ret
      exact ⟨rfl, hbc⟩
end Go.Proofs.Ytlbfjmfjakhmdaa
