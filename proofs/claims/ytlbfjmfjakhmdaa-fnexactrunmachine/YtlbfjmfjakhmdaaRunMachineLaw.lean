/-
  The law on RunMachine answers true at every machine and list of kids that a program can hold.
-/
import Derived.Test.YtlbfjmfjakhmdaaMachRun
import Derived.Test.YtlbfjmfjakhmdaaMachineOKLaw
namespace Go.Proofs.Ytlbfjmfjakhmdaa
open Go.RowKit

set_option maxHeartbeats 2000000 in
set_option maxRecDepth 100000 in
theorem runMachineLaw (n₀ : Nat) (v kv : Value) (x : PMach) (ks : List Int) (w : World) (h : MachVal n₀ w v x) (hk : IntsAt n₀ w kv ks) (hn : n₀ ≤ w.heap.size) (hf : FitsMach x) (hkf : ks.length ≤ 9223372036854775807) :
    Calls Try.prog 4 #[v, kv] w fun e w' => e = .returned (.bool true) ∧ Below w.heap.size w w' := by
  have hD := h
  have HKD := hide hk
  obtain ⟨a, cap, af, capf, rfl, -, -, -⟩ := h.form
  obtain ⟨ak, ck, rfl, -⟩ := hk
  have hW := (Below.refl w.heap.size w).alloc (Nat.le_refl _) (.cells #[.slice a x.next.length cap, .slice af x.final.length capf] 25)
  have HSz := hide (szMach_any n₀ _ x 1048576 (w.alloc (.cells #[.slice a x.next.length cap, .slice af x.final.length capf] 25)) (hD.below (Nat.le_refl _) (hW.mono hn)) (by simp; omega) (by omega) (by omega) hf)
  have HD := hide hD
  clear hf h hD
  obtain ⟨r, hr⟩ : ∃ r : Bool, r = true ↔ MachP x := ⟨dec _, dec_iff _⟩
  have HR := hide hr
  obtain ⟨p, hp⟩ : ∃ p, p = runAns r ks.length (runP x 0 ks) := ⟨_, rfl⟩
  have HP := hide hp
  clear hr hp
  by_cases hbig : 1048576 < ks.length
  · go_enter Try.func4, Try.ntmps4
    go_wp2_with fail
    go_ret
    exact ⟨rfl, hW⟩
  go_enter Try.func4, Try.ntmps4
  go_wp2_with fail
  refine HSz.out.mono ?_
  rintro e w1 ⟨q, rfl, hq1, hq2, hq3, hb1⟩
  simp only [World.size_alloc] at hb1
  have hs1 := hb1.size
  simp only [World.size_alloc] at hs1
  by_cases hq : q < 0
  · clear hq3
    go_wp2_with fail
    go_ret
    exact ⟨rfl, hW.trans (hb1.mono (by omega))⟩
  · have HS := hide (hq3 (by omega))
    clear hq3
    have hb1' := hW.trans (hb1.mono (by omega))
    have HTo : Hid (∀ wx, Below w.heap.size w wx → Calls Try.prog 9 #[.agg #[.slice a x.next.length cap, .slice af x.final.length capf]] wx fun e w' => ∃ u, e = .returned u ∧ MachOwn wx.heap.size w'.heap.size w' u x ∧ Below wx.heap.size wx w') := fun wx hb =>
      toMachOwn_any n₀ _ x wx (HD.out.below (Nat.le_refl _) (hb.mono hn)) (by have := hb.size; omega) HS.out
    have HToK : Hid (∀ wx, Below w.heap.size w wx → Calls Try.prog 13 #[.slice ak ks.length ck] wx fun e w' => ∃ u, e = .returned u ∧ IntsOwn wx.heap.size w'.heap.size w' u ks ∧ Below wx.heap.size wx w' ∧ wx.heap.size < w'.heap.size) := fun wx hb =>
      toInts_any n₀ _ ks wx (HKD.out.below (Nat.le_refl _) (hb.mono hn)) (by have := hb.size; omega) (by omega)
    obtain ⟨hcx, hfx⟩ := bcell (W := w.alloc _) (by simpa using hb1)
    go_wp2_with fail
    refine (HTo.out _ hb1').mono ?_
    rintro e w2 ⟨u2, rfl, ho2, hb2⟩
    have hs2 := hb2.size
    have hb2' := hb1'.trans (hb2.mono (by omega))
    obtain ⟨a2, c2, b2, d2, rfl, hn2, -, -⟩ := ho2.at.form
    have HN2 := hide hn2
    clear hn2 ho2
    go_wp2_with fail
    refine (HToK.out _ hb2').mono ?_
    rintro e w3 ⟨u3, rfl, ho3, hb3, -⟩
    have hs3 := hb3.size
    have hb3' := hb2'.trans (hb3.mono (by omega))
    have HSp := hide (specRunMachine_any w3.heap.size _ _ x ks w3 (HN2.out.below hs3 hb3) ho3.at (Nat.le_refl _) HS.out (by omega) r HR.out p HP.out)
    obtain ⟨a3, c3, rfl, -⟩ := ho3.at.form
    clear ho3 HN2
    go_wp2_with fail
    refine HSp.out.mono ?_
    rintro e w4 ⟨rfl, hb4⟩
    have hs4 := hb4.size
    have hb4' := hb3'.trans (hb4.mono (by omega))
    have hbA := hb1.trans ((hb2.mono hs1).trans ((hb3.mono (by omega)).trans (hb4.mono (by omega))))
    clear hcx hfx HSp
    obtain ⟨hcx, hfx⟩ := bcell (W := w.alloc _) (by simpa using hbA)
    go_wp2_with fail
    refine (HTo.out _ hb4').mono ?_
    rintro e w5 ⟨u5, rfl, ho5, hb5⟩
    have hs5 := hb5.size
    have hb5' := hb4'.trans (hb5.mono (by omega))
    have hbA5 := hbA.trans (hb5.mono (by omega))
    have ho5' := ho5.at
    obtain ⟨a5, c5, b5, d5, rfl, hn5, -, -⟩ := ho5'.form
    clear hcx hfx ho5 ho5'
    obtain ⟨hcx, hfx⟩ := bcell (W := w.alloc _) (by simpa using hbA5)
    have hW6 := (Below.refl w5.heap.size w5).alloc (Nat.le_refl _) (.cells #[.slice a5 x.next.length c5, .slice b5 x.final.length d5] 28)
    have HN6 := hide (hn5.below (Nat.le_refl _) hW6)
    have hb6' := hb5'.trans (hW6.mono (by omega))
    clear hn5
    go_wp2_with fail
    refine (HToK.out _ hb6').mono ?_
    rintro e w7 ⟨u7, rfl, ho7, hb7, -⟩
    simp only [World.size_alloc] at hb7 ho7
    have hs7 := hb7.size
    simp only [World.size_alloc] at hs7
    have hb7' := hb6'.trans (hb7.mono (by omega))
    have HIm := hide (implRun_any w7.heap.size _ _ x ks w7 (HN6.out.below (by omega) (hb7.mono (by omega))) ho7.at (Nat.le_refl _) HS.out (by omega) r HR.out p HP.out)
    have HK7 := hide ho7.at
    obtain ⟨a7, c7, rfl, -⟩ := ho7.at.form
    clear ho7
    obtain ⟨hcy, hfy⟩ := bcell (W := w5.alloc _) (by simpa using hb7)
    go_wp2_with fail
    refine HIm.out.mono ?_
    rintro e w8 ⟨rfl, hb8⟩
    have hs8 := hb8.size
    have hb8' := hb7'.trans (hb8.mono (by omega))
    have hb78 := hb7.trans (hb8.mono (by omega))
    clear hcy hfy HIm
    obtain ⟨hcy, hfy⟩ := bcell (W := w5.alloc _) (by simpa using hb78)
    have hlw : w.heap.size < w5.heap.size := by omega
    have h45 : w5.heap.size < w8.heap.size := by omega
    have h05 : w.heap.size < w8.heap.size := by omega
    have HX0 : Hid (MachVal w5.heap.size w8 (.agg #[.slice a5 x.next.length c5, .slice b5 x.final.length d5]) x) := HN6.out.below (Nat.le_refl _) (hb78.mono (by omega))
    have x0 : w8.cell? ⟨w5.heap.size, 0, none⟩ = some (.slice a5 x.next.length c5) := by rw [hcy _ _ (by simp)]; simp
    have x1 : w8.cell? ⟨w5.heap.size, 1, none⟩ = some (.slice b5 x.final.length d5) := by rw [hcy _ _ (by simp)]; simp
    have y0 : w8.cell? ⟨w.heap.size, 0, none⟩ = some (.slice a x.next.length cap) := by rw [hcy _ _ (by simp; omega), World.cell?_alloc_lt _ _ _ (by exact hlw), hcx _ _ (by simp)]; simp
    have y1 : w8.cell? ⟨w.heap.size, 1, none⟩ = some (.slice af x.final.length capf) := by rw [hcy _ _ (by simp; omega), World.cell?_alloc_lt _ _ _ (by exact hlw), hcx _ _ (by simp)]; simp
    have HK8 := hide (HK7.out.below hs8 hb8)
    have e1 : (p.1 != p.1) = false := by simp
    have e2 : (p.2 != p.2) = false := by simp
    clear HN6 hcx hfx hcy hfy HK7
    go_wp2_with fail
    go_cut [50] (fun v50 wc => v50 = .bool false ∧ Below w8.heap.size w8 wc)
    case first =>
      go_region_with (first
        | (go_at_call 9; refine (HTo.out _ hb8'.drew).mono ?_; rintro e w9 ⟨u9, rfl, ho9, hb9⟩; have hs9 := hb9.size; have z0 := (hb9.cell (p := ⟨w5.heap.size, 0, none⟩) h45).trans x0; have z1 := (hb9.cell (p := ⟨w5.heap.size, 1, none⟩) h45).trans x1; have hd9 := ho9.at; obtain ⟨a9, c9, b9, d9, rfl, hn9, -, -⟩ := hd9.form; clear hn9 ho9)
        | (go_at_call 11; refine (eqMach_any w9.heap.size _ _ x _ (HX0.out.below (by simp at hs9; omega) ((((Below.refl _ _).drew).trans hb9).mono (by simp; omega))) hd9 (Nat.le_refl _) HS.out).mono ?_; rintro e w10 ⟨rfl, hb10⟩))
      all_goals
        go_wp2_with fail
        go_meet
        exact ⟨rfl, ((Below.refl _ _).drew).trans (hb9.trans (hb10.mono (by simp at hs9 ⊢; omega)))⟩
    case rest =>
      obtain ⟨rfl, hbc⟩ := hcut
      have hbc' := hb8'.trans (hbc.mono (by omega))
      have hsc := hbc.size
      go_wp2_with fail
      refine (HToK.out _ hbc').mono ?_
      rintro e w11 ⟨u11, rfl, ho11, hb11, -⟩
      have hs11 := hb11.size
      have hb11' := hbc'.trans (hb11.mono (by omega))
      have hn11 := ho11.at
      have HEq := hide (eqInts_any w11.heap.size _ _ ks w11 (HK8.out.below (by omega) (hbc.trans (hb11.mono (by omega)))) hn11 (by omega))
      obtain ⟨a11, c11, rfl, -⟩ := hn11.form
      clear hn11 ho11
      go_wp2_with fail
      refine HEq.out.mono ?_
      rintro e w12 ⟨rfl, hb12⟩
      go_wp2_with fail
      go_ret
      exact ⟨rfl, hb11'.trans (hb12.mono (by omega))⟩
end Go.Proofs.Ytlbfjmfjakhmdaa
