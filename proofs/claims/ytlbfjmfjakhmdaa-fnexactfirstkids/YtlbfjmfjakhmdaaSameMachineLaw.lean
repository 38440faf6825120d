/-
  The law answers true at every two machines that a program can hold.
-/
import Derived.Test.YtlbfjmfjakhmdaaMachSameTop
import Derived.Test.YtlbfjmfjakhmdaaMachineOKLaw
namespace Go.Proofs.Ytlbfjmfjakhmdaa
open Go.RowKit

theorem box_mach {w wc : World} {a0 a1 : Value} {t : TypeId} (hb : Below (w.heap.size + 1) (w.alloc (.cells #[a0, a1] t)) wc) :
    wc.cell? ⟨w.heap.size, 0, none⟩ = some a0 ∧ wc.cell? ⟨w.heap.size, 1, none⟩ = some a1 := by
  obtain ⟨hcx, -⟩ := bcell (W := w.alloc (.cells #[a0, a1] t)) (by simpa using hb)
  refine ⟨?_, ?_⟩
  · rw [hcx _ _ (by simp)]; exact cell_of_heap (alloc_new _ _) 0
  · rw [hcx _ _ (by simp)]; exact cell_of_heap (alloc_new _ _) 1

/-- Two blocks hold the two. -/
structure TwoMach (W : World) (n : Nat) (a0 a1 b0 b1 : Value) : Prop where
  x0 : W.cell? ⟨n, 0, none⟩ = some a0
  x1 : W.cell? ⟨n, 1, none⟩ = some a1
  y0 : W.cell? ⟨n + 1, 0, none⟩ = some b0
  y1 : W.cell? ⟨n + 1, 1, none⟩ = some b1
  lt : n + 1 < W.heap.size

theorem TwoMach.at {W wc : World} {n : Nat} {a0 a1 b0 b1 : Value} (h : TwoMach W n a0 a1 b0 b1) (hb : Below W.heap.size W wc) :
    wc.cell? ⟨n, 0, none⟩ = some a0 ∧ wc.cell? ⟨n, 1, none⟩ = some a1 ∧ wc.cell? ⟨n + 1, 0, none⟩ = some b0 ∧ wc.cell? ⟨n + 1, 1, none⟩ = some b1 := by
  have := h.lt
  exact ⟨(hb.cell (p := ⟨n, 0, none⟩) (show n < _ by omega)).trans h.x0, (hb.cell (p := ⟨n, 1, none⟩) (show n < _ by omega)).trans h.x1, (hb.cell (p := ⟨n + 1, 0, none⟩) this).trans h.y0, (hb.cell (p := ⟨n + 1, 1, none⟩) this).trans h.y1⟩

theorem twoMach_new (w : World) (a0 a1 b0 b1 : Value) (t t' : TypeId) : TwoMach ((w.alloc (.cells #[a0, a1] t)).alloc (.cells #[b0, b1] t')) w.heap.size a0 a1 b0 b1 := by
  have e : (w.alloc (.cells #[a0, a1] t)).heap.size = w.heap.size + 1 := by simp
  have h2 := alloc_new (w.alloc (.cells #[a0, a1] t)) (.cells #[b0, b1] t')
  rw [e] at h2
  have h1 : ((w.alloc (.cells #[a0, a1] t)).alloc (.cells #[b0, b1] t')).heap[w.heap.size]? = some (.cells #[a0, a1] t) := by
    rw [((Below.refl (w.heap.size + 1) (w.alloc (.cells #[a0, a1] t))).alloc (by simp) (.cells #[b0, b1] t')).block _ (by omega)]
    exact alloc_new _ _
  exact ⟨cell_of_heap h1 0, cell_of_heap h1 1, cell_of_heap h2 0, cell_of_heap h2 1, by simp⟩

set_option maxHeartbeats 2000000 in
set_option maxRecDepth 100000 in
theorem sameMachineLaw (n₀ : Nat) (v v' : Value) (d d' : PMach) (w : World) (h : MachVal n₀ w v d) (h' : MachVal n₀ w v' d') (hn : n₀ ≤ w.heap.size) (hf : FitsMach d) (hf' : FitsMach d') :
    Calls Try.prog 6 #[v, v'] w fun e w' => e = .returned (.bool true) ∧ Below w.heap.size w w' := by
  have hD := h
  have hD' := h'
  obtain ⟨a, cap, b, eap, rfl, -, -, -⟩ := h.form
  obtain ⟨a', cap', b', eap', rfl, -, -, -⟩ := h'.form
  have hW2 := ((Below.refl w.heap.size w).alloc (Nat.le_refl _) (.cells #[.slice a d.next.length cap, .slice b d.final.length eap] 25)).alloc (by simp) (.cells #[.slice a' d'.next.length cap', .slice b' d'.final.length eap'] 25)
  have HSz := hide (szMach_any n₀ _ d 1048576 ((w.alloc (.cells #[.slice a d.next.length cap, .slice b d.final.length eap] 25)).alloc (.cells #[.slice a' d'.next.length cap', .slice b' d'.final.length eap'] 25)) (hD.below (Nat.le_refl _) (hW2.mono hn)) (by simp; omega) (by omega) (by omega) hf)
  have HSz' : Hid (∀ wx q, Below w.heap.size w wx → 0 ≤ q → q ≤ 1048576 → Calls Try.prog 7 #[.agg #[.slice a' d'.next.length cap', .slice b' d'.final.length eap'], .int .i64 q] wx fun e w' => ∃ r, e = .returned (.int .i64 r) ∧ -1 ≤ r ∧ r ≤ q ∧ (0 ≤ r → SmallMach d') ∧ Below wx.heap.size wx w') := fun wx q hb h0 h1 =>
    szMach_any n₀ _ d' q wx (hD'.below (Nat.le_refl _) (hb.mono hn)) (by have := hb.size; omega) h0 h1 hf'
  have HD := hide hD
  have HD' := hide hD'
  clear hf hf' h h' hD hD'
  obtain ⟨r, hr⟩ : ∃ r : Bool, r = true ↔ MachP d ∧ MachP d' ∧ d = d' := ⟨dec _, dec_iff _⟩
  have HR := hide hr
  clear hr
  go_enter Try.func6, Try.ntmps6
  go_wp2_with fail
  refine HSz.out.mono ?_
  rintro e w1 ⟨q, rfl, hq1, hq2, hq3, hb1⟩
  have T2 := twoMach_new w (.slice a d.next.length cap) (.slice b d.final.length eap) (.slice a' d'.next.length cap') (.slice b' d'.final.length eap') 25 25
  have h2w := hW2.size
  clear HSz
  generalize ((w.alloc (.cells #[.slice a d.next.length cap, .slice b d.final.length eap] 25)).alloc (.cells #[.slice a' d'.next.length cap', .slice b' d'.final.length eap'] 25)) = W2 at *
  have hs1 := hb1.size
  have hb1' := hW2.trans (hb1.mono (by omega))
  by_cases hq : q < 0
  · clear hq3
    go_wp2_with fail
    go_ret
    exact ⟨rfl, hb1'⟩
  · have HS := hide (hq3 (by omega))
    obtain ⟨x0, x1, y0, y1⟩ := T2.at hb1
    clear hq3
    go_wp2_with fail
    refine (HSz'.out _ q hb1' (by omega) hq2).mono ?_
    rintro e w2 ⟨q', rfl, hq1', hq2', hq3', hb2⟩
    have hs2 := hb2.size
    have hb2' := hb1.trans (hb2.mono hs1)
    by_cases hq' : q' < 0
    · clear hq3'
      go_wp2_with fail
      go_ret
      exact ⟨rfl, hb1'.trans (hb2.mono (by omega))⟩
    · have HS' := hide (hq3' (by omega))
      clear hq3' x0 x1 y0 y1
      obtain ⟨x0, x1, y0, y1⟩ := T2.at hb2'
      have HTo : Hid (∀ wx, Below W2.heap.size W2 wx → Calls Try.prog 9 #[.agg #[.slice a d.next.length cap, .slice b d.final.length eap]] wx fun e w' => ∃ u, e = .returned u ∧ MachOwn wx.heap.size w'.heap.size w' u d ∧ Below wx.heap.size wx w') := fun wx hb =>
        toMachOwn_any n₀ _ d wx (HD.out.below (Nat.le_refl _) ((hW2.trans (hb.mono (by omega))).mono hn)) (by have := hb.size; omega) HS.out
      have HTo' : Hid (∀ wx, Below W2.heap.size W2 wx → Calls Try.prog 9 #[.agg #[.slice a' d'.next.length cap', .slice b' d'.final.length eap']] wx fun e w' => ∃ u, e = .returned u ∧ MachOwn wx.heap.size w'.heap.size w' u d' ∧ Below wx.heap.size wx w') := fun wx hb =>
        toMachOwn_any n₀ _ d' wx (HD'.out.below (Nat.le_refl _) ((hW2.trans (hb.mono (by omega))).mono hn)) (by have := hb.size; omega) HS'.out
      clear HSz'
      go_wp2_with fail
      go_cut [6] (fun v6 wc => v6 = .bool r ∧ Below W2.heap.size W2 wc)
      case first =>
        go_region_with (first
          | (go_at_call 9; with_reducible refine (HTo.out _ hb2'.drew).mono ?_; rintro e wa ⟨ua, rfl, hoa, hba⟩; have hsa := hba.size; have hba' := hb2'.drew.trans (hba.mono (by simp; omega)); obtain ⟨z0, z1, z3, z4⟩ := T2.at hba'; have hda := hoa.at; obtain ⟨aa, ca, ba, ea, rfl, hna, -, -⟩ := hda.form; clear hoa hda)
          | (go_at_call 9; with_reducible refine (HTo'.out _ hb2'.drew).mono ?_; rintro e wb ⟨ub, rfl, hob, hbb⟩; have hsb := hbb.size; have hbb' := hb2'.drew.trans (hbb.mono (by simp; omega)); obtain ⟨z0, z1, z3, z4⟩ := T2.at hbb'; have hdb := hob.at; obtain ⟨ab, cb, bb, eb, rfl, hnb, -, -⟩ := hdb.form; clear hob hdb)
          | (go_at_call 9; with_reducible refine (HTo'.out _ hba').mono ?_; rintro e wc ⟨uc, rfl, hoc, hbc⟩; have hsc := hbc.size; have hbc' := hba'.trans (hbc.mono (by simp at hsa; omega)); have hdc := hoc.at; obtain ⟨ac, cc, bc, ec, rfl, hnc, -, -⟩ := hdc.form; clear hoc hdc)
          | (go_at_call 9; with_reducible refine (HTo.out _ hbb').mono ?_; rintro e wd ⟨ud, rfl, hod, hbd⟩; have hsd := hbd.size; have hbd' := hbb'.trans (hbd.mono (by simp at hsb; omega)); have hdd := hod.at; obtain ⟨ad, cd, bd, ed, rfl, hnd, -, -⟩ := hdd.form; clear hod hdd)
          | (go_at_call 21; with_reducible refine (specSameMachine_any _ _ _ d d' wc (hna.below hsc hbc) hnc (Nat.le_refl _) HS.out HS'.out r HR.out).mono ?_; rintro e we ⟨rfl, hbe⟩; have hbf := hbc'.trans (hbe.mono (by simp at hsa; omega)))
          | (go_at_call 21; with_reducible refine (specSameMachine_any _ _ _ d d' wd hnd (hnb.below hsd hbd) (Nat.le_refl _) HS.out HS'.out r HR.out).mono ?_; rintro e we ⟨rfl, hbe⟩; have hbf := hbd'.trans (hbe.mono (by simp at hsb; omega))))
        all_goals
          go_wp2_with fail
          go_meet
          exact ⟨rfl, hbf⟩
      case rest =>
        obtain ⟨rfl, hbc⟩ := hcut
        have hsc := hbc.size
        clear x0 x1 y0 y1
        obtain ⟨x0, x1, y0, y1⟩ := T2.at hbc
        go_wp2_with fail
        refine (HTo.out _ hbc).mono ?_
        rintro e w4 ⟨u4, rfl, ho4, hb4⟩
        have hs4 := hb4.size
        have hb4' := hbc.trans (hb4.mono hsc)
        have ho4' := ho4.at
        obtain ⟨a4, c4, b4, e4, rfl, hn4, -, -⟩ := ho4'.form
        clear x0 x1 y0 y1 ho4 ho4'
        have hA4 := hb4'.alloc (by omega) (.cells #[.slice a4 d.next.length c4, .slice b4 d.final.length e4] 28)
        obtain ⟨x0, x1, y0, y1⟩ := T2.at hA4
        go_wp2_with fail
        refine (HTo'.out _ hA4).mono ?_
        rintro e w5 ⟨u5, rfl, ho5, hb5⟩
        have hb5 : Below (w4.heap.size + 1) (w4.alloc (.cells #[.slice a4 d.next.length c4, .slice b4 d.final.length e4] 28)) w5 := by simpa using hb5
        have hs5 := hb5.size
        simp only [World.size_alloc] at hs5
        have hb5' := hA4.trans (hb5.mono (by omega))
        have ho5' := ho5.at
        obtain ⟨a5, c5, b5, e5, rfl, hn5, -, -⟩ := ho5'.form
        clear x0 x1 y0 y1 ho5 ho5'
        have hA5 := (Below.refl w5.heap.size w5).alloc (Nat.le_refl _) (.cells #[.slice a5 d'.next.length c5, .slice b5 d'.final.length e5] 28)
        obtain ⟨p0, p1⟩ := box_mach (hb5.trans (hA5.mono (by omega)))
        have h4lt : w4.heap.size < w5.heap.size := by omega
        have HIm := hide (implSameMachine_any w5.heap.size _ _ d d' (w5.alloc (.cells #[.slice a5 d'.next.length c5, .slice b5 d'.final.length e5] 28)) ((hn4.below (Nat.le_refl _) ((Below.refl _ _).alloc (Nat.le_refl _) _)).below (by omega) ((hb5.mono (by omega)).trans (hA5.mono (by omega)))) (hn5.below (Nat.le_refl _) hA5) (by simp) HS.out HS'.out r HR.out)
        go_wp2_with fail
        refine HIm.out.mono ?_
        rintro e w6 ⟨rfl, hb6⟩
        have hb6 : Below (w5.heap.size + 1) (w5.alloc (.cells #[.slice a5 d'.next.length c5, .slice b5 d'.final.length e5] 28)) w6 := by simpa using hb6
        have hs6 := hb6.size
        simp only [World.size_alloc] at hs6
        clear p0 p1
        have hb56 := hA5.trans (hb6.mono (by omega))
        have hb46 := hb5.trans (hb56.mono (by omega))
        have hb6' := hb5'.trans (hb56.mono (by omega))
        have HX0 : Hid (MachVal w5.heap.size w6 (.agg #[.slice a4 d.next.length c4, .slice b4 d.final.length e4]) d) := (hn4.below (Nat.le_refl _) ((Below.refl _ _).alloc (Nat.le_refl _) _)).below (by omega) (hb46.mono (by omega))
        have HX1 : Hid (MachVal w5.heap.size w6 (.agg #[.slice a5 d'.next.length c5, .slice b5 d'.final.length e5]) d') := hn5.below (Nat.le_refl _) hb56
        obtain ⟨p0, p1⟩ := box_mach hb46
        obtain ⟨q0, q1⟩ := box_mach hb6
        obtain ⟨x0, x1, y0, y1⟩ := T2.at hb6'
        have h46 : w4.heap.size < w6.heap.size := by omega
        have h56 : w5.heap.size < w6.heap.size := by omega
        clear HIm hn4 hn5 hA4 hA5 hb5 hb4 hb46 hb56
        go_wp2_with fail
        go_cut [39] (fun v39 wq => v39 = .bool false ∧ Below w6.heap.size w6 wq)
        case first =>
          go_region_with (first
            | (go_at_call 9; refine (HTo.out _ hb6'.drew).mono ?_; rintro e w7 ⟨u7, rfl, ho7, hb7⟩; have hs7 := hb7.size; have z0 := (hb7.cell (p := ⟨w4.heap.size, 0, none⟩) h46).trans p0; have z1 := (hb7.cell (p := ⟨w4.heap.size, 1, none⟩) h46).trans p1; have hd7 := ho7.at; obtain ⟨a7, c7, b7, e7, rfl, hn7, -, -⟩ := hd7.form; clear hn7 ho7)
            | (go_at_call 11; refine (eqMach_any w7.heap.size _ _ d _ (HX0.out.below (by simp at hs7; omega) ((((Below.refl _ _).drew).trans hb7).mono (by simp; omega))) hd7 (Nat.le_refl _) HS.out).mono ?_; rintro e w8 ⟨rfl, hb8⟩))
          all_goals
            go_wp2_with fail
            go_meet
            exact ⟨rfl, (((Below.refl _ _).drew).trans (hb7.trans (hb8.mono (by simp at hs7 ⊢; omega)))).mono (by simp)⟩
        case rest =>
          obtain ⟨rfl, hb9⟩ := hcut
          have hs9 := hb9.size
          have hb9' := hb6'.trans (hb9.mono (by omega))
          have HX1' := hide (HX1.out.below (Nat.le_refl _) (hb9.mono (by omega)))
          clear x0 x1 y0 y1 p0 p1
          obtain ⟨x0, x1, y0, y1⟩ := T2.at hb9'
          have r0 := (hb9.cell (p := ⟨w5.heap.size, 0, none⟩) h56).trans q0
          have r1 := (hb9.cell (p := ⟨w5.heap.size, 1, none⟩) h56).trans q1
          have h59 : w5.heap.size < wc.heap.size := by omega
          clear q0 q1
          go_wp2_with fail
          go_cut [44] (fun v44 wf => v44 = .bool false ∧ Below w.heap.size w wf)
          case first =>
            go_region_with (first
              | (go_at_call 9; refine (HTo'.out _ hb9'.drew).mono ?_; rintro e w7 ⟨u7, rfl, ho7, hb7⟩; have hs7 := hb7.size; have z0 := (hb7.cell (p := ⟨w5.heap.size, 0, none⟩) h59).trans r0; have z1 := (hb7.cell (p := ⟨w5.heap.size, 1, none⟩) h59).trans r1; have hd7 := ho7.at; obtain ⟨a7, c7, b7, e7, rfl, hn7, -, -⟩ := hd7.form; clear hn7 ho7)
              | (go_at_call 11; refine (eqMach_any w7.heap.size _ _ d' _ (HX1'.out.below (by simp at hs7; omega) ((((Below.refl _ _).drew).trans hb7).mono (by simp; omega))) hd7 (Nat.le_refl _) HS'.out).mono ?_; rintro e w8 ⟨rfl, hb8⟩))
            all_goals
              go_wp2_with fail
              go_meet
              exact ⟨rfl, hW2.trans ((hb9'.mono (by omega)).trans ((((Below.refl _ _).drew).trans (hb7.trans (hb8.mono (by simp at hs7 ⊢; omega)))).mono (by simp; omega)))⟩
          case rest =>
            obtain ⟨rfl, hbz⟩ := hcut
            go_wp2_with fail
            go_ret
            exact ⟨rfl, hbz⟩
end Go.Proofs.Ytlbfjmfjakhmdaa
