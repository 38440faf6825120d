/-
  The law answers true at every document and number that a program can hold.
-/
import Derived.Test.YtpmilcddoohlgaaKidsTop
import Derived.Test.YtpmilcddoohlgaaListIn
import Derived.Deep.RegionWith
namespace Go.Proofs.Ytpmilcddoohlgaa
open Go.RowKit

set_option maxHeartbeats 4000000 in
set_option maxRecDepth 100000 in
theorem kidsOfLaw (n₀ : Nat) (v : Value) (d : PDoc) (id : Int) (w : World) (h : DocAt n₀ w v d) (hn : n₀ ≤ w.heap.size) (hf : Fits d) (hwf : WfDoc d) :
    Calls Try.prog 3 #[v, .int .i64 id] w fun e w' => e = .returned (.bool true) ∧ Below w.heap.size w w' := by
  have hD := h
  obtain ⟨a, cap, rfl, hN⟩ := h.form
  have HWf := hide hwf
  have hW := (Below.refl w.heap.size w).alloc (Nat.le_refl _) (.cells #[.int .i64 d.root, .int .i64 d.next, .slice a d.nodes.length cap] 24)
  have HSz := hide (szDoc_any n₀ _ d 1048576 (w.alloc (.cells #[.int .i64 d.root, .int .i64 d.next, .slice a d.nodes.length cap] 24)) (hD.below (Nat.le_refl _) (hW.mono hn)) (by simp; omega) (by omega) (by omega) hf)
  have HD := hide hD
  clear hf hwf hN h hD
  obtain ⟨c, hc⟩ : ∃ c, c = askOf d id := ⟨_, rfl⟩
  obtain ⟨ks, hks⟩ : ∃ ks, ks = kidsAns d id := ⟨_, rfl⟩
  have hkl : ks.length ≤ 1048576 := by rw [hks]; exact kidsAns_len d id
  have HC := hide hc
  have HKS := hide hks
  clear hc hks
  go_enter Try.func3, Try.ntmps3
  go_wp2_with fail
  refine HSz.out.mono ?_
  rintro e w1 ⟨q, rfl, hq1, hq2, hq3, hb1⟩
  simp only [World.size_alloc] at hb1
  have hs1 := hb1.size
  simp only [World.size_alloc] at hs1
  by_cases hq : q < 0
  · clear hq3
    go_wp2_with fail
    go_ret
    exact ⟨rfl, hW.trans (hb1.mono (by omega))⟩
  have HS := hide (hq3 (by omega))
  clear hq3 HSz
  have HTo : Hid (∀ wx, Below w.heap.size w wx → Calls Try.prog 6 #[.agg #[.int .i64 d.root, .int .i64 d.next, .slice a d.nodes.length cap]] wx fun e w' => ∃ u, e = .returned u ∧ DocOwn wx.heap.size w'.heap.size w' u d ∧ Below wx.heap.size wx w') := fun wx hb =>
    toDoc_any n₀ _ d wx (HD.out.below (Nat.le_refl _) (hb.mono hn)) (by have := hb.size; omega) HS.out
  obtain ⟨x0, x1, x2⟩ := box_doc' hb1
  have hz1 : w.heap.size < w1.heap.size := by omega
  go_wp2_with fail
  refine (HTo.out _ (hW.trans (hb1.mono (by omega)))).mono ?_
  rintro e w2 ⟨u2, rfl, ho2, hb2⟩
  have hs2 := hb2.size
  have hB2 := hb1.trans (hb2.mono (by omega))
  obtain ⟨a2, c2, rfl, hn2⟩ := ho2.at.form
  have HSp := hide (specKidsOf_any w2.heap.size d _ id w2 hn2 (Nat.le_refl _) HS.out.len HS.out.kids c ks HC.out HKS.out)
  clear hn2 ho2 x0 x1 x2 hz1
  go_wp2_with fail
  refine HSp.out.mono ?_
  rintro e w3 ⟨v3, rfl, hr3, hb3⟩
  have hs3 := hb3.size
  have hB3 := hB2.trans (hb3.mono (by omega))
  have HL3 : Hid (ListIn w2.heap.size w3.heap.size w3 v3 ks) := ListIn.of_row hr3
  obtain ⟨a3, c3, rfl⟩ := row_shape hr3
  obtain ⟨x0, x1, x2⟩ := box_doc' hB3
  have hz1 : w.heap.size < w3.heap.size := by omega
  clear hr3 HSp
  go_wp2_with fail
  refine (HTo.out _ (hW.trans (hB3.mono (by omega)))).mono ?_
  rintro e w4 ⟨u4, rfl, ho4, hb4⟩
  have hs4 := hb4.size
  have hB4 := hB3.trans (hb4.mono (by omega))
  have HO4 := hide ho4
  obtain ⟨a4, c4, rfl, hn4⟩ := ho4.at.form
  clear ho4 x0 x1 x2 hz1
  have hW5 := (Below.refl w4.heap.size w4).alloc (Nat.le_refl _) (.cells #[.int .i64 d.root, .int .i64 d.next, .slice a4 d.nodes.length c4] 31)
  have HIm := hide (implKidsOf_any w4.heap.size d _ id (w4.alloc (.cells #[.int .i64 d.root, .int .i64 d.next, .slice a4 d.nodes.length c4] 31)) (hn4.below (Nat.le_refl _) hW5) (by simp) HS.out.len HWf.out c ks HC.out HKS.out)
  go_wp2_with fail
  refine HIm.out.mono ?_
  rintro e w5 ⟨v5, rfl, hr5, hb5⟩
  have hb5 : Below (w4.heap.size + 1) (w4.alloc (.cells #[.int .i64 d.root, .int .i64 d.next, .slice a4 d.nodes.length c4] 31)) w5 := by simpa using hb5
  have hs5 := hb5.size
  simp only [World.size_alloc] at hs5 hr5
  have HL5 : Hid (ListIn (w4.heap.size + 1) w5.heap.size w5 v5 ks) := ListIn.of_row hr5
  obtain ⟨a5, c5, rfl⟩ := row_shape hr5
  have h45 : Below w4.heap.size w4 w5 := hW5.trans (hb5.mono (by omega))
  have hB5 := hB4.trans (h45.mono (by omega))
  have HE5 := hide (eqInts_any w5.heap.size _ _ ks w5 HL5.out.at ((HL3.out.below (hb4.trans (h45.mono (by omega)))).at.below (by omega) (Below.refl _ _)) hkl)
  clear hr5 HIm hn4
  go_wp2_with (go_at_call 8; refine HE5.out.mono ?_; rintro e w6 ⟨rfl, hb6⟩)
  have hs6 := hb6.size
  have h46 : Below (w4.heap.size + 1) (w4.alloc (.cells #[.int .i64 d.root, .int .i64 d.next, .slice a4 d.nodes.length c4] 31)) w6 := hb5.trans (hb6.mono (by omega))
  have hB6 := hB5.trans (hb6.mono (by omega))
  have HX0 : Hid (DocOwn w3.heap.size w4.heap.size w6 (.agg #[.int .i64 d.root, .int .i64 d.next, .slice a4 d.nodes.length c4]) d) := HO4.out.below (hW5.trans (h46.mono (by omega)))
  obtain ⟨x0, x1, x2⟩ := box_doc' h46
  obtain ⟨y0, y1, y2⟩ := box_doc' hB6
  have h46s : w4.heap.size < w6.heap.size := by omega
  have h06 : w.heap.size < w6.heap.size := by omega
  have hw6 : Below w.heap.size w w6 := hW.trans (hB6.mono (by omega))
  clear HE5
  go_cut [49] (fun v49 wc => v49 = .bool false ∧ Below w6.heap.size w6 wc)
  case first =>
    go_region_with (first
      | (go_at_call 6; refine (HTo.out _ hw6.drew).mono ?_; rintro e w7 ⟨u7, rfl, ho7, hb7⟩; have hs7 := hb7.size; have z0 := (hb7.cell (p := ⟨w4.heap.size, 0, none⟩) h46s).trans x0; have z1 := (hb7.cell (p := ⟨w4.heap.size, 1, none⟩) h46s).trans x1; have z2 := (hb7.cell (p := ⟨w4.heap.size, 2, none⟩) h46s).trans x2; have hd7 := ho7.at; obtain ⟨a7, c7, rfl, hn7⟩ := hd7.form; clear hn7 ho7)
      | (go_at_call 9; refine (eqDoc_any w7.heap.size _ _ d _ (HX0.out.at.below (by simp at hs7; omega) ((((Below.refl _ _).drew).trans hb7).mono (by simp; omega))) hd7 (Nat.le_refl _) HS.out.len HS.out.kids).mono ?_; rintro e w8 ⟨rfl, hb8⟩))
    all_goals
      go_wp2_with fail
      go_meet
      exact ⟨rfl, (((Below.refl _ _).drew).trans (hb7.trans (hb8.mono (by simp at hs7 ⊢; omega)))).mono (by simp)⟩
  case rest =>
    obtain ⟨rfl, hbc⟩ := hcut
    have hsc := hbc.size
    have h4c := h46.trans (hbc.mono (by omega))
    have hBc := hB6.trans (hbc.mono (by omega))
    have HX1 := hide (HX0.out.below (hbc.mono (by omega)))
    have HL3c : Hid (ListIn w2.heap.size w3.heap.size wc _ ks) := HL3.out.below (hb4.trans ((hW5.mono (by omega)).trans (h4c.mono (by omega))))
    have HL5c : Hid (ListIn (w4.heap.size + 1) w5.heap.size wc _ ks) := HL5.out.below (hb6.trans (hbc.mono (by omega)))
    clear x0 x1 x2 y0 y1 y2 h06 h46s
    obtain ⟨x0, x1, x2⟩ := box_doc' h4c
    have hz4 : w4.heap.size < wc.heap.size := by omega
    have HMk := hide (markDoc_any w3.heap.size w4.heap.size _ d wc HX1.out (by omega) HS.out.len HS.out.kids)
    go_wp2_with fail
    refine HMk.out.mono ?_
    rintro e w9 ⟨rk, rfl, hrk, hwi⟩
    have hs9 := hwi.below.size
    have HL3d : Hid (ListIn w2.heap.size w3.heap.size w9 _ ks) := HL3c.out.below hwi.below
    have HL5d : Hid (ListIn (w4.heap.size + 1) w5.heap.size w9 _ ks) := HL5c.out.heap fun g h1 h2 => hwi.above g (by omega) (by omega)
    have hB9 := hBc.trans (hwi.below.mono (by omega))
    have HE9 := hide (eqInts_any w9.heap.size _ _ ks w9 (HL5d.out.at.below (by omega) (Below.refl _ _)) (HL3d.out.at.below (by omega) (Below.refl _ _)) hkl)
    have hrk1 : decide (rk < 0) = false := by simp; omega
    clear x0 x1 x2 HMk
    go_wp2_with (go_at_call 8; refine HE9.out.mono ?_; rintro e w10 ⟨rfl, hb10⟩)
    have hs10 := hb10.size
    have HL3e : Hid (ListIn w2.heap.size w3.heap.size w10 _ ks) := HL3d.out.below (hb10.mono (by omega))
    have HL5e : Hid (ListIn (w4.heap.size + 1) w5.heap.size w10 _ ks) := HL5d.out.below (hb10.mono (by omega))
    have hB10 := hB9.trans (hb10.mono (by omega))
    obtain ⟨a5', c5', e5, hrow5, hlo5⟩ := HL5e.out.row
    obtain ⟨rfl, -, rfl⟩ : a5 = a5' ∧ ks.length = ks.length ∧ c5 = c5' := by simpa using e5
    have HMi := hide (markInts_any a5 ks.length c5 1 w10 hrow5 hkl (by omega) (by omega))
    clear HE9 e5 hrow5
    refine HMi.out.mono ?_
    rintro e w11 ⟨rfl, hor, hmk⟩
    have h11b := hor.below (w4.heap.size + 1) (fun b hb => (hlo5 b hb).1)
    have h11s := hor.size
    have HL3f : Hid (ListIn w2.heap.size w3.heap.size w11 _ ks) := HL3e.out.below (h11b.mono (by omega))
    have hB11 := hB10.trans (h11b.mono (by omega))
    have HMkA := hide hmk
    have HHe := hide (heldInts_any a5 ks.length c5 1 w11 hmk hkl (by omega) (by omega))
    have hm0 : (0 : Int) ≤ 1 + (ks.length : Int) := by omega
    have hm1 : decide (1 + (ks.length : Int) < 0) = false := by simp; omega
    clear hor hmk HMi hlo5
    go_wp2_with fail
    refine HHe.out.mono ?_
    rintro e w12 ⟨rfl, hw12⟩
    have hw12' := hw12.symm
    subst hw12'
    clear hw12 HHe
    obtain ⟨x0, x1, x2⟩ := box_doc' hB11
    have hz11 : w.heap.size < w11.heap.size := by omega
    have hw11 : Below w.heap.size w w11 := hW.trans (hB11.mono (by omega))
    go_wp2_with fail
    refine (HTo.out _ hw11).mono ?_
    rintro e w13 ⟨u13, rfl, ho13, hb13⟩
    have hs13 := hb13.size
    obtain ⟨a13, c13, rfl, hn13⟩ := ho13.at.form
    have HIm := hide (implKidsOf_any w13.heap.size d _ id w13 hn13 (Nat.le_refl _) HS.out.len HWf.out c ks HC.out HKS.out)
    clear ho13 hn13 x0 x1 x2
    go_wp2_with fail
    refine HIm.out.mono ?_
    rintro e w14 ⟨v14, rfl, hr14, hb14⟩
    have hs14 := hb14.size
    have HL14 : Hid (ListIn w13.heap.size w14.heap.size w14 v14 ks) := ListIn.of_row hr14
    obtain ⟨a14, c14, rfl⟩ := row_shape hr14
    have h1114 : Below w11.heap.size w11 w14 := hb13.trans (hb14.mono (by omega))
    have HE14 := hide (eqInts_any w14.heap.size _ _ ks w14 HL14.out.at ((HL3f.out.below (h1114.mono (by omega))).at.below (by omega) (Below.refl _ _)) hkl)
    clear hr14 HIm
    go_wp2_with (go_at_call 8; refine HE14.out.mono ?_; rintro e w15 ⟨rfl, hb15⟩)
    have h1115 : Below w11.heap.size w11 w15 := h1114.trans (hb15.mono (by omega))
    have HHe := hide (heldInts_any a5 ks.length c5 1 w15 (HMkA.out.below h1115) hkl (by omega) (by omega))
    clear HE14
    refine HHe.out.mono ?_
    rintro e w16 ⟨rfl, hw16⟩
    have hw16' := hw16.symm
    subst hw16'
    clear hw16 HHe
    go_wp2_with fail
    go_ret
    exact ⟨rfl, hw11.trans (h1115.mono (by omega))⟩
end Go.Proofs.Ytpmilcddoohlgaa
