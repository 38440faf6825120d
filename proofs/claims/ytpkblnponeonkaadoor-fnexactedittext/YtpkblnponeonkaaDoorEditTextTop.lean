/-
  EditText: what the program answers, put together.
-/
import Derived.Test.YtpkblnponeonkaaDoorEditTextImpl
import Derived.Test.YtpkblnponeonkaaDoorEditTextSpec
import Derived.Deep.RegionHeld3
namespace Go.Proofs.YtpkblnponeonkaaDoor
open Go.RowKit

/-- The text of a right edit, as its words. -/
theorem editT_words (x : PEdit) : editT x = bt (spaced (editWs x)) := rfl

theorem editWs_len {x : PEdit} (h : editB x = true) : (spaced (editWs x)).length ≤ 200 := by
  obtain ⟨-, ⟨n0, n1⟩, ⟨a0, a1⟩, ⟨b0, b1⟩, ht⟩ := editB_nums h
  have h1 := edWord_len x.kind.toNat
  have h2 := itoa_len (by omega) n1
  have h3 := itoa_len a0 a1
  have h4 := itoa_len b0 b1
  have hzh : (hexWL x.text).length ≤ 40 := by
    unfold hexWL
    split
    · decide
    · rw [hexL_len]
      have : x.text.data.toList.length = x.text.size := by rw [Array.length_toList]; rfl
      omega
  unfold editWs editRest
  split
  · simp [spaced]; omega
  · split
    · simp [spaced]; omega
    · split
      · simp [spaced]; omega
      · simp [spaced]; omega

set_option maxHeartbeats 4000000 in
set_option maxRecDepth 100000 in
theorem implText_any (x : PEdit) (w : World) (h : editB x = true) (hE : EditAt w) (hP : PowAt w) :
    Calls Tryd.prog 12 #[editVal x] w fun e w' => e = .returned (.tuple #[.string (editT x), .int .i64 0]) ∧ Below w.heap.size w w' := by
  obtain ⟨i0, hinf, hi0, hi1, hi2⟩ := info_parts infoStr
  obtain ⟨⟨k0, k1⟩, ⟨n0, n1⟩, ⟨a0, a1⟩, ⟨b0, b1⟩, ht⟩ := editB_nums h
  obtain ⟨j, hk⟩ : ∃ j : Nat, x.kind = (j : Int) + 1 := ⟨(x.kind - 1).toNat, by omega⟩
  have hj : j < 9 := by omega
  have hgl := hE.lt
  have cw := hE.cw (j + 1) (by omega)
  have c0 := hE.c0 (j + 1) (by omega)
  have c1 := hE.c1 (j + 1) (by omega)
  have c2 := hE.c2 (j + 1) (by omega)
  have c3 := hE.c3 (j + 1) (by omega)
  have HW := hide (editT_words x)
  have HL := hide (editWs_len h)
  obtain ⟨W1, hW1⟩ : ∃ W1, W1 = w.alloc (.cells #[.int .i64 ((j : Int) + 1), .int .i64 x.node, .int .i64 x.a, .int .i64 x.b, .string x.text] 26) := ⟨_, rfl⟩
  have hs1 : W1.heap.size = w.heap.size + 1 := by rw [hW1]; simp
  have hw1 : Below w.heap.size w W1 := by rw [hW1]; exact (Below.refl _ _).alloc (Nat.le_refl _) _
  have hf1 : Five W1 w.heap.size (.int .i64 ((j : Int) + 1)) (.int .i64 x.node) (.int .i64 x.a) (.int .i64 x.b) (.string x.text) := by rw [hW1]; exact five_new w _ _ _ _ _ _
  have HOK : Hid (Calls Tryd.prog 10 #[.agg #[.int .i64 ((j : Int) + 1), .int .i64 x.node, .int .i64 x.a, .int .i64 x.b, .string x.text]] W1 fun e w' => e = .returned (.bool true) ∧ Below W1.heap.size W1 w') := by
    have := implEditOK_any x W1 (hE.below hw1) (by omega)
    rw [h] at this
    unfold editVal at this
    rw [hk] at this
    exact this
  have hWs : Hid (editWs x = [edWord (j + 1), Lib.itoa x.node] ++ editRest x) := by
    rw [Hid, editWs, hk, show ((j : Int) + 1).toNat = j + 1 by omega]; rfl
  have HPw := hide hP
  unfold editVal
  rw [hk]
  obtain ⟨pA, hpA⟩ : ∃ pA, pA = decide (0 < edTop (j + 1)) := ⟨_, rfl⟩
  obtain ⟨pB, hpB⟩ : ∃ pB, pB = decide (0 < edB (j + 1)) := ⟨_, rfl⟩
  obtain ⟨pT, hpT⟩ : ∃ pT, pT = decide (0 < edText (j + 1)) := ⟨_, rfl⟩
  have HCls : Hid ((pA = true ∧ pB = true ∧ pT = false ∧ editRest x = [Lib.itoa x.a, Lib.itoa x.b]) ∨ (pA = true ∧ pB = false ∧ pT = false ∧ editRest x = [Lib.itoa x.a]) ∨ (pA = false ∧ pB = false ∧ pT = true ∧ editRest x = [hexWL x.text]) ∨ (pA = false ∧ pB = false ∧ pT = false ∧ editRest x = [])) := by
    have h9 : j = 0 ∨ j = 1 ∨ j = 2 ∨ j = 3 ∨ j = 4 ∨ j = 5 ∨ j = 6 ∨ j = 7 ∨ j = 8 := by omega
    unfold editRest
    rcases h9 with rfl | rfl | rfl | rfl | rfl | rfl | rfl | rfl | rfl <;> simp [hpA, hpB, hpT, edTop, edB, edText, hk, Hid]
  have HA : Hid (∀ wd a wx, Calls Tryd.prog 34 #[.agg #[wd, .int .i64 a, .int .i64 (edTop (j + 1)), .int .i64 (edB (j + 1)), .int .i64 (edText (j + 1))]] wx fun e w' => e = .returned (.bool pA) ∧ Below wx.heap.size wx w') := fun wd a wx => by rw [hpA]; exact hasA_any wd a _ _ _ wx
  have HB : Hid (∀ wd a wx, Calls Tryd.prog 35 #[.agg #[wd, .int .i64 a, .int .i64 (edTop (j + 1)), .int .i64 (edB (j + 1)), .int .i64 (edText (j + 1))]] wx fun e w' => e = .returned (.bool pB) ∧ Below wx.heap.size wx w') := fun wd a wx => by rw [hpB]; exact hasB_of wd a _ _ _ wx
  have HT : Hid (∀ wd a wx, Calls Tryd.prog 36 #[.agg #[wd, .int .i64 a, .int .i64 (edTop (j + 1)), .int .i64 (edB (j + 1)), .int .i64 (edText (j + 1))]] wx fun e w' => e = .returned (.bool pT) ∧ Below wx.heap.size wx w') := fun wd a wx => by rw [hpT]; exact hasText_of wd a _ _ _ wx
  have HX := hide (fun wx => hexWord_any x.text wx (by omega))
  have hcw : (ByteArray.mk (edWord (j + 1)).toArray) = bt (edWord (j + 1)) := rfl
  rw [hcw] at cw
  obtain ⟨-, f0, f1, f2, f3, f4⟩ := hf1
  have hj0 : (0 : Int) ≤ (j : Int) + 1 := by omega
  have hj10 : (j : Int) + 1 < 10 := by omega
  have hjn : ((j : Int) + 1).toNat = j + 1 := by omega
  have hgl1 : 0 < W1.heap.size := by omega
  have hww : w.heap.size < W1.heap.size := by omega
  clear h hE hP hk k0 k1 hpA hpB hpT hcw
  generalize edTop (j + 1) = eT at *
  generalize edB (j + 1) = eB at *
  generalize edText (j + 1) = eX at *
  generalize edLow (j + 1) = eL at *
  generalize edWord (j + 1) = ew at *
  go_enter Tryd.func12, Tryd.ntmps12
  go_wp2_with fail
  rw [← hW1]
  clear hW1
  refine HOK.out.mono ?_
  rintro e w1 ⟨rfl, hb1⟩
  have hs2 := hb1.size
  have hw2 : Below w.heap.size w w1 := hw1.trans (hb1.mono (by omega))
  have g0 := (hb1.cell (p := ⟨w.heap.size, 0, none⟩) hww).trans f0
  have g1 := (hb1.cell (p := ⟨w.heap.size, 1, none⟩) hww).trans f1
  have g2 := (hb1.cell (p := ⟨w.heap.size, 2, none⟩) hww).trans f2
  have g3 := (hb1.cell (p := ⟨w.heap.size, 3, none⟩) hww).trans f3
  have g4 := (hb1.cell (p := ⟨w.heap.size, 4, none⟩) hww).trans f4
  have d0 := (hw2.cell (p := ⟨0, (j + 1) * 5, none⟩) hgl).trans cw
  have d1 := (hw2.cell (p := ⟨0, (j + 1) * 5 + 1, none⟩) hgl).trans c0
  have d2 := (hw2.cell (p := ⟨0, (j + 1) * 5 + 2, none⟩) hgl).trans c1
  have d3 := (hw2.cell (p := ⟨0, (j + 1) * 5 + 3, none⟩) hgl).trans c2
  have d4 := (hw2.cell (p := ⟨0, (j + 1) * 5 + 4, none⟩) hgl).trans c3
  have hgl2 : 0 < w1.heap.size := by omega
  have hww2 : w.heap.size < w1.heap.size := by omega
  clear f0 f1 f2 f3 f4 cw c0 c1 c2 c3 HOK
  obtain ⟨W2, hW2⟩ : ∃ W2, W2 = w1.alloc (.cells #[.string (bt ew), .int .i64 eL, .int .i64 eT, .int .i64 eB, .int .i64 eX] 60) := ⟨_, rfl⟩
  have hz2 : W2.heap.size = w1.heap.size + 1 := by rw [hW2]; simp
  have hw3 : Below w.heap.size w W2 := by rw [hW2]; exact hw2.alloc (by omega) _
  have hf2 : Five W2 w1.heap.size (.string (bt ew)) (.int .i64 eL) (.int .i64 eT) (.int .i64 eB) (.int .i64 eX) := by rw [hW2]; exact five_new w1 _ _ _ _ _ _
  have he2 : Five W2 w.heap.size (.int .i64 ((j : Int) + 1)) (.int .i64 x.node) (.int .i64 x.a) (.int .i64 x.b) (.string x.text) := by
    rw [hW2]
    exact (show Five w1 w.heap.size (.int .i64 ((j : Int) + 1)) (.int .i64 x.node) (.int .i64 x.a) (.int .i64 x.b) (.string x.text) from ⟨hww2, g0, g1, g2, g3, g4⟩).below ((Below.refl w1.heap.size w1).alloc (Nat.le_refl _) _) hww2
  have HF : Hid (∀ wx, Below (w1.heap.size + 1) W2 wx → Five wx w.heap.size (.int .i64 ((j : Int) + 1)) (.int .i64 x.node) (.int .i64 x.a) (.int .i64 x.b) (.string x.text) ∧ Five wx w1.heap.size (.string (bt ew)) (.int .i64 eL) (.int .i64 eT) (.int .i64 eB) (.int .i64 eX)) := fun wx hb =>
    ⟨he2.below hb (by omega), hf2.below hb (by omega)⟩
  have HIt : Hid (∀ n, 0 ≤ n → n ≤ 999999 → ∀ wx, Below (w1.heap.size + 1) W2 wx → Calls Tryd.prog 33 #[.int .i64 n] wx fun e w' => e = .returned (.string (bt (Lib.itoa n))) ∧ Below wx.heap.size wx w') := fun n h0 h1 wx hb =>
    itoa_any n (by omega) (by omega) wx (HPw.out.below (hw3.trans (hb.mono (by omega))))
  have HSz : Hid (∀ wx, Below (w1.heap.size + 1) W2 wx → w1.heap.size + 1 ≤ wx.heap.size) := fun wx hb => by have := hb.size; omega
  have hd2 : Below (w1.heap.size + 1) W2 W2.drew := (Below.refl _ _).drew
  have HS : Hid (∀ wx, Below (w1.heap.size + 1) W2 wx → wx.cell? ⟨w1.heap.size, 0, none⟩ = some (.string (bt ew)) ∧ wx.cell? ⟨w.heap.size, 1, none⟩ = some (.int .i64 x.node)) := fun wx hb => ⟨(HF.out wx hb).2.2.1, (HF.out wx hb).1.2.2.1⟩
  have HIn : Hid (∀ wx, Below (w1.heap.size + 1) W2 wx → Calls Tryd.prog 33 #[.int .i64 x.node] wx fun e w' => e = .returned (.string (bt (Lib.itoa x.node))) ∧ Below (w1.heap.size + 1) W2 w') := fun wx hb =>
    (HIt.out x.node (by omega) n1 wx hb).mono fun e w' ⟨he, hb'⟩ => ⟨he, hb.trans (hb'.mono (HSz.out wx hb))⟩
  clear hf2 he2
  go_wp2_with fail
  rw [← hW2]
  clear hW2 g0 g1 g2 g3 g4 d0 d1 d2 d3 d4
  go_cut [5] (fun v5 wc => ∃ L, v5 = .slice (some ⟨L, 0, none⟩) 2 2 ∧ Hid (wc.ownsRow (w1.heap.size + 1) 9 1 (.slice (some ⟨L, 0, none⟩) 2 2) 2 ([bt ew, bt (Lib.itoa x.node)].map Value.string)) ∧ Below (w1.heap.size + 1) W2 wc)
  case first =>
    go_region_held3 (fun wx => wx.cell? ⟨w1.heap.size, 0, none⟩ = some (.string (bt ew)) ∧ wx.cell? ⟨w.heap.size, 1, none⟩ = some (.int .i64 x.node)) (first | exact HS.out _ (by assumption) | exact HS.out _ (Below.alloc (by assumption) (by assumption) _) | go_keep)
      (first
        | (go_at_call 33; refine (HIn.out _ (by assumption)).mono ?_; rintro e w3 ⟨rfl, hb3⟩; have hsz3 := HSz.out _ hb3))
    all_goals
      go_wp2_with fail
      go_meet
      exact ⟨_, rfl, World.ownsRow_lit _ _ 2 hsz3 (by decide) rfl, hb3.alloc hsz3 _⟩
  case rest =>
    obtain ⟨L, rfl, hr3, hB3⟩ := hcut
    obtain ⟨⟨-, u30, u31, u32, u33, u34⟩, -, v30, v31, v32, v33, v34⟩ := HF.out _ hB3
    have hr3 := hr3.out
    clear HS HIn hd2
    rcases HCls.out with ⟨rfl, rfl, rfl, hrs⟩ | ⟨rfl, rfl, rfl, hrs⟩ | ⟨rfl, rfl, rfl, hrs⟩ | ⟨rfl, rfl, rfl, hrs⟩
    · have HWx : Hid (editWs x = [ew, Lib.itoa x.node, Lib.itoa x.a, Lib.itoa x.b]) := by rw [Hid, hWs.out, hrs]; rfl
      have HJ : Hid (∀ v wx, wx.ownsRow (w1.heap.size + 1) 9 1 v 4 (([bt (ew), bt (Lib.itoa x.node), bt (Lib.itoa x.a), bt (Lib.itoa x.b)]).map Value.string) → Calls Tryd.prog 38 #[v, .string ⟨#[32]⟩] wx fun e w' => e = .returned (.string (editT x)) ∧ Below wx.heap.size wx w') := fun v wx hr => by
        have h1 := HL.out
        rw [HW.out]
        rw [HWx.out] at h1 ⊢
        exact joinWords_any _ v _ wx hr (by simp) (by simp) (by omega)
      clear hWs HWx HCls HW HL hrs
      go_wp2_with (first
        | (go_at_call 38; refine (HJ.out _ _ hr10).mono ?_; rintro e w11 ⟨rfl, hb11⟩)
        | (go_at_call 36; refine (HT.out _ _ _).mono ?_; rintro e w10 ⟨rfl, hb10⟩; have hr10 := ownsRow_below hr9 hb10; have hB10 : Below (w1.heap.size + 1) W2 w10 := hB9.trans (hb10.mono (HSz.out _ hB9)); obtain ⟨⟨-, u100, u101, u102, u103, u104⟩, -, v100, v101, v102, v103, v104⟩ := HF.out _ hB10)
        | (at_builtin; refine wpList_append_own _ rfl _ _ 64 rfl (w1.heap.size + 1) 9 i0 (.string ⟨#[]⟩) 1 16 Tryd.underlying64 hinf hi0 hi1 hi2 rfl (by decide) _ _ _ rfl (hr8.alloc _) ⟨w8.heap.size, 0, none⟩ 1 1 [Value.string (bt (Lib.itoa x.b))] rfl rfl (cell_one_new _ _ _) (one_str _) (by unfold maxLen; omega) (by omega) (by have := (HSz.out _ hB8); simp; omega) ?_; intro r9 w9 hr9 hg9 _; have hB9 : Below (w1.heap.size + 1) W2 w9 := ((hB8.alloc (HSz.out _ hB8) _).grown hg9 (by have := (HSz.out _ hB8); simp; omega) (fun g hg => (hr8.lt g hg).1)); obtain ⟨ra9, rc9, rfl⟩ := row_shape hr9; obtain ⟨⟨-, u90, u91, u92, u93, u94⟩, -, v90, v91, v92, v93, v94⟩ := HF.out _ hB9)
        | (go_at_call 33; refine (HIt.out x.b b0 b1 _ hB7).mono ?_; rintro e w8 ⟨rfl, hb8⟩; have hr8 := ownsRow_below hr7 hb8; have hB8 : Below (w1.heap.size + 1) W2 w8 := hB7.trans (hb8.mono (HSz.out _ hB7)))
        | (go_at_call 35; refine (HB.out _ _ _).mono ?_; rintro e w7 ⟨rfl, hb7⟩; have hr7 := ownsRow_below hr6 hb7; have hB7 : Below (w1.heap.size + 1) W2 w7 := hB6.trans (hb7.mono (HSz.out _ hB6)); obtain ⟨⟨-, u70, u71, u72, u73, u74⟩, -, v70, v71, v72, v73, v74⟩ := HF.out _ hB7)
        | (at_builtin; refine wpList_append_own _ rfl _ _ 64 rfl (w1.heap.size + 1) 9 i0 (.string ⟨#[]⟩) 1 16 Tryd.underlying64 hinf hi0 hi1 hi2 rfl (by decide) _ _ _ rfl (hr5.alloc _) ⟨w5.heap.size, 0, none⟩ 1 1 [Value.string (bt (Lib.itoa x.a))] rfl rfl (cell_one_new _ _ _) (one_str _) (by unfold maxLen; omega) (by omega) (by have := (HSz.out _ hB5); simp; omega) ?_; intro r6 w6 hr6 hg6 _; have hB6 : Below (w1.heap.size + 1) W2 w6 := ((hB5.alloc (HSz.out _ hB5) _).grown hg6 (by have := (HSz.out _ hB5); simp; omega) (fun g hg => (hr5.lt g hg).1)); obtain ⟨ra6, rc6, rfl⟩ := row_shape hr6; obtain ⟨⟨-, u60, u61, u62, u63, u64⟩, -, v60, v61, v62, v63, v64⟩ := HF.out _ hB6)
        | (go_at_call 33; refine (HIt.out x.a a0 a1 _ hB4).mono ?_; rintro e w5 ⟨rfl, hb5⟩; have hr5 := ownsRow_below hr4 hb5; have hB5 : Below (w1.heap.size + 1) W2 w5 := hB4.trans (hb5.mono (HSz.out _ hB4)))
        | (go_at_call 34; refine (HA.out _ _ _).mono ?_; rintro e w4 ⟨rfl, hb4⟩; have hr4 := ownsRow_below hr3 hb4; have hB4 : Below (w1.heap.size + 1) W2 w4 := hB3.trans (hb4.mono (HSz.out _ hB3)); obtain ⟨⟨-, u40, u41, u42, u43, u44⟩, -, v40, v41, v42, v43, v44⟩ := HF.out _ hB4))
      go_ret2
      exact ⟨rfl, hw3.trans ((hB10.trans (hb11.mono (HSz.out _ hB10))).mono (by omega))⟩
    · have HWx : Hid (editWs x = [ew, Lib.itoa x.node, Lib.itoa x.a]) := by rw [Hid, hWs.out, hrs]; rfl
      have HJ : Hid (∀ v wx, wx.ownsRow (w1.heap.size + 1) 9 1 v 3 (([bt (ew), bt (Lib.itoa x.node), bt (Lib.itoa x.a)]).map Value.string) → Calls Tryd.prog 38 #[v, .string ⟨#[32]⟩] wx fun e w' => e = .returned (.string (editT x)) ∧ Below wx.heap.size wx w') := fun v wx hr => by
        have h1 := HL.out
        rw [HW.out]
        rw [HWx.out] at h1 ⊢
        exact joinWords_any _ v _ wx hr (by simp) (by simp) (by omega)
      clear hWs HWx HCls HW HL hrs
      go_wp2_with (first
        | (go_at_call 38; refine (HJ.out _ _ hr8).mono ?_; rintro e w9 ⟨rfl, hb9⟩)
        | (go_at_call 36; refine (HT.out _ _ _).mono ?_; rintro e w8 ⟨rfl, hb8⟩; have hr8 := ownsRow_below hr7 hb8; have hB8 : Below (w1.heap.size + 1) W2 w8 := hB7.trans (hb8.mono (HSz.out _ hB7)); obtain ⟨⟨-, u80, u81, u82, u83, u84⟩, -, v80, v81, v82, v83, v84⟩ := HF.out _ hB8)
        | (go_at_call 35; refine (HB.out _ _ _).mono ?_; rintro e w7 ⟨rfl, hb7⟩; have hr7 := ownsRow_below hr6 hb7; have hB7 : Below (w1.heap.size + 1) W2 w7 := hB6.trans (hb7.mono (HSz.out _ hB6)); obtain ⟨⟨-, u70, u71, u72, u73, u74⟩, -, v70, v71, v72, v73, v74⟩ := HF.out _ hB7)
        | (at_builtin; refine wpList_append_own _ rfl _ _ 64 rfl (w1.heap.size + 1) 9 i0 (.string ⟨#[]⟩) 1 16 Tryd.underlying64 hinf hi0 hi1 hi2 rfl (by decide) _ _ _ rfl (hr5.alloc _) ⟨w5.heap.size, 0, none⟩ 1 1 [Value.string (bt (Lib.itoa x.a))] rfl rfl (cell_one_new _ _ _) (one_str _) (by unfold maxLen; omega) (by omega) (by have := (HSz.out _ hB5); simp; omega) ?_; intro r6 w6 hr6 hg6 _; have hB6 : Below (w1.heap.size + 1) W2 w6 := ((hB5.alloc (HSz.out _ hB5) _).grown hg6 (by have := (HSz.out _ hB5); simp; omega) (fun g hg => (hr5.lt g hg).1)); obtain ⟨ra6, rc6, rfl⟩ := row_shape hr6; obtain ⟨⟨-, u60, u61, u62, u63, u64⟩, -, v60, v61, v62, v63, v64⟩ := HF.out _ hB6)
        | (go_at_call 33; refine (HIt.out x.a a0 a1 _ hB4).mono ?_; rintro e w5 ⟨rfl, hb5⟩; have hr5 := ownsRow_below hr4 hb5; have hB5 : Below (w1.heap.size + 1) W2 w5 := hB4.trans (hb5.mono (HSz.out _ hB4)))
        | (go_at_call 34; refine (HA.out _ _ _).mono ?_; rintro e w4 ⟨rfl, hb4⟩; have hr4 := ownsRow_below hr3 hb4; have hB4 : Below (w1.heap.size + 1) W2 w4 := hB3.trans (hb4.mono (HSz.out _ hB3)); obtain ⟨⟨-, u40, u41, u42, u43, u44⟩, -, v40, v41, v42, v43, v44⟩ := HF.out _ hB4))
      go_ret2
      exact ⟨rfl, hw3.trans ((hB8.trans (hb9.mono (HSz.out _ hB8))).mono (by omega))⟩
    · have HWx : Hid (editWs x = [ew, Lib.itoa x.node, hexWL x.text]) := by rw [Hid, hWs.out, hrs]; rfl
      have HJ : Hid (∀ v wx, wx.ownsRow (w1.heap.size + 1) 9 1 v 3 (([bt (ew), bt (Lib.itoa x.node), bt (hexWL x.text)]).map Value.string) → Calls Tryd.prog 38 #[v, .string ⟨#[32]⟩] wx fun e w' => e = .returned (.string (editT x)) ∧ Below wx.heap.size wx w') := fun v wx hr => by
        have h1 := HL.out
        rw [HW.out]
        rw [HWx.out] at h1 ⊢
        exact joinWords_any _ v _ wx hr (by simp) (by simp) (by omega)
      clear hWs HWx HCls HW HL hrs
      go_wp2_with (first
        | (go_at_call 38; refine (HJ.out _ _ hr8).mono ?_; rintro e w9 ⟨rfl, hb9⟩)
        | (at_builtin; refine wpList_append_own _ rfl _ _ 64 rfl (w1.heap.size + 1) 9 i0 (.string ⟨#[]⟩) 1 16 Tryd.underlying64 hinf hi0 hi1 hi2 rfl (by decide) _ _ _ rfl (hr7.alloc _) ⟨w7.heap.size, 0, none⟩ 1 1 [Value.string (bt (hexWL x.text))] rfl rfl (cell_one_new _ _ _) (one_str _) (by unfold maxLen; omega) (by omega) (by have := (HSz.out _ hB7); simp; omega) ?_; intro r8 w8 hr8 hg8 _; have hB8 : Below (w1.heap.size + 1) W2 w8 := ((hB7.alloc (HSz.out _ hB7) _).grown hg8 (by have := (HSz.out _ hB7); simp; omega) (fun g hg => (hr7.lt g hg).1)); obtain ⟨ra8, rc8, rfl⟩ := row_shape hr8; obtain ⟨⟨-, u80, u81, u82, u83, u84⟩, -, v80, v81, v82, v83, v84⟩ := HF.out _ hB8)
        | (go_at_call 37; refine (HX.out _).mono ?_; rintro e w7 ⟨rfl, hb7⟩; have hr7 := ownsRow_below hr6 hb7; have hB7 : Below (w1.heap.size + 1) W2 w7 := hB6.trans (hb7.mono (HSz.out _ hB6)))
        | (go_at_call 36; refine (HT.out _ _ _).mono ?_; rintro e w6 ⟨rfl, hb6⟩; have hr6 := ownsRow_below hr5 hb6; have hB6 : Below (w1.heap.size + 1) W2 w6 := hB5.trans (hb6.mono (HSz.out _ hB5)); obtain ⟨⟨-, u60, u61, u62, u63, u64⟩, -, v60, v61, v62, v63, v64⟩ := HF.out _ hB6)
        | (go_at_call 35; refine (HB.out _ _ _).mono ?_; rintro e w5 ⟨rfl, hb5⟩; have hr5 := ownsRow_below hr4 hb5; have hB5 : Below (w1.heap.size + 1) W2 w5 := hB4.trans (hb5.mono (HSz.out _ hB4)); obtain ⟨⟨-, u50, u51, u52, u53, u54⟩, -, v50, v51, v52, v53, v54⟩ := HF.out _ hB5)
        | (go_at_call 34; refine (HA.out _ _ _).mono ?_; rintro e w4 ⟨rfl, hb4⟩; have hr4 := ownsRow_below hr3 hb4; have hB4 : Below (w1.heap.size + 1) W2 w4 := hB3.trans (hb4.mono (HSz.out _ hB3)); obtain ⟨⟨-, u40, u41, u42, u43, u44⟩, -, v40, v41, v42, v43, v44⟩ := HF.out _ hB4))
      go_ret2
      exact ⟨rfl, hw3.trans ((hB8.trans (hb9.mono (HSz.out _ hB8))).mono (by omega))⟩
    · have HWx : Hid (editWs x = [ew, Lib.itoa x.node]) := by rw [Hid, hWs.out, hrs]; rfl
      have HJ : Hid (∀ v wx, wx.ownsRow (w1.heap.size + 1) 9 1 v 2 (([bt (ew), bt (Lib.itoa x.node)]).map Value.string) → Calls Tryd.prog 38 #[v, .string ⟨#[32]⟩] wx fun e w' => e = .returned (.string (editT x)) ∧ Below wx.heap.size wx w') := fun v wx hr => by
        have h1 := HL.out
        rw [HW.out]
        rw [HWx.out] at h1 ⊢
        exact joinWords_any _ v _ wx hr (by simp) (by simp) (by omega)
      clear hWs HWx HCls HW HL hrs
      go_wp2_with (first
        | (go_at_call 38; refine (HJ.out _ _ hr6).mono ?_; rintro e w7 ⟨rfl, hb7⟩)
        | (go_at_call 36; refine (HT.out _ _ _).mono ?_; rintro e w6 ⟨rfl, hb6⟩; have hr6 := ownsRow_below hr5 hb6; have hB6 : Below (w1.heap.size + 1) W2 w6 := hB5.trans (hb6.mono (HSz.out _ hB5)); obtain ⟨⟨-, u60, u61, u62, u63, u64⟩, -, v60, v61, v62, v63, v64⟩ := HF.out _ hB6)
        | (go_at_call 35; refine (HB.out _ _ _).mono ?_; rintro e w5 ⟨rfl, hb5⟩; have hr5 := ownsRow_below hr4 hb5; have hB5 : Below (w1.heap.size + 1) W2 w5 := hB4.trans (hb5.mono (HSz.out _ hB4)); obtain ⟨⟨-, u50, u51, u52, u53, u54⟩, -, v50, v51, v52, v53, v54⟩ := HF.out _ hB5)
        | (go_at_call 34; refine (HA.out _ _ _).mono ?_; rintro e w4 ⟨rfl, hb4⟩; have hr4 := ownsRow_below hr3 hb4; have hB4 : Below (w1.heap.size + 1) W2 w4 := hB3.trans (hb4.mono (HSz.out _ hB3)); obtain ⟨⟨-, u40, u41, u42, u43, u44⟩, -, v40, v41, v42, v43, v44⟩ := HF.out _ hB4))
      go_ret2
      exact ⟨rfl, hw3.trans ((hB6.trans (hb7.mono (HSz.out _ hB6))).mono (by omega))⟩
end Go.Proofs.YtpkblnponeonkaaDoor
