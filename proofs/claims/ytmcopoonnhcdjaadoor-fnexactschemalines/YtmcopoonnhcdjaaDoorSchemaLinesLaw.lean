/-
  The law on SchemaLines answers true at every list of rules that a program can hold.
-/
import Derived.Test.YtmcopoonnhcdjaaDoorLinesTop
import Derived.Test.YtmcopoonnhcdjaaDoorMarkTexts
import Derived.Test.YtmcopoonnhcdjaaDoorMarkSch
namespace Go.Proofs.YtmcopoonnhcdjaaDoor
open Go.RowKit

set_option maxHeartbeats 2000000 in
set_option maxRecDepth 100000 in
theorem schemaLinesLaw (n₀ : Nat) (v : Value) (l : List PRule) (w : World) (h : RulesAt n₀ w v l) (hn : n₀ ≤ w.heap.size) (hf : FitsRules l) (hA : AmtAt w) :
    Calls Tryd.prog 7 #[v] w fun e w' => e = .returned (.bool true) ∧ Below w.heap.size w w' := by
  have HD := hide h
  have HAm := hide hA
  have HSz := hide (szRules_any n₀ v l 1048576 w h hn (by omega) (by omega) hf)
  obtain ⟨a, cap, rfl, -⟩ := h
  clear hf hA
  obtain ⟨r, hr⟩ : ∃ r : Bool, r = true ↔ SchemaP l := ⟨dec _, dec_iff _⟩
  have HR := hide hr
  obtain ⟨c, hc⟩ : ∃ c, c = linesCode r l := ⟨_, rfl⟩
  obtain ⟨ss, hss⟩ : ∃ ss, ss = linesAns r l := ⟨_, rfl⟩
  have hsl : ss.length ≤ 1048576 := by rw [hss]; exact linesAns_len
  have HC := hide hc
  have HSS := hide hss
  clear hr hc hss
  go_enter Tryd.func7, Tryd.ntmps7
  go_wp2_with fail
  refine HSz.out.mono ?_
  rintro e w1 ⟨q, rfl, hq1, hq2, hq3, hb1⟩
  have hs1 := hb1.size
  by_cases hq : q < 0
  · clear hq3
    go_wp2_with fail
    go_ret
    exact ⟨rfl, hb1⟩
  have HS := hide (hq3 (by omega))
  clear hq3 HSz
  have HTo : Hid (∀ wx, Below w.heap.size w wx → Calls Tryd.prog 11 #[.slice a l.length cap] wx fun e w' => ∃ u, e = .returned u ∧ RulesOwn wx.heap.size w'.heap.size w' u l ∧ Below wx.heap.size wx w' ∧ wx.heap.size < w'.heap.size) := fun wx hb =>
    toRules_any n₀ _ l wx (HD.out.below (Nat.le_refl _) (hb.mono hn)) (by have := hb.size; omega) HS.out
  go_wp2_with fail
  refine (HTo.out _ hb1).mono ?_
  rintro e w2 ⟨u2, rfl, ho2, hb2, -⟩
  have hb2' := hb1.trans (hb2.mono hs1)
  have hs2 := hb2'.size
  obtain ⟨a2, c2, rfl, hn2⟩ := ho2.at.form
  have HSp := hide (specSchemaLines_any w2.heap.size _ l w2 hn2 (Nat.le_refl _) HS.out r HR.out ss c HSS.out HC.out)
  clear ho2 hn2
  go_wp2_with fail
  refine HSp.out.mono ?_
  rintro e w3 ⟨v3, rfl, hr3, hb3⟩
  have hb3' := hb2'.trans (hb3.mono hs2)
  have hs3 := hb3'.size
  have hs3b := hb3.size
  have HL3 : Hid (TextsIn w2.heap.size w3.heap.size w3 v3 ss) := TextsIn.of_row hr3
  obtain ⟨a3, c3, rfl⟩ := text_row_shape hr3
  clear hr3 HSp
  go_wp2_with fail
  refine (HTo.out _ hb3').mono ?_
  rintro e w4 ⟨u4, rfl, ho4, hb4, -⟩
  have hb4' := hb3'.trans (hb4.mono hs3)
  have hs4 := hb4'.size
  have hs4b := hb4.size
  have HRm := hide ho4.room
  have HO4 := hide ho4
  obtain ⟨a4, c4, rfl, hn4⟩ := ho4.at.form
  have HIm := hide (implSchemaLines_any w4.heap.size _ l w4 hn4 HRm.out (Nat.le_refl _) HS.out (HAm.out.below hb4') r HR.out ss c HSS.out HC.out)
  clear ho4 hn4
  go_wp2_with fail
  refine HIm.out.mono ?_
  rintro e w5 ⟨v5, rfl, hr5, hb5⟩
  have hb5' := hb4'.trans (hb5.mono hs4)
  have hs5 := hb5'.size
  have hs5b := hb5.size
  have HL5 : Hid (TextsIn w4.heap.size w5.heap.size w5 v5 ss) := TextsIn.of_row hr5
  obtain ⟨a5, c5, rfl⟩ := text_row_shape hr5
  have HE5 := hide (eqTexts_any w5.heap.size _ _ ss w5 HL5.out.at ((HL3.out.below (hb4.trans (hb5.mono (by omega)))).at.below (by omega) (Below.refl _ _)) hsl)
  clear hr5 HIm
  have e2 : (c != c) = false := by simp
  go_wp2_with (go_at_call 31; refine HE5.out.mono ?_; rintro e w6 ⟨rfl, hb6⟩)
  have hb6' := hb5'.trans (hb6.mono hs5)
  have hs6 := hb6'.size
  have hs6b := hb6.size
  clear HE5
  refine (HTo.out _ hb6').mono ?_
  rintro e w7 ⟨u7, rfl, ho7, hb7, -⟩
  have hb7' := hb6'.trans (hb7.mono hs6)
  have hs7 := hb7'.size
  have hs7b := hb7.size
  have hn7 := ho7.at
  have h47 := hb5.trans ((hb6.mono hs5b).trans (hb7.mono (by omega)))
  have HE7 := hide (eqRules_any w7.heap.size _ _ l w7 (HO4.out.at.below (by omega) h47) hn7 (Nat.le_refl _) HS.out)
  obtain ⟨a7, c7, rfl, -⟩ := hn7.form
  clear hn7 ho7
  go_wp2_with fail
  refine HE7.out.mono ?_
  rintro e w8 ⟨rfl, hb8⟩
  have hb8' := hb7'.trans (hb8.mono hs7)
  have hs8 := hb8'.size
  have hs8b := hb8.size
  have h48 := h47.trans (hb8.mono (by omega))
  have HMk := hide (markRules_any w3.heap.size w4.heap.size _ l w8 (HO4.out.below h48) (by omega) HS.out)
  clear HE7
  go_wp2_with fail
  refine HMk.out.mono ?_
  rintro e w9 ⟨rk, rfl, hrk, hwi⟩
  have hs9 := hwi.below.size
  have h38 := hb4.trans (h48.mono (by omega))
  have HL3d : Hid (TextsIn w2.heap.size w3.heap.size w9 _ ss) := (HL3.out.below h38).below hwi.below
  have HL5d : Hid (TextsIn w4.heap.size w5.heap.size w9 _ ss) := (HL5.out.below (hb6.trans ((hb7.mono (by omega)).trans (hb8.mono (by omega))))).heap fun g h1 h2 => hwi.above g (by omega) (by omega)
  have hb9' := hb8'.trans (hwi.below.mono (by omega))
  have HE9 := hide (eqTexts_any w9.heap.size _ _ ss w9 (HL5d.out.at.below (by omega) (Below.refl _ _)) (HL3d.out.at.below (by omega) (Below.refl _ _)) hsl)
  have hrk1 : decide (rk < 0) = false := by simp; omega
  clear HMk
  go_wp2_with (go_at_call 31; refine HE9.out.mono ?_; rintro e w10 ⟨rfl, hb10⟩)
  have hs10 := hb10.size
  have HL3e : Hid (TextsIn w2.heap.size w3.heap.size w10 _ ss) := HL3d.out.below (hb10.mono (by omega))
  have HL5e : Hid (TextsIn w4.heap.size w5.heap.size w10 _ ss) := HL5d.out.below (hb10.mono (by omega))
  have hb10' := hb9'.trans (hb10.mono (by omega))
  have HMt := hide (markTexts_any w4.heap.size w5.heap.size _ _ ss w10 HL5e.out hsl)
  clear HE9
  refine HMt.out.mono ?_
  rintro e w11 ⟨rfl, hwi2, hmk⟩
  have hs11 := hwi2.below.size
  have HL3f : Hid (TextsIn w2.heap.size w3.heap.size w11 _ ss) := HL3e.out.below (hwi2.below.mono (by omega))
  have hb11' := hb10'.trans (hwi2.below.mono (by omega))
  have HMkA := hide hmk
  have HHe := hide (heldTexts_any a5 ss.length c5 w11 hmk hsl)
  have hm0 : (0 : Int) ≤ 1 + (ss.length : Int) := by omega
  have hm1 : decide (1 + (ss.length : Int) < 0) = false := by simp; omega
  clear hmk HMt
  go_wp2_with fail
  refine HHe.out.mono ?_
  rintro e w12 ⟨rfl, hb12⟩
  have hs12 := hb12.size
  have hb12' := hb11'.trans (hb12.mono (by omega))
  clear HHe
  go_wp2_with fail
  refine (HTo.out _ hb12').mono ?_
  rintro e w13 ⟨u13, rfl, ho13, hb13, -⟩
  have hs13 := hb13.size
  have hb13' := hb12'.trans (hb13.mono (by omega))
  have HRm13 := hide ho13.room
  obtain ⟨a13, c13, rfl, hn13⟩ := ho13.at.form
  have HIm := hide (implSchemaLines_any w13.heap.size _ l w13 hn13 HRm13.out (Nat.le_refl _) HS.out (HAm.out.below hb13') r HR.out ss c HSS.out HC.out)
  clear ho13 hn13
  go_wp2_with fail
  refine HIm.out.mono ?_
  rintro e w14 ⟨v14, rfl, hr14, hb14⟩
  have hs14 := hb14.size
  have hb14' := hb13'.trans (hb14.mono (by omega))
  have HL14 : Hid (TextsIn w13.heap.size w14.heap.size w14 v14 ss) := TextsIn.of_row hr14
  obtain ⟨a14, c14, rfl⟩ := text_row_shape hr14
  have h1114 := hb12.trans ((hb13.mono (by omega)).trans (hb14.mono (by omega)))
  have HE14 := hide (eqTexts_any w14.heap.size _ _ ss w14 HL14.out.at ((HL3f.out.below (h1114.mono (by omega))).at.below (by omega) (Below.refl _ _)) hsl)
  clear hr14 HIm
  go_wp2_with (go_at_call 31; refine HE14.out.mono ?_; rintro e w15 ⟨rfl, hb15⟩)
  have h1115 := h1114.trans (hb15.mono (by omega))
  have HHe := hide (heldTexts_any a5 ss.length c5 w15 (HMkA.out.below h1115) hsl)
  clear HE14
  refine HHe.out.mono ?_
  rintro e w16 ⟨rfl, hb16⟩
  have hb15' := hb14'.trans (hb15.mono (by omega))
  go_wp2_with fail
  go_ret
  exact ⟨rfl, hb15'.trans (hb16.mono hb15'.size)⟩
end Go.Proofs.YtmcopoonnhcdjaaDoor
