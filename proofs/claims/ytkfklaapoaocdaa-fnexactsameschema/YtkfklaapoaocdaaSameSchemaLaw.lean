/-
  The law on SameSchema answers true at every two lists of rules that a program can hold.
-/
import Derived.Test.YtkfklaapoaocdaaSchSameTop
import Derived.Test.YtkfklaapoaocdaaSchSz
namespace Go.Proofs.Ytkfklaapoaocdaa
open Go.RowKit

set_option maxHeartbeats 1000000 in
set_option maxRecDepth 100000 in
theorem sameSchemaLaw (n₀ : Nat) (v v' : Value) (l l' : List PRule) (w : World) (h : RulesAt n₀ w v l) (h' : RulesAt n₀ w v' l') (hn : n₀ ≤ w.heap.size) (hf : FitsRules l) (hf' : FitsRules l') :
    Calls Try.prog 6 #[v, v'] w fun e w' => e = .returned (.bool true) ∧ Below w.heap.size w w' := by
  have HD := hide h
  have HD' := hide h'
  have HSz := hide (szRules_any n₀ v l 1048576 w h hn (by omega) (by omega) hf)
  have HSz' : Hid (∀ wx q, Below w.heap.size w wx → 0 ≤ q → q ≤ 1048576 → Calls Try.prog 12 #[v', .int .i64 q] wx fun e w' => ∃ r, e = .returned (.int .i64 r) ∧ -1 ≤ r ∧ r ≤ q ∧ (0 ≤ r → SmallRules l') ∧ Below wx.heap.size wx w') := fun wx q hb h0 h1 =>
    szRules_any n₀ v' l' q wx (HD'.out.below (Nat.le_refl _) (hb.mono hn)) (by have := hb.size; omega) h0 h1 hf'
  obtain ⟨a, cap, rfl, -⟩ := h
  obtain ⟨a', cap', rfl, -⟩ := h'
  clear hf hf'
  obtain ⟨r, hr⟩ : ∃ r : Bool, r = true ↔ SchemaP l ∧ SchemaP l' ∧ l = l' := ⟨dec _, dec_iff _⟩
  have HR := hide hr
  clear hr
  go_enter Try.func6, Try.ntmps6
  go_wp2_with fail
  refine HSz.out.mono ?_
  rintro e w1 ⟨q, rfl, hq1, hq2, hq3, hb1⟩
  have hs1 := hb1.size
  by_cases hq : q < 0
  · clear hq3
    go_wp2_with fail
    go_ret
    exact ⟨rfl, hb1⟩
  · have HS := hide (hq3 (by omega))
    clear hq3
    go_wp2_with fail
    refine (HSz'.out _ q hb1 (by omega) hq2).mono ?_
    rintro e w2 ⟨q', rfl, hq1', hq2', hq3', hb2⟩
    have hb2' := hb1.trans (hb2.mono hs1)
    have hs2 := hb2'.size
    by_cases hq' : q' < 0
    · clear hq3'
      go_wp2_with fail
      go_ret
      exact ⟨rfl, hb2'⟩
    · have HS' := hide (hq3' (by omega))
      clear hq3' HSz'
      have HTo : Hid (∀ wx, Below w.heap.size w wx → Calls Try.prog 14 #[.slice a l.length cap] wx fun e w' => ∃ u, e = .returned u ∧ RulesOwn wx.heap.size w'.heap.size w' u l ∧ Below wx.heap.size wx w' ∧ wx.heap.size < w'.heap.size) := fun wx hb =>
        toRules_any n₀ _ l wx (HD.out.below (Nat.le_refl _) (hb.mono hn)) (by have := hb.size; omega) HS.out
      have HTo' : Hid (∀ wx, Below w.heap.size w wx → Calls Try.prog 14 #[.slice a' l'.length cap'] wx fun e w' => ∃ u, e = .returned u ∧ RulesOwn wx.heap.size w'.heap.size w' u l' ∧ Below wx.heap.size wx w' ∧ wx.heap.size < w'.heap.size) := fun wx hb =>
        toRules_any n₀ _ l' wx (HD'.out.below (Nat.le_refl _) (hb.mono hn)) (by have := hb.size; omega) HS'.out
      go_wp2_with fail
      refine (HTo.out _ hb2').mono ?_
      rintro e w3 ⟨u3, rfl, ho3, hb3, -⟩
      have hb3' := hb2'.trans (hb3.mono hs2)
      have hs3 := hb3'.size
      obtain ⟨a3, c3, rfl, hn3⟩ := ho3.at.form
      clear ho3
      go_wp2_with fail
      refine (HTo'.out _ hb3').mono ?_
      rintro e w4 ⟨u4, rfl, ho4, hb4, -⟩
      have hb4' := hb3'.trans (hb4.mono hs3)
      have hs4 := hb4'.size
      obtain ⟨a4, c4, rfl, hn4⟩ := ho4.at.form
      have HSp := hide (specSameSchema_any w4.heap.size _ _ l l' w4 (hn3.below hb4.size hb4) hn4 (Nat.le_refl _) HS.out HS'.out r HR.out)
      clear hn3 hn4 ho4
      go_wp2_with fail
      refine HSp.out.mono ?_
      rintro e w5 ⟨rfl, hb5⟩
      have hb5' := hb4'.trans (hb5.mono hs4)
      have hs5 := hb5'.size
      clear HSp
      go_wp2_with fail
      refine (HTo.out _ hb5').mono ?_
      rintro e w6 ⟨u6, rfl, ho6, hb6, -⟩
      have hb6' := hb5'.trans (hb6.mono hs5)
      have hs6 := hb6'.size
      have HRm := hide ho6.room
      obtain ⟨a6, c6, rfl, hn6⟩ := ho6.at.form
      have HN6 := hide hn6
      clear ho6 hn6
      go_wp2_with fail
      refine (HTo'.out _ hb6').mono ?_
      rintro e w7 ⟨u7, rfl, ho7, hb7, -⟩
      have hb7' := hb6'.trans (hb7.mono hs6)
      have hs7 := hb7'.size
      have HRm' := hide ho7.room
      obtain ⟨a7, c7, rfl, hn7⟩ := ho7.at.form
      have HN7 := hide hn7
      have HN6' := hide (HN6.out.below hb7.size hb7)
      have HIm := hide (implSameSchema_any w7.heap.size _ _ l l' w7 HN6'.out hn7 HRm.out HRm'.out (Nat.le_refl _) HS.out HS'.out r HR.out)
      clear ho7 hn7
      go_wp2_with fail
      refine HIm.out.mono ?_
      rintro e w8 ⟨rfl, hb8⟩
      have hb8' := hb7'.trans (hb8.mono hs7)
      have hs8 := hb8'.size
      clear HIm
      go_wp2_with fail
      refine (HTo.out _ hb8').mono ?_
      rintro e w9 ⟨u9, rfl, ho9, hb9, -⟩
      have hb9' := hb8'.trans (hb9.mono hs8)
      have hs9 := hb9'.size
      have hn9 := ho9.at
      have hb89 := hb8.trans (hb9.mono hb8.size)
      have HEq := hide (eqRules_any w9.heap.size _ _ l w9 (HN6'.out.below hb89.size hb89) hn9 (Nat.le_refl _) HS.out)
      obtain ⟨a9, c9, rfl, -⟩ := hn9.form
      clear hn9 ho9
      go_wp2_with fail
      refine HEq.out.mono ?_
      rintro e w10 ⟨rfl, hb10⟩
      have hb10' := hb9'.trans (hb10.mono hs9)
      have hs10 := hb10'.size
      clear HEq
      go_wp2_with fail
      refine (HTo'.out _ hb10').mono ?_
      rintro e w11 ⟨u11, rfl, ho11, hb11, -⟩
      have hb11' := hb10'.trans (hb11.mono hs10)
      have hs11 := hb11'.size
      have hn11 := ho11.at
      have hb711 := hb89.trans ((hb10.trans (hb11.mono hb10.size)).mono hb89.size)
      have HEq := hide (eqRules_any w11.heap.size _ _ l' w11 (HN7.out.below hb711.size hb711) hn11 (Nat.le_refl _) HS'.out)
      obtain ⟨a11, c11, rfl, -⟩ := hn11.form
      clear hn11 ho11
      go_wp2_with fail
      refine HEq.out.mono ?_
      rintro e w12 ⟨rfl, hb12⟩
      go_wp2_with fail
      go_ret
      exact ⟨rfl, hb11'.trans (hb12.mono hs11)⟩
end Go.Proofs.Ytkfklaapoaocdaa
