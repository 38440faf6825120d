/-
  The law on KindOf answers true at every list of rules and text that a program can hold.
-/
import Derived.Test.YtkfklaapoaocdaaKindOf
import Derived.Test.YtkfklaapoaocdaaSchSz
namespace Go.Proofs.Ytkfklaapoaocdaa
open Go.RowKit

set_option maxHeartbeats 1000000 in
set_option maxRecDepth 100000 in
theorem kindOfLaw (n₀ : Nat) (v : Value) (l : List PRule) (s : ByteArray) (w : World) (h : RulesAt n₀ w v l) (hn : n₀ ≤ w.heap.size) (hf : FitsRules l) (hsm : s.size ≤ 9223372036854775807) :
    Calls Try.prog 5 #[v, .string s] w fun e w' => e = .returned (.bool true) ∧ Below w.heap.size w w' := by
  have HD := hide h
  have HSz := hide (szRules_any n₀ v l 1048576 w h hn (by omega) (by omega) hf)
  obtain ⟨a, cap, rfl, -⟩ := h
  clear hf
  obtain ⟨r, hr⟩ : ∃ r : Bool, r = true ↔ SchemaP l := ⟨dec (SchemaP l), dec_iff _⟩
  have HR := hide hr
  clear hr
  obtain ⟨p, hp⟩ : ∃ p, p = kindAns r l.length s.size (kindOf l s) := ⟨_, rfl⟩
  have HP := hide hp
  clear hp
  by_cases hbig : 1048576 < s.size
  · go_enter Try.func5, Try.ntmps5
    go_wp2_with fail
    go_ret
    exact ⟨rfl, Below.refl _ _⟩
  go_enter Try.func5, Try.ntmps5
  go_wp2_with fail
  refine HSz.out.mono ?_
  rintro e w1 ⟨q, rfl, hq1, hq2, hq3, hb1⟩
  have hs1 := hb1.size
  by_cases hq : q < 0
  · clear hq3
    go_wp2_with fail
    go_ret
    exact ⟨rfl, hb1⟩
  · have HS := hide (hq3 (by omega))
    clear hq3
    have HTo : Hid (∀ wx, Below w.heap.size w wx → Calls Try.prog 14 #[.slice a l.length cap] wx fun e w' => ∃ u, e = .returned u ∧ RulesOwn wx.heap.size w'.heap.size w' u l ∧ Below wx.heap.size wx w' ∧ wx.heap.size < w'.heap.size) := fun wx hb =>
      toRules_any n₀ _ l wx (HD.out.below (Nat.le_refl _) (hb.mono hn)) (by have := hb.size; omega) HS.out
    go_wp2_with fail
    refine (HTo.out _ hb1).mono ?_
    rintro e w2 ⟨u2, rfl, ho2, hb2, -⟩
    have hs2 := hb2.size
    obtain ⟨a2, c2, rfl, hn2⟩ := ho2.at.form
    have HSp := hide (specKindOf_any w2.heap.size _ l s w2 hn2 (Nat.le_refl _) HS.out hsm r HR.out p HP.out)
    clear hn2 ho2
    go_wp2_with fail
    refine HSp.out.mono ?_
    rintro e w3 ⟨rfl, hb3⟩
    have hs3 := hb3.size
    have hb3' := hb1.trans ((hb2.trans (hb3.mono (by omega))).mono hs1)
    go_wp2_with fail
    refine (HTo.out _ hb3').mono ?_
    rintro e w4 ⟨u4, rfl, ho4, hb4, -⟩
    have hs4 := hb4.size
    have hb4' := hb3'.trans (hb4.mono (by omega))
    have HRm := hide ho4.room
    obtain ⟨a4, c4, rfl, hn4⟩ := ho4.at.form
    have HIm := hide (implKindOf_any w4.heap.size _ l s w4 hn4 HRm.out (Nat.le_refl _) HS.out hsm r HR.out p HP.out)
    have HN4 := hide hn4
    clear hn4 ho4
    go_wp2_with fail
    refine HIm.out.mono ?_
    rintro e w5 ⟨rfl, hb5⟩
    have hs5 := hb5.size
    have hb5' := hb4'.trans (hb5.mono (by omega))
    go_wp2_with fail
    refine (HTo.out _ hb5').mono ?_
    rintro e w6 ⟨u6, rfl, ho6, hb6, -⟩
    have hs6 := hb6.size
    have hb6' := hb5'.trans (hb6.mono (by omega))
    have hn6 := ho6.at
    have HEq := hide (eqRules_any w6.heap.size _ _ l w6 (HN4.out.below (by omega) (hb5.trans (hb6.mono (by omega)))) hn6 (Nat.le_refl _) HS.out)
    obtain ⟨a6, c6, rfl, -⟩ := hn6.form
    clear hn6 ho6
    go_wp2_with fail
    refine HEq.out.mono ?_
    rintro e w7 ⟨rfl, hb7⟩
    go_wp2_with fail
    go_ret
    exact ⟨rfl, hb6'.trans (hb7.mono (by omega))⟩
end Go.Proofs.Ytkfklaapoaocdaa
