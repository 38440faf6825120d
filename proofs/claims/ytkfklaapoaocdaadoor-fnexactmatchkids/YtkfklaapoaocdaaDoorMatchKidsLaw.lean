/-
  The law on MatchKids answers true at every list of terms and of kids that a program can hold.
-/
import Derived.Test.YtkfklaapoaocdaaDoorMatchKids
import Derived.Test.YtkfklaapoaocdaaDoorLawRoom
namespace Go.Proofs.YtkfklaapoaocdaaDoor
open Go.RowKit

set_option maxHeartbeats 1000000 in
set_option maxRecDepth 100000 in
theorem matchKidsLaw (n₀ : Nat) (v kv : Value) (l : List PTerm) (ks : List Int) (w : World) (h : TermsAt n₀ w v l) (hk : IntsAt n₀ w kv ks) (hn : n₀ ≤ w.heap.size) (hf : FitsTerms l) (hkf : ks.length ≤ 9223372036854775807) (hA : AmtAt w) :
    Calls Tryd.prog 3 #[v, kv] w fun e w' => e = .returned (.bool true) ∧ Below w.heap.size w w' := by
  have HD := hide h
  have HKD := hide hk
  have HAm := hide hA
  have HSz := hide (szTerms_any n₀ v l 1048576 w h hn (by omega) (by omega) hf)
  obtain ⟨a, cap, rfl, -⟩ := h
  obtain ⟨ak, ck, rfl, -⟩ := hk
  clear hf hA
  obtain ⟨tb, htb⟩ : ∃ tb : Bool, tb = true ↔ TermsP 8 l := ⟨dec _, dec_iff _⟩
  obtain ⟨mb, hmb⟩ : ∃ mb : Bool, mb = true ↔ MatchP l ks := ⟨dec _, dec_iff _⟩
  have HTB := hide htb
  have HMB := hide hmb
  obtain ⟨p, hp⟩ : ∃ p, p = matchAns tb mb l.length ks.length := ⟨_, rfl⟩
  have HP := hide hp
  clear htb hmb hp
  by_cases hbig : 1048576 < ks.length
  · go_enter Tryd.func3, Tryd.ntmps3
    go_wp2_with fail
    go_ret
    exact ⟨rfl, Below.refl _ _⟩
  go_enter Tryd.func3, Tryd.ntmps3
  go_wp2_with fail
  refine HSz.out.mono ?_
  rintro e w1 ⟨q, rfl, hq1, hq2, hq3, hb1⟩
  have hs1 := hb1.size
  by_cases hq : q < 0
  · clear hq3
    go_wp2_with fail
    go_ret
    exact ⟨rfl, hb1⟩
  · have HS := hide (hq3 (by omega))
    clear hq3
    have HTo : Hid (∀ wx, Below w.heap.size w wx → Calls Tryd.prog 10 #[.slice a l.length cap] wx fun e w' => ∃ u, e = .returned u ∧ TermsOwn wx.heap.size w'.heap.size w' u l ∧ Below wx.heap.size wx w' ∧ wx.heap.size < w'.heap.size) := fun wx hb =>
      toTerms_any n₀ _ l wx (HD.out.below (Nat.le_refl _) (hb.mono hn)) (by have := hb.size; omega) HS.out.len HS.out.kinds
    have HToK : Hid (∀ wx, Below w.heap.size w wx → Calls Tryd.prog 11 #[.slice ak ks.length ck] wx fun e w' => ∃ u, e = .returned u ∧ (IntsOwn wx.heap.size w'.heap.size w' u ks ∧ Roomy u ks.length) ∧ Below wx.heap.size wx w' ∧ wx.heap.size < w'.heap.size) := fun wx hb =>
      toIntsRoom_any n₀ _ ks wx (HKD.out.below (Nat.le_refl _) (hb.mono hn)) (by have := hb.size; omega) (by omega)
    go_wp2_with fail
    refine (HTo.out _ hb1).mono ?_
    rintro e w2 ⟨u2, rfl, ho2, hb2, -⟩
    have hs2 := hb2.size
    have hb2' := hb1.trans (hb2.mono (by omega))
    have hr2 := ho2.room
    have ht2 := ho2.at
    obtain ⟨a2, c2, rfl, -⟩ := ho2.at.form
    have HR2 := hide hr2
    have HT2 := hide ht2
    clear ho2 hr2 ht2
    go_wp2_with fail
    refine (HToK.out _ hb2').mono ?_
    rintro e w3 ⟨u3, rfl, ⟨ho3, hr3⟩, hb3, -⟩
    have hs3 := hb3.size
    have hb3' := hb2'.trans (hb3.mono (by omega))
    have HSp := hide (specMatchKids_any w3.heap.size _ u3 l ks w3 (HT2.out.below hs3 hb3) HR2.out ho3.at hr3 (Nat.le_refl _) HS.out (by omega) tb mb HTB.out HMB.out p HP.out)
    obtain ⟨a3, c3, rfl, -⟩ := ho3.at.form
    clear ho3 hr3
    go_wp2_with fail
    refine HSp.out.mono ?_
    rintro e w4 ⟨rfl, hb4⟩
    have hs4 := hb4.size
    have hb4' := hb3'.trans (hb4.mono (by omega))
    clear HSp HT2 HR2
    go_wp2_with fail
    refine (HTo.out _ hb4').mono ?_
    rintro e w5 ⟨u5, rfl, ho5, hb5, -⟩
    have hs5 := hb5.size
    have hb5' := hb4'.trans (hb5.mono (by omega))
    have HR5 := hide ho5.room
    have HT5 := hide ho5.at
    obtain ⟨a5, c5, rfl, -⟩ := ho5.at.form
    clear ho5
    go_wp2_with fail
    refine (HToK.out _ hb5').mono ?_
    rintro e w6 ⟨u6, rfl, ⟨ho6, hr6⟩, hb6, -⟩
    have hs6 := hb6.size
    have hb6' := hb5'.trans (hb6.mono (by omega))
    have HK6 := hide ho6.at
    have HIm := hide (implMatchKids_any w6.heap.size _ u6 l ks w6 (HT5.out.below hs6 hb6) HR5.out ho6.at hr6 (Nat.le_refl _) HS.out (by omega) (HAm.out.below hb6') tb mb HTB.out HMB.out p HP.out)
    obtain ⟨a6, c6, rfl, -⟩ := ho6.at.form
    clear ho6 hr6
    go_wp2_with fail
    refine HIm.out.mono ?_
    rintro e w7 ⟨rfl, hb7⟩
    have hs7 := hb7.size
    have hb7' := hb6'.trans (hb7.mono (by omega))
    clear HIm HR5
    go_wp2_with fail
    refine (HTo.out _ hb7').mono ?_
    rintro e w8 ⟨u8, rfl, ho8, hb8, -⟩
    have hs8 := hb8.size
    have hb8' := hb7'.trans (hb8.mono (by omega))
    have hn8 := ho8.at
    have HEq := hide (eqTerms_any w8.heap.size _ _ l w8 (HT5.out.below (by omega) (hb6.trans ((hb7.mono (by omega)).trans (hb8.mono (by omega))))) hn8 (Nat.le_refl _) HS.out.len HS.out.kinds)
    obtain ⟨a8, c8, rfl, -⟩ := hn8.form
    clear hn8 ho8
    go_wp2_with fail
    refine HEq.out.mono ?_
    rintro e w9 ⟨rfl, hb9⟩
    have hs9 := hb9.size
    have hb9' := hb8'.trans (hb9.mono (by omega))
    clear HEq
    go_wp2_with fail
    refine (HToK.out _ hb9').mono ?_
    rintro e w10 ⟨u10, rfl, ⟨ho10, -⟩, hb10, -⟩
    have hs10 := hb10.size
    have hb10' := hb9'.trans (hb10.mono (by omega))
    have hn10 := ho10.at
    have HEq := hide (eqInts_any w10.heap.size _ _ ks w10 (HK6.out.below (by omega) (hb7.trans ((hb8.mono (by omega)).trans ((hb9.mono (by omega)).trans (hb10.mono (by omega)))))) hn10 (by omega))
    obtain ⟨a10, c10, rfl, -⟩ := hn10.form
    clear hn10 ho10
    go_wp2_with fail
    refine HEq.out.mono ?_
    rintro e w11 ⟨rfl, hb11⟩
    go_wp2_with fail
    go_ret
    exact ⟨rfl, hb10'.trans (hb11.mono (by omega))⟩
end Go.Proofs.YtkfklaapoaocdaaDoor
