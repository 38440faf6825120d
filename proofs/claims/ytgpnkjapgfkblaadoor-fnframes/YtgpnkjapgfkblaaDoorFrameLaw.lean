/-
  The law FnFrames's own text answers true at every two slices of bytes, where the four variables hold four sentinels at different places.
-/
import Derived.Test.YtgpnkjapgfkblaaDoorFrameStep
import Derived.Deep.DeepCutAuto
import Derived.Deep.RegionWith
namespace Go.Proofs.YtgpnkjapgfkblaaDoor
open Go.RowKit

set_option maxHeartbeats 4000000 in
set_option maxRecDepth 100000 in
theorem frames_walk {aF aR aS aM : Addr} (a0 : Option Addr) (len0 cap0 : Nat) (z0 : List Int) (a1 : Option Addr) (len1 cap1 : Nat) (z1 : List Int) (w : World) (r0 : BytesRow w a0 len0 cap0 z0) (r1 : BytesRow w a1 len1 cap1 z1) (h : Sents w aF aR aS aM)
    (hl0 : len0 ≤ 1048576) (hl1 : len1 ≤ 1048576) :
    Calls Tryd.prog 4 #[.slice a0 len0 cap0, .slice a1 len1 cap1] w fun e w' => e = .returned (.bool true) ∧ Below w.heap.size w w' := by
  have R0 : Hid (∀ wk, Below w.heap.size w wk → BytesRow wk a0 len0 cap0 z0) := fun wk hb => r0.below hb r0.lt
  have R1 : Hid (∀ wk, Below w.heap.size w wk → BytesRow wk a1 len1 cap1 z1) := fun wk hb => r1.below hb r1.lt
  have H : Hid (∀ wk, Below w.heap.size w wk → Sents wk aF aR aS aM) := fun wk hb => h.below hb
  have d0 : decide ((1048576 : Int) < (len0 : Int)) = false := by simp; omega
  have d1 : decide ((1048576 : Int) < (len1 : Int)) = false := by simp; omega
  clear r0 r1 h
  have b0 : Below w.heap.size w w := Below.refl _ _
  go_enter Tryd.func4, Tryd.ntmps4
  go_wp2_with fail
  refine (at_any a1 len1 cap1 _ _ z1 _ (R1.out _ b0) hl1 (by omega) (by omega) (by omega)).mono ?_
  rintro e w1 ⟨⟨x1, rfl, lo1, hi1⟩, hb⟩
  have b1 : Below w.heap.size w w1 := b0.trans (hb.mono b0.size)
  replace hi1 := hi1 (by omega)
  clear hb b0
  go_wp2_with fail
  refine (someText_any a0 len0 cap0 _ z0 _ (R0.out _ b1) hl0 (by omega) (by omega)).mono ?_
  rintro e w2 ⟨⟨s, rfl, ss⟩, hb⟩
  have s1 : 1 ≤ s.size := by omega
  have s2 : s.size ≤ 60 := by omega
  have b2 : Below w.heap.size w w2 := b1.trans (hb.mono b1.size)
  clear hb b1 ss lo1 hi1
  obtain ⟨t, ht⟩ : ∃ t, headB s ++ sumB (headB s) = t := ⟨_, rfl⟩
  have ts : t.size = s.size + 5 := by rw [← ht]; exact frame_len s2
  have t5 : s.size + 5 ≤ t.size := by omega
  have t6 : t.size ≤ s.size + 5 := by omega
  have HT : Hid (headB s ++ sumB (headB s) = t) := ht
  clear ht ts
  go_wp2_with fail
  refine (implFrame_any s _ (by omega)).mono ?_
  rw [(frameAns_small s2).1, (frameAns_small s2).2, HT.out]
  rintro e w3 ⟨rfl, hb⟩
  have b3 : Below w.heap.size w w3 := b2.trans (hb.mono b2.size)
  clear hb b2
  go_wp2_with fail
  refine (specFrameText_any s _ (by omega)).mono ?_
  rw [(frameAns_small s2).1, (frameAns_small s2).2, HT.out]
  rintro e w4 ⟨rfl, hb⟩
  have b4 : Below w.heap.size w w4 := b3.trans (hb.mono b3.size)
  clear hb b3
  go_wp2_with fail
  refine (implReadFrame_any t _ (by omega) (H.out _ b4)).mono ?_
  rw [show readTop t = (s, 0) by rw [← HT.out]; exact readTop_frame s2]
  rintro e w5 ⟨rfl, hb⟩
  have b5 : Below w.heap.size w w5 := b4.trans (hb.mono b4.size)
  clear hb b4
  have es : (s.toList == s.toList) = true := by simp
  have et : (t.toList == t.toList) = true := by simp
  have g5 : decide ((t.size : Int) < 5 + (s.size : Int)) = false := by simp; omega
  go_wp2_with fail
  refine (at_any a1 len1 cap1 _ _ z1 _ (R1.out _ b5) hl1 (by omega) (by omega) (by omega)).mono ?_
  rintro e w6 ⟨⟨x6, rfl, lo6, hi6⟩, hb⟩
  have b6 : Below w.heap.size w w6 := b5.trans (hb.mono b5.size)
  replace hi6 := hi6 (by omega)
  clear hb b5
  obtain ⟨j, rfl⟩ := Int.eq_ofNat_of_zero_le lo6
  have jl : j < s.size := by omega
  have jt : 3 + j < t.size := by omega
  have j3 : ((3 : Int) + (j : Int)).toNat < t.size := by omega
  clear lo6 hi6
  go_wp2_with fail
  go_cut [13, 14] (fun v13 v14 wc => v13 = .string ⟨#[]⟩ ∧ v14 = .int .i64 9 ∧ Below w.heap.size w wc)
  case first =>
    have p0 : (0 : Int) ≤ 3 + (j : Int) := by omega
    have p1 : (3 : Int) + (j : Int) < (t.size : Int) := by omega
    have p2 : (3 : Int) + (j : Int) ≤ (t.size : Int) := by omega
    have p3 : (0 : Int) ≤ 3 + (j : Int) + 1 := by omega
    have p4 : (3 : Int) + (j : Int) + 1 ≤ (t.size : Int) := by omega
    clear R0 d0 d1 es et g5 s1 hl0
    have p5 : IntKind.i64.wrap (3 + (j : Int) + 1) = 3 + (j : Int) + 1 := by rw [IntKind.wrap_i64]; omega
    go_region_with (first
      | (go_at_call 5; refine (atOther_from (t[3 + j]'jt) a1 len1 cap1 z1 _ R1 hl1 ?_).mono ?_; (exact b6.drew); rintro e w7 ⟨⟨x7, c, rfl, lo7, hi7, hx, hc, hne⟩, b7⟩; obtain ⟨hc1, hc2, hc3, hc4, hc5, hc6, hd1, hd2, hd3, hd4, hd5, hd6, hd7, hw1, hw2⟩ := other_text w7 t j jt j3 x7 c lo7 hi7 hx hc; clear hx)
      | (go_at_call 15; go_must (refine (changed_from s t j c _ H s2 jl hc HT.out jt hne _ _ _ _ ?_ ?_ ?_ ?_ ?_).mono ?_); (exact below_more b7 _); rfl; omega; omega; omega; rintro e w8 ⟨rfl, b8⟩))
    all_goals (go_wp2_with fail; go_meet; exact ⟨rfl, rfl, by assumption⟩)
  case rest =>
    obtain ⟨rfl, rfl, b9⟩ := hcut
    clear b6
    go_wp2_with fail
    refine (at_any a1 len1 cap1 _ _ z1 _ (R1.out _ b9) hl1 (by omega) (by omega) (by omega)).mono ?_
    rintro e w10 ⟨⟨x10, rfl, lo10, hi10⟩, hb⟩
    have b10 : Below w.heap.size w w10 := b9.trans (hb.mono b9.size)
    replace hi10 := hi10 (by omega)
    clear hb b9
    obtain ⟨k, rfl⟩ := Int.eq_ofNat_of_zero_le lo10
    have kl : k < t.size := by omega
    clear lo10 hi10
    go_wp2_with fail
    refine (fewer_from s t k _ H s2 HT.out kl b10).mono ?_
    rintro e w11 ⟨⟨y11, q, rfl, hq⟩, b11⟩
    have HQ : Hid (q = 8 ∨ q = 3) := hq
    clear hq b10
    go_wp2_with fail
    refine (more_from s t _ H s2 HT.out b11).mono ?_
    rintro e w12 ⟨⟨y12, rfl⟩, b12⟩
    clear b11
    go_wp2_with fail
    refine (hexOf_from s _ s2 b12).mono ?_
    rintro e w13 ⟨rfl, b13⟩
    clear b12
    obtain ⟨x, hx⟩ : ∃ x, hexB s = x := ⟨_, rfl⟩
    have HX : Hid (hexB s = x) := hx
    have xs : x.size ≤ 120 := by rw [← hx, hexB_size]; omega
    rw [hx]
    clear hx
    go_wp2_with fail
    refine (back_from s x _ H s2 HX.out b13).mono ?_
    rintro e w14 ⟨rfl, b14⟩
    clear b13
    go_wp2_with fail
    refine (odd_from s x _ H s2 HX.out b14).mono ?_
    rintro e w15 ⟨⟨y15, rfl⟩, b15⟩
    clear b14
    have ex : (x.toList == x.toList) = true := by simp
    have ms : s.size ≤ maxLen := by unfold maxLen; omega
    obtain ⟨m, hm⟩ : ∃ m, sumAns s = m := ⟨_, rfl⟩
    have HM : Hid (sumAns s = m) := hm
    clear hm
    obtain rfl | rfl := HQ.out
    all_goals go_wp2_with (first
      | (go_at_call 18; refine (implSumOf_any s _ ms).mono ?_; rw [HM.out]; rintro e w16 ⟨rfl, rfl⟩)
      | (go_at_call 19; refine (specSumOf_any s _ ms).mono ?_; rw [HM.out]; rintro e w17 ⟨rfl, rfl⟩)
      | (go_at_call 20; refine (hexSpec_from s _ s2 b15).mono ?_; rw [HX.out]; rintro e w18 ⟨rfl, b18⟩))
    all_goals (go_ret; exact ⟨rfl, by assumption⟩)

set_option maxRecDepth 100000 in
theorem framesLaw_any {aF aR aS aM : Addr} (a0 : Option Addr) (len0 cap0 : Nat) (z0 : List Int) (a1 : Option Addr) (len1 cap1 : Nat) (z1 : List Int) (w : World) (r0 : BytesRow w a0 len0 cap0 z0) (r1 : BytesRow w a1 len1 cap1 z1) (h : Sents w aF aR aS aM) :
    Calls Tryd.prog 4 #[.slice a0 len0 cap0, .slice a1 len1 cap1] w fun e w' => e = .returned (.bool true) ∧ Below w.heap.size w w' := by
  have m0 : len0 ≤ 9223372036854775807 := by
    rcases r0 with ⟨_, h0, _⟩ | ⟨_, _, h1, h2, _⟩
    · omega
    · unfold maxLen at h2; omega
  have m1 : len1 ≤ 9223372036854775807 := by
    rcases r1 with ⟨_, h0, _⟩ | ⟨_, _, h1, h2, _⟩
    · omega
    · unfold maxLen at h2; omega
  by_cases hl0 : len0 ≤ 1048576
  · by_cases hl1 : len1 ≤ 1048576
    · exact frames_walk a0 len0 cap0 z0 a1 len1 cap1 z1 w r0 r1 h hl0 hl1
    · have d0 : decide ((1048576 : Int) < (len0 : Int)) = false := by simp; omega
      clear r0 r1 h
      go_enter Tryd.func4, Tryd.ntmps4
      go_wp2
      go_ret
      exact ⟨rfl, Below.refl _ _⟩
  · clear r0 r1 h
    go_enter Tryd.func4, Tryd.ntmps4
    go_wp2
    go_ret
    exact ⟨rfl, Below.refl _ _⟩
end Go.Proofs.YtgpnkjapgfkblaaDoor
