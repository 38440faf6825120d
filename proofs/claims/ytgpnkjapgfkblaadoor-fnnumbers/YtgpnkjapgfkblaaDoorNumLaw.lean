/-
  The law FnNumbers's own text answers true at every two slices of bytes, where the four variables hold four sentinels at different places.
-/
import Derived.Test.YtgpnkjapgfkblaaDoorNumPlain
import Derived.Test.YtgpnkjapgfkblaaDoorPutNum
import Derived.Test.YtgpnkjapgfkblaaDoorPutTop
import Derived.Test.YtgpnkjapgfkblaaDoorTakeNumImpl
import Derived.Test.YtgpnkjapgfkblaaDoorTakeTextImpl
import Derived.Test.YtgpnkjapgfkblaaDoorSrcSome
import Derived.Test.YtgpnkjapgfkblaaDoorLawAt
namespace Go.Proofs.YtgpnkjapgfkblaaDoor
open Go.RowKit

theorem takeNum_put {h y : ByteArray} {n : Nat} (hn : n ≤ 999999) (hs : (h ++ putB n ++ y).size ≤ 65536) : takeNumAns (h ++ putB n ++ y) (h.size : Int) = (n : Int) ∧ takeNumCode (h ++ putB n ++ y) (h.size : Int) = 0 := by
  have e : takeAt (h ++ putB n ++ y) (h.size : Int) = ((n : Int), (h.size : Int) + ((putB n).size : Int), 0) := by rw [ByteArray.append_assoc]; exact takeAt_put h y n hn
  rw [takeNumAns, takeNumCode, if_pos hs, if_pos hs, e]; exact ⟨rfl, rfl⟩
theorem takeNum_form : takeNumCode ⟨#[133, 0]⟩ 0 = 3 := by
  rw [takeNumCode, if_pos (by decide), takeAt_form]
theorem textTop_put {h s y u : ByteArray} (hu : putB s.size ++ s = u) (h1 : s.size ≤ 65536) (hs : (h ++ u ++ y).size ≤ 65536) : textTop (h ++ u ++ y) (h.size : Int) = (s, (h.size : Int) + (u.size : Int), 0) := by
  rw [textTop, if_pos hs, ByteArray.append_assoc, ← hu]; exact textAt_put h s y h1
theorem textTop_few {h s u : ByteArray} {k : Nat} (hu : putB s.size ++ s = u) (h1 : s.size ≤ 16383) (hk : k < u.size) (hs : (h ++ u.extract 0 k).size ≤ 65536) : textTop (h ++ u.extract 0 k) (h.size : Int) = (⟨#[]⟩, 0, 8) := by
  subst hu
  rw [textTop, if_pos hs]; exact textAt_few h s k h1 hk

set_option maxHeartbeats 4000000 in
set_option maxRecDepth 100000 in
theorem numbers_walk {aF aR aS aM : Addr} (a0 : Option Addr) (len0 cap0 : Nat) (z0 : List Int) (a1 : Option Addr) (len1 cap1 : Nat) (z1 : List Int) (w : World) (r0 : BytesRow w a0 len0 cap0 z0) (r1 : BytesRow w a1 len1 cap1 z1) (h : Sents w aF aR aS aM)
    (hl0 : len0 ≤ 1048576) (hl1 : len1 ≤ 1048576) :
    Calls Tryd.prog 3 #[.slice a0 len0 cap0, .slice a1 len1 cap1] w fun e w' => e = .returned (.bool true) ∧ Below w.heap.size w w' := by
  have R0 : Hid (∀ wk, Below w.heap.size w wk → BytesRow wk a0 len0 cap0 z0) := fun wk hb => r0.below hb r0.lt
  have R1 : Hid (∀ wk, Below w.heap.size w wk → BytesRow wk a1 len1 cap1 z1) := fun wk hb => r1.below hb r1.lt
  have H : Hid (∀ wk, Below w.heap.size w wk → Sents wk aF aR aS aM) := fun wk hb => h.below hb
  have d0 : decide ((1048576 : Int) < (len0 : Int)) = false := by simp; omega
  have d1 : decide ((1048576 : Int) < (len1 : Int)) = false := by simp; omega
  clear r0 r1 h
  have b0 : Below w.heap.size w w := Below.refl _ _
  go_enter Tryd.func3, Tryd.ntmps3
  go_wp2_with fail
  refine (at_any a0 len0 cap0 _ _ z0 _ (R0.out _ b0) hl0 (by omega) (by omega) (by omega)).mono ?_
  rintro e w1 ⟨⟨x1, rfl, lo1, hi1⟩, hb⟩
  have b1 : Below w.heap.size w w1 := b0.trans (hb.mono b0.size)
  replace hi1 := hi1 (by omega)
  clear hb b0
  go_wp2_with fail
  refine (at_any a0 len0 cap0 _ _ z0 _ (R0.out _ b1) hl0 (by omega) (by omega) (by omega)).mono ?_
  rintro e w2 ⟨⟨x2, rfl, lo2, hi2⟩, hb⟩
  have b2 : Below w.heap.size w w2 := b1.trans (hb.mono b1.size)
  replace hi2 := hi2 (by omega)
  clear hb b1
  go_wp2_with fail
  refine (at_any a1 len1 cap1 _ _ z1 _ (R1.out _ b2) hl1 (by omega) (by omega) (by omega)).mono ?_
  rintro e w3 ⟨⟨x3, rfl, lo3, hi3⟩, hb⟩
  have b3 : Below w.heap.size w w3 := b2.trans (hb.mono b2.size)
  replace hi3 := hi3 (by omega)
  clear hb b2
  go_wp2_with fail
  refine (someText_any a1 len1 cap1 _ z1 _ (R1.out _ b3) hl1 (by omega) (by omega)).mono ?_
  rintro e w4 ⟨⟨hd, rfl, hds⟩, hb⟩
  have hdb : hd.size ≤ 8 := by omega
  have b4 : Below w.heap.size w w4 := b3.trans (hb.mono b3.size)
  clear hb b3 hds
  go_wp2_with fail
  refine (at_any a1 len1 cap1 _ _ z1 _ (R1.out _ b4) hl1 (by omega) (by omega) (by omega)).mono ?_
  rintro e w5 ⟨⟨x5, rfl, lo5, hi5⟩, hb⟩
  have b5 : Below w.heap.size w w5 := b4.trans (hb.mono b4.size)
  replace hi5 := hi5 (by omega)
  clear hb b4
  go_wp2_with fail
  refine (someText_any a0 len0 cap0 _ z0 _ (R0.out _ b5) hl0 (by omega) (by omega)).mono ?_
  rintro e w6 ⟨⟨s, rfl, ss⟩, hb⟩
  have sb : s.size ≤ 199 := by omega
  have b6 : Below w.heap.size w w6 := b5.trans (hb.mono b5.size)
  clear hb b5 ss lo3 hi3 lo5 hi5
  obtain ⟨n, hn, hnn⟩ : ∃ n : Nat, x1 * 1000 + x2 = (n : Int) ∧ n ≤ 999999 := ⟨(x1 * 1000 + x2).toNat, by omega, by omega⟩
  rw [hn]
  clear hn lo1 hi1 lo2 hi2
  go_wp2_with fail
  refine (implPutNumber_any _ _ (H.out _ b6)).mono ?_
  rw [show putNumAns (n : Int) = putB n from if_pos (by omega), show putNumCode (n : Int) = 0 from if_pos (by omega)]
  rintro e w7 ⟨rfl, hb⟩
  have b7 : Below w.heap.size w w7 := b6.trans (hb.mono b6.size)
  clear hb b6
  go_wp2_with fail
  refine (specPutNumber_any _ _).mono ?_
  rw [show putNumAns (n : Int) = putB n from if_pos (by omega), show putNumCode (n : Int) = 0 from if_pos (by omega)]
  rintro e w8 ⟨rfl, hb⟩
  have b8 : Below w.heap.size w w8 := b7.trans (hb.mono b7.size)
  clear hb b7
  have pb := putB_nine (n := n) (by omega)
  have ub := putB_nine (n := s.size) (by omega)
  go_wp2_with fail
  have sz1 : (hd ++ putB n ++ (⟨#[120]⟩ : ByteArray)).size = hd.size + (putB n).size + 1 := by rw [ByteArray.size_append, ByteArray.size_append]; rfl
  have HP : Hid (takeNumAns (hd ++ putB n ++ ⟨#[120]⟩) (hd.size : Int) = (n : Int) ∧ takeNumCode (hd ++ putB n ++ ⟨#[120]⟩) (hd.size : Int) = 0) := takeNum_put hnn (by omega)
  refine (implTakeNumber_any _ _ _ (by omega) (H.out _ b8)).mono ?_
  rw [HP.out.1, HP.out.2]
  rintro e w9 ⟨rfl, hb⟩
  have b9 : Below w.heap.size w w9 := b8.trans (hb.mono b8.size)
  clear hb b8 sz1
  go_wp2_with fail
  refine (implPutText_any s _ (by omega)).mono ?_
  rw [show putTextAns s = putB s.size ++ s from if_pos (by omega), show putTextCode s = 0 from if_pos (by omega)]
  rintro e w10 ⟨rfl, hb⟩
  have b10 : Below w.heap.size w w10 := b9.trans (hb.mono b9.size)
  clear hb b9
  go_wp2_with fail
  refine (specPutTextTop_any s _ (by omega)).mono ?_
  rw [show putTextAns s = putB s.size ++ s from if_pos (by omega), show putTextCode s = 0 from if_pos (by omega)]
  rintro e w11 ⟨rfl, hb⟩
  have b11 : Below w.heap.size w w11 := b10.trans (hb.mono b10.size)
  clear hb b10
  obtain ⟨u, hu⟩ : ∃ u, putB s.size ++ s = u := ⟨_, rfl⟩
  have us : u.size = (putB s.size).size + s.size := by rw [← hu, ByteArray.size_append]
  have u0 : 0 < u.size := by omega
  have u1 : u.size ≤ 208 := by omega
  rw [hu]
  have HU : Hid (putB s.size ++ s = u) := hu
  clear hu us
  go_wp2_with fail
  have sz2 : (hd ++ u ++ (⟨#[120]⟩ : ByteArray)).size = hd.size + u.size + 1 := by rw [ByteArray.size_append, ByteArray.size_append]; rfl
  have HQ : Hid (textTop (hd ++ u ++ ⟨#[120]⟩) (hd.size : Int) = (s, (hd.size : Int) + (u.size : Int), 0)) := textTop_put HU.out (by omega) (by omega)
  refine (implTakeText_any _ _ _ (by omega) (H.out _ b11)).mono ?_
  rw [HQ.out]
  rintro e w12 ⟨rfl, hb⟩
  have b12 : Below w.heap.size w w12 := b11.trans (hb.mono b11.size)
  clear hb b11 sz2
  go_wp2_with fail
  refine (at_any a1 len1 cap1 _ _ z1 _ (R1.out _ b12) hl1 (by omega) (by omega) (by omega)).mono ?_
  rintro e w13 ⟨⟨x13, rfl, lo13, hi13⟩, hb⟩
  have b13 : Below w.heap.size w w13 := b12.trans (hb.mono b12.size)
  replace hi13 := hi13 (by omega)
  clear hb b12
  obtain ⟨k, rfl⟩ := Int.eq_ofNat_of_zero_le lo13
  have kl : k < u.size := by omega
  go_wp2_with fail
  have sz3 : (hd ++ u.extract 0 k).size ≤ 65536 := by rw [ByteArray.size_append, size_extract0 _ _ (by omega)]; omega
  have HX : Hid (textTop (hd ++ u.extract 0 k) (hd.size : Int) = (⟨#[]⟩, 0, 8)) := textTop_few HU.out (by omega) kl sz3
  refine (implTakeText_any _ _ _ (by omega) (H.out _ b13)).mono ?_
  rw [HX.out]
  rintro e w14 ⟨rfl, hb⟩
  have b14 : Below w.heap.size w w14 := b13.trans (hb.mono b13.size)
  clear hb b13 sz3
  go_wp2_with fail
  refine (implTakeNumber_any _ _ _ (by decide) (H.out _ b14)).mono ?_
  rw [takeNum_form]
  rintro e w15 ⟨rfl, hb⟩
  have b15 : Below w.heap.size w w15 := b14.trans (hb.mono b14.size)
  clear hb b14
  generalize takeNumAns ⟨#[133, 0]⟩ 0 = y15 at *
  go_wp2_with fail
  refine (implPutNumber_any _ _ (H.out _ b15)).mono ?_
  rw [show putNumCode (1000000 + (n : Int)) = 4 from if_neg (by omega)]
  rintro e w16 ⟨rfl, hb⟩
  have b16 : Below w.heap.size w w16 := b15.trans (hb.mono b15.size)
  clear hb b15
  generalize putNumAns (1000000 + (n : Int)) = y16 at *
  have es : (s.toList == s.toList) = true := by simp
  have eu : (u.toList == u.toList) = true := by simp
  have ep : ((putB n).toList == (putB n).toList) = true := by simp
  go_wp2
  go_ret
  exact ⟨rfl, b16⟩

set_option maxRecDepth 100000 in
theorem numbersLaw_any {aF aR aS aM : Addr} (a0 : Option Addr) (len0 cap0 : Nat) (z0 : List Int) (a1 : Option Addr) (len1 cap1 : Nat) (z1 : List Int) (w : World) (r0 : BytesRow w a0 len0 cap0 z0) (r1 : BytesRow w a1 len1 cap1 z1) (h : Sents w aF aR aS aM) :
    Calls Tryd.prog 3 #[.slice a0 len0 cap0, .slice a1 len1 cap1] w fun e w' => e = .returned (.bool true) ∧ Below w.heap.size w w' := by
  have m0 : len0 ≤ 9223372036854775807 := by
    rcases r0 with ⟨_, h0, _⟩ | ⟨_, _, h1, h2, _⟩
    · omega
    · unfold maxLen at h2; omega
  have m1 : len1 ≤ 9223372036854775807 := by
    rcases r1 with ⟨_, h0, _⟩ | ⟨_, _, h1, h2, _⟩
    · omega
    · unfold maxLen at h2; omega
  by_cases hl0 : len0 ≤ 1048576
  · by_cases hl1 : len1 ≤ 1048576
    · exact numbers_walk a0 len0 cap0 z0 a1 len1 cap1 z1 w r0 r1 h hl0 hl1
    · have d0 : decide ((1048576 : Int) < (len0 : Int)) = false := by simp; omega
      clear r0 r1 h
      go_enter Tryd.func3, Tryd.ntmps3
      go_wp2
      go_ret
      exact ⟨rfl, Below.refl _ _⟩
  · clear r0 r1 h
    go_enter Tryd.func3, Tryd.ntmps3
    go_wp2
    go_ret
    exact ⟨rfl, Below.refl _ _⟩
end Go.Proofs.YtgpnkjapgfkblaaDoor
