/-
  The law on EditText answers true at every edit that a program can hold.
-/
import Derived.Test.YtpkblnponeonkaaDoorEditTextTop
import Derived.Test.YtpkblnponeonkaaDoorLawInts
namespace Go.Proofs.YtpkblnponeonkaaDoor
open Go.RowKit

set_option maxHeartbeats 1000000 in
theorem implEditText_any (x : PEdit) (w : World) (hE : EditAt w) (hP : PowAt w) (hl : x.text.size ≤ 1048576) :
    Calls Tryd.prog 12 #[editVal x] w fun e w' => e = .returned (.tuple #[.string (textAns x), .int .i64 (textCode x)]) ∧ Below w.heap.size w w' := by
  cases hb : editB x with
  | true =>
    have HA : textAns x = editT x := by unfold textAns; rw [if_pos hb]
    have HC : textCode x = 0 := by unfold textCode; rw [if_pos hb]
    rw [HA, HC]
    exact implText_any x w hb hE hP
  | false =>
    have HA : Hid (textAns x = ⟨#[]⟩) := by unfold Hid textAns; rw [if_neg (by simp [hb])]
    have HC : Hid (textCode x = 1) := by unfold Hid textCode; rw [if_neg (by simp [hb])]
    have hW := (Below.refl w.heap.size w).alloc (Nat.le_refl _) (.cells #[.int .i64 x.kind, .int .i64 x.node, .int .i64 x.a, .int .i64 x.b, .string x.text] 26)
    have HOK := hide (implEditOK_any x (w.alloc (.cells #[.int .i64 x.kind, .int .i64 x.node, .int .i64 x.a, .int .i64 x.b, .string x.text] 26)) (hE.below hW) hl)
    rw [hb] at HOK
    rw [HA.out, HC.out]
    clear hb
    go_enter Tryd.func12, Tryd.ntmps12
    go_wp2_with (go_at_call 10; refine HOK.out.mono ?_; rintro e w1 ⟨rfl, hb1⟩)
    go_ret2
    exact ⟨rfl, hW.trans (hb1.mono (by simp))⟩

set_option maxHeartbeats 1000000 in
set_option maxRecDepth 100000 in
theorem editTextLaw (x : PEdit) (w : World) (hA : EditAt w) (hP : PowAt w) (hf : x.text.size ≤ 9223372036854775807) :
    Calls Tryd.prog 4 #[editVal x] w fun e w' => e = .returned (.bool true) ∧ Below w.heap.size w w' := by
  obtain ⟨k, n, a, b, t⟩ := x
  have hW := (Below.refl w.heap.size w).alloc (Nat.le_refl _) (.cells #[.int .i64 k, .int .i64 n, .int .i64 a, .int .i64 b, .string t] 23)
  have HSz := hide (szEdit_any ⟨k, n, a, b, t⟩ 1048576 (w.alloc (.cells #[.int .i64 k, .int .i64 n, .int .i64 a, .int .i64 b, .string t] 23)) (by omega) (by omega) hf)
  go_enter Tryd.func4, Tryd.ntmps4
  go_wp2_with fail
  refine HSz.out.mono ?_
  rintro e w1 ⟨q, rfl, hq1, hq2, hq3, hb1⟩
  simp only [World.size_alloc] at hb1
  have hs1 := hb1.size
  simp only [World.size_alloc] at hs1
  by_cases hq : q < 0
  · clear hq3
    go_wp2_with fail
    go_ret
    exact ⟨rfl, hW.trans (hb1.mono (by omega))⟩
  · have hS := hq3 (by omega)
    clear hq3
    obtain ⟨hcx, hfx⟩ := bcell (W := w.alloc _) (by simpa using hb1)
    go_wp2_with fail
    refine (toEdit_any ⟨k, n, a, b, t⟩ w1).mono ?_
    rintro e w2 ⟨rfl, hb2⟩
    have hs2 := hb2.size
    have HSp := hide (specEditText_any ⟨k, n, a, b, t⟩ w2 hS)
    have HIm : Hid (∀ wx, Below w.heap.size w wx → Calls Tryd.prog 12 #[editVal ⟨k, n, a, b, t⟩] wx fun e w' => e = .returned (.tuple #[.string (textAns ⟨k, n, a, b, t⟩), .int .i64 (textCode ⟨k, n, a, b, t⟩)]) ∧ Below wx.heap.size wx w') := fun wx hb =>
      implEditText_any ⟨k, n, a, b, t⟩ wx (hA.below hb) (hP.below hb) hS
    generalize textAns ⟨k, n, a, b, t⟩ = s at *
    generalize textCode ⟨k, n, a, b, t⟩ = c at *
    go_wp2_with fail
    refine HSp.out.mono ?_
    rintro e w3 ⟨rfl, hb3⟩
    have hs3 := hb3.size
    have hb3' := hb1.trans ((hb2.mono hs1).trans (hb3.mono (by omega)))
    clear hcx hfx
    obtain ⟨hcx, hfx⟩ := bcell (W := w.alloc _) (by simpa using hb3')
    go_wp2_with fail
    refine (toEdit_any ⟨k, n, a, b, t⟩ w3).mono ?_
    rintro e w4 ⟨rfl, hb4⟩
    have hs4 := hb4.size
    have hb4' := hb3'.trans (hb4.mono (by omega))
    have hw4 := hW.trans (hb4'.mono (by omega))
    have e1 : (s.toList == s.toList) = true := by simp
    have e2 : (c != c) = false := by simp
    go_wp2_with fail
    refine (HIm.out w4 hw4).mono ?_
    rintro e w5 ⟨rfl, hb5⟩
    have hs5 := hb5.size
    have hb5' := hW.trans ((hb4'.trans (hb5.mono (by omega))).mono (by omega))
    clear hcx hfx
    go_wp2_with fail
    go_ret
    exact ⟨rfl, hb5'⟩
end Go.Proofs.YtpkblnponeonkaaDoor
