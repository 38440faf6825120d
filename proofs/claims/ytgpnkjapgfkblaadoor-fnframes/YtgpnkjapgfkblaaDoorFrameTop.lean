/-
  What FrameText answers, the program's and the specification's: a frame; of more than 65536 bytes the code for too long, of more than 65520 the code for another length. They make new memory alone.
-/
import Derived.Test.YtgpnkjapgfkblaaDoorFrameInner
namespace Go.Proofs.YtgpnkjapgfkblaaDoor
open Go.RowKit

/-- The text that FrameText answers. -/
def frameAns (s : ByteArray) : ByteArray := if s.size ≤ 65520 then headB s ++ sumB (headB s) else ⟨#[]⟩
/-- The code that FrameText answers. -/
def frameCode (s : ByteArray) : Int := if s.size ≤ 65520 then 0 else if s.size ≤ 65536 then 8 else 2

theorem implFrame_any (s : ByteArray) (w : World) (hs : s.size ≤ 1048576) :
    Calls Tryd.prog 13 #[.string s] w fun e w' => e = .returned (.tuple #[.string (frameAns s), .int .i64 (frameCode s)]) ∧ Below w.heap.size w w' := by
  by_cases h : s.size ≤ 65520
  · have HA : Hid (frameAns s = headB s ++ sumB (headB s) ∧ frameCode s = 0) := ⟨if_pos h, if_pos h⟩
    have hsz := headB_size s hs
    have hs2 : (sumB (headB s)).size = 2 := rfl
    have hn := putB_nine (n := s.size) (by omega)
    have HH : Hid (⟨#[67, 79]⟩ ++ (putB s.size ++ s) = headB s) := rfl
    go_enter Tryd.func13, Tryd.ntmps13
    go_wp2_with fail
    refine (putText_any s _ hs).mono ?_
    rintro e w1 ⟨rfl, hb1⟩
    go_wp2_with fail
    rw [HH.out]
    refine (sumText_any _ _ (by unfold maxLen; omega)).mono ?_
    rintro e w2 ⟨rfl, hb2⟩
    go_wp2
    go_ret2
    exact ⟨by rw [HA.out.1, HA.out.2]; rfl, hb1.trans (hb2.mono hb1.size)⟩
  · by_cases h2 : s.size ≤ 65536
    · have HA : Hid (frameAns s = ⟨#[]⟩ ∧ frameCode s = 8) := ⟨if_neg h, by rw [frameCode, if_neg h, if_pos h2]⟩
      go_enter Tryd.func13, Tryd.ntmps13
      go_wp2
      go_ret2
      exact ⟨by rw [HA.out.1, HA.out.2]; rfl, Below.refl _ _⟩
    · have HA : Hid (frameAns s = ⟨#[]⟩ ∧ frameCode s = 2) := ⟨if_neg h, by rw [frameCode, if_neg h, if_neg h2]⟩
      go_enter Tryd.func13, Tryd.ntmps13
      go_wp2
      go_ret2
      exact ⟨by rw [HA.out.1, HA.out.2]; rfl, Below.refl _ _⟩

theorem specFrameText_any (s : ByteArray) (w : World) (hs : s.size ≤ 1048576) :
    Calls Tryd.prog 14 #[.string s] w fun e w' => e = .returned (.tuple #[.string (frameAns s), .int .i64 (frameCode s)]) ∧ Below w.heap.size w w' := by
  by_cases h : s.size ≤ 65520
  · have HA : Hid (frameAns s = headB s ++ sumB (headB s) ∧ frameCode s = 0) := ⟨if_pos h, if_pos h⟩
    go_enter Tryd.func14, Tryd.ntmps14
    go_wp2_with fail
    refine (specFrame_any s _ hs).mono ?_
    rintro e w1 ⟨rfl, hb1⟩
    go_wp2
    go_ret2
    exact ⟨by rw [HA.out.1, HA.out.2]; rfl, hb1⟩
  · by_cases h2 : s.size ≤ 65536
    · have HA : Hid (frameAns s = ⟨#[]⟩ ∧ frameCode s = 8) := ⟨if_neg h, by rw [frameCode, if_neg h, if_pos h2]⟩
      go_enter Tryd.func14, Tryd.ntmps14
      go_wp2
      go_ret2
      exact ⟨by rw [HA.out.1, HA.out.2]; rfl, Below.refl _ _⟩
    · have HA : Hid (frameAns s = ⟨#[]⟩ ∧ frameCode s = 2) := ⟨if_neg h, by rw [frameCode, if_neg h, if_neg h2]⟩
      go_enter Tryd.func14, Tryd.ntmps14
      go_wp2
      go_ret2
      exact ⟨by rw [HA.out.1, HA.out.2]; rfl, Below.refl _ _⟩
end Go.Proofs.YtgpnkjapgfkblaaDoor
