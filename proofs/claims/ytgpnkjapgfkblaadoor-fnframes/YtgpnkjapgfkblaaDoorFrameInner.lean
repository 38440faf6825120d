/-
  What the functions of frames answer, the program's and the specification's: the letters CO, the length's bytes, the text, and the sum of all that is ahead in two bytes. They make new memory alone.
-/
import Derived.Test.YtgpnkjapgfkblaaDoorPutInner
import Derived.Test.YtgpnkjapgfkblaaDoorSumText
namespace Go.Proofs.YtgpnkjapgfkblaaDoor
open Go.RowKit

/-- What stands ahead of a frame's sum. -/
def headB (s : ByteArray) : ByteArray := ⟨#[67, 79]⟩ ++ (putB s.size ++ s)

theorem headB_size (s : ByteArray) (hs : s.size ≤ 1048576) : s.size + 3 ≤ (headB s).size ∧ (headB s).size ≤ s.size + 11 := by
  have h := putB_nine (n := s.size) (by omega)
  have e : (⟨#[67, 79]⟩ : ByteArray).size = 2 := rfl
  rw [headB, ByteArray.size_append, ByteArray.size_append, e]
  omega

theorem specFrame_any (s : ByteArray) (w : World) (hs : s.size ≤ 1048576) :
    Calls Tryd.prog 33 #[.string s] w fun e w' => e = .returned (.string (headB s ++ sumB (headB s))) ∧ Below w.heap.size w w' := by
  have hsz := headB_size s hs
  have hb := sumL_bound (headB s).data.toList
  have hn := putB_nine (n := s.size) (by omega)
  have HH : Hid (⟨#[67, 79]⟩ ++ (putB s.size ++ s) = headB s) := rfl
  go_enter Tryd.func33, Tryd.ntmps33
  go_wp2_with fail
  refine (specPutText_any s _ hs).mono ?_
  rintro e w1 ⟨rfl, hb1⟩
  go_wp2_with fail
  rw [HH.out]
  refine (specSum_any _ _ (by unfold maxLen; omega)).mono ?_
  rintro e w2 ⟨rfl, rfl⟩
  have hcv := pair_text w2 (sumL (headB s).data.toList % 256) (sumL (headB s).data.toList / 256) (by omega) (by omega) (by omega) (by omega)
  go_wp2
  go_ret
  exact ⟨rfl, hb1.alloc hb1.size _⟩
end Go.Proofs.YtgpnkjapgfkblaaDoor
