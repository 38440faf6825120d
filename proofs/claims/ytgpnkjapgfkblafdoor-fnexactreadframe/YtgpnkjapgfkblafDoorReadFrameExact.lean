/-
  The law FnExactReadFrame's own text answers true at every text, where the four variables hold four sentinels at different places.
-/
import Derived.Test.YtgpnkjapgfkblafDoorReadFrameTop
namespace Go.Proofs.YtgpnkjapgfkblafDoor
open Go.RowKit

theorem readFrameLaw_any {aF aR aS aM : Addr} (s : ByteArray) (w : World) (hs : s.size ≤ maxLen) (h : Sents w aF aR aS aM) :
    Calls Tryd.prog 3 #[.string s] w fun e w' => e = .returned (.bool true) ∧ Below w.heap.size w w' := by
  have H : Hid (Sents w aF aR aS aM) := h
  clear h
  unfold maxLen at hs
  by_cases hlt : 1048576 < s.size
  · go_enter Tryd.func3, Tryd.ntmps3
    go_wp2
    go_ret
    exact ⟨rfl, Below.refl _ _⟩
  · go_enter Tryd.func3, Tryd.ntmps3
    go_wp2_with fail
    refine (specReadFrameTop_any s _ (by omega)).mono ?_
    rintro e w1 ⟨rfl, hb1⟩
    go_wp2_with fail
    refine (implReadFrame_any s _ (by omega) (H.out.below hb1)).mono ?_
    rintro e w2 ⟨rfl, hb2⟩
    have hb := hb1.trans (hb2.mono hb1.size)
    clear hb1 hb2
    go_wp2
    go_ret
    exact ⟨rfl, hb⟩
end Go.Proofs.YtgpnkjapgfkblafDoor
