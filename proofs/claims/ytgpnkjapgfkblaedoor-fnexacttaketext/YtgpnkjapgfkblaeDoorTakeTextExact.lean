/-
  The law FnExactTakeText's own text answers true at every text and place, where the four variables hold four sentinels at different places.
-/
import Derived.Test.YtgpnkjapgfkblaeDoorTakeTextTop
namespace Go.Proofs.YtgpnkjapgfkblaeDoor
open Go.RowKit

theorem takeTextLaw_any {aF aR aS aM : Addr} (s : ByteArray) (x : Int) (w : World) (hs : s.size ≤ maxLen) (h : Sents w aF aR aS aM) :
    Calls Tryd.prog 6 #[.string s, .int .i64 x] w fun e w' => e = .returned (.bool true) ∧ Below w.heap.size w w' := by
  have H : Hid (Sents w aF aR aS aM) := h
  clear h
  unfold maxLen at hs
  by_cases hlt : 1048576 < s.size
  · go_enter Tryd.func6, Tryd.ntmps6
    go_wp2
    go_ret
    exact ⟨rfl, Below.refl _ _⟩
  · go_enter Tryd.func6, Tryd.ntmps6
    go_wp2_with fail
    refine (specTakeTextTop_any s x _ (by omega)).mono ?_
    rintro e w1 ⟨rfl, rfl⟩
    go_wp2_with fail
    refine (implTakeText_any s x _ (by omega) H.out).mono ?_
    rintro e w2 ⟨rfl, hb⟩
    go_wp2
    go_ret
    exact ⟨rfl, hb⟩
end Go.Proofs.YtgpnkjapgfkblaeDoor
