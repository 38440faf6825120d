/-
  The law FnExactPutNumber's own text answers true at every number, where the four variables hold four sentinels at different places.
-/
import Derived.Test.YtgpnkjapgfkblaeDoorPutNum
namespace Go.Proofs.YtgpnkjapgfkblaeDoor
open Go.RowKit

theorem putNumLaw_any {aF aR aS aM : Addr} (n : Int) (w : World) (h : Sents w aF aR aS aM) :
    Calls Tryd.prog 4 #[.int .i64 n] w fun e w' => e = .returned (.bool true) ∧ Below w.heap.size w w' := by
  have H : Hid (Sents w aF aR aS aM) := h
  clear h
  go_enter Tryd.func4, Tryd.ntmps4
  go_wp2_with fail
  refine (specPutNumber_any n _).mono ?_
  rintro e w1 ⟨rfl, hb1⟩
  go_wp2_with fail
  refine (implPutNumber_any n _ (H.out.below hb1)).mono ?_
  rintro e w2 ⟨rfl, hb2⟩
  have hb := hb1.trans (hb2.mono hb1.size)
  clear hb1 hb2
  go_wp2
  go_ret
  exact ⟨rfl, hb⟩
end Go.Proofs.YtgpnkjapgfkblaeDoor
