/-
  What takeNumber answers at every place, within the text or not (where the four variables hold four sentinels at different places). It makes new memory alone.
-/
import Derived.Test.YtgpnkjapgfkblaaDoorTakeWays
namespace Go.Proofs.YtgpnkjapgfkblaaDoor
open Go.RowKit

/-- What is taken from a place, be it within the text or not: the number, the place behind it, the code. -/
def takeAt (s : ByteArray) (n : Int) : Int × Int × Int := if 0 ≤ n ∧ n ≤ (s.size : Int) then take0 s n.toNat else (0, 0, 8)

theorem takeAt_in {s : ByteArray} {n : Int} (h : 0 ≤ n ∧ n ≤ (s.size : Int)) : takeAt s n = take0 s n.toNat := if_pos h
theorem takeAt_out {s : ByteArray} {n : Int} (h : ¬ (0 ≤ n ∧ n ≤ (s.size : Int))) : takeAt s n = (0, 0, 8) := if_neg h

theorem takeNumber_any {aF aR aS aM : Addr} (s : ByteArray) (n : Int) (w : World) (hs : s.size ≤ 1048576) (h : Sents w aF aR aS aM) :
    Calls Tryd.prog 28 #[.string s, .int .i64 n] w fun e w' => TakeSays aF aR aS aM (takeAt s n) e ∧ Below w.heap.size w w' := by
  by_cases ha : 0 ≤ n ∧ n ≤ (s.size : Int)
  · rw [takeAt_in ha]
    obtain ⟨a, rfl⟩ := Int.eq_ofNat_of_zero_le ha.1
    rw [Int.toNat_natCast]
    exact takeNumber_in s a w hs h (by omega)
  · rw [takeAt_out ha]
    exact takeNumber_out s n w h ha

end Go.Proofs.YtgpnkjapgfkblaaDoor
