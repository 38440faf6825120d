/-
  What the inner functions behind PutText answer, the program's and the specification's: the bytes of the length and the text. They make new memory alone.
-/
import Derived.Test.YtgpnkjapgfkblaaDoorPutWalks
namespace Go.Proofs.YtgpnkjapgfkblaaDoor
open Go.RowKit

theorem putText_any (s : ByteArray) (w : World) (hs : s.size ≤ 1048576) :
    Calls Tryd.prog 29 #[.string s] w fun e w' => e = .returned (.string (putB s.size ++ s)) ∧ Below w.heap.size w w' := by
  have hn := putB_nine (n := s.size) (by omega)
  go_enter Tryd.func29, Tryd.ntmps29
  go_wp2_with fail
  refine (putNumber_any _ _ (by omega) (by omega)).mono ?_
  rintro e w1 ⟨rfl, hb⟩
  rw [Int.toNat_natCast]
  go_wp2
  go_ret
  exact ⟨rfl, hb⟩

theorem specPutText_any (s : ByteArray) (w : World) (hs : s.size ≤ 1048576) :
    Calls Tryd.prog 30 #[.string s] w fun e w' => e = .returned (.string (putB s.size ++ s)) ∧ Below w.heap.size w w' := by
  have hn := putB_nine (n := s.size) (by omega)
  go_enter Tryd.func30, Tryd.ntmps30
  go_wp2_with fail
  refine (specPut_any _ _ (by omega) (by omega)).mono ?_
  rintro e w1 ⟨rfl, hb⟩
  rw [Int.toNat_natCast]
  go_wp2
  go_ret
  exact ⟨rfl, hb⟩

end Go.Proofs.YtgpnkjapgfkblaaDoor
