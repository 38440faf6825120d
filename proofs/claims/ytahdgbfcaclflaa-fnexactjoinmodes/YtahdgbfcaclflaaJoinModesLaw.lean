/-
  The law on JoinModes answers true at every two numbers.
-/
import Derived.Test.YtahdgbfcaclflaaJoinTop
namespace Go.Proofs.Ytahdgbfcaclflaa
open Go.RowKit

set_option maxHeartbeats 400000 in
theorem joinModesLaw (a b : Int) (w : World) :
    Calls Try.prog 3 #[.int .i64 a, .int .i64 b] w fun e w' => e = .returned (.bool true) ∧ Below w.heap.size w w' := by
  have HS := hide (specJoinModes_any a b w)
  have HI := hide (implJoinModes_any a b w)
  go_enter Try.func3, Try.ntmps3
  go_wp2_with (first | (go_at_call 7; refine HS.out.mono ?_; rintro e w' ⟨rfl, rfl⟩) | (go_at_call 8; refine HI.out.mono ?_; rintro e w' ⟨rfl, rfl⟩))
  go_ret
  exact ⟨rfl, Below.refl _ _⟩
end Go.Proofs.Ytahdgbfcaclflaa
