/-
  Whether a number is a kind, asked by the specification.
-/
import Derived.Test.YtihoihlkkhndhaaDoorBasicInJ
namespace Go.Proofs.YtihoihlkkhndhaaDoor
open Go.RowKit

set_option maxHeartbeats 400000 in
theorem specKind_any (a : Int) (w : World) :
    Calls Tryd.prog 16 #[.int .i64 a] w fun e w' => e = .returned (.bool (inB a 1 8)) ∧ w' = w := by
  go_enter Tryd.func16, Tryd.ntmps16
  go_wp2_with (go_at_call 9; refine (specIn_any _ _ _ _).mono ?_; rintro e w' ⟨rfl, rfl⟩)
  go_ret
  exact ⟨rfl, rfl⟩
end Go.Proofs.YtihoihlkkhndhaaDoor
