/-
  What a lock needs above: what the specification answers.
-/
import Derived.Test.YtahdgbfcaclflaaDoorBasicIn
import Derived.Test.YtahdgbfcaclflaaDoorLockPlain
namespace Go.Proofs.YtahdgbfcaclflaaDoor
open Go.RowKit

set_option maxHeartbeats 400000 in
theorem specIntent_any (m : Int) (w : World) :
    Calls Tryd.prog 39 #[.int .i64 m] w fun e w' => e = .returned (.int .i64 (intentI m)) ∧ w' = w := by
  have H0 : Hid (m = 0 → intentI m = 0) := fun h => by subst h; rfl
  have H1 : Hid (m = 1 ∨ m = 3 → intentI m = 1) := fun h => by rcases h with rfl | rfl <;> rfl
  have H2 : Hid (m ≠ 0 → ¬ (m = 1 ∨ m = 3) → intentI m = 2) := fun h h' => by unfold intentI; rw [if_neg h, if_neg h']
  go_enter Tryd.func39, Tryd.ntmps39
  go_wp2
  all_goals
    go_ret
    refine ⟨ret_int ?_, rfl⟩
    simp only [beq_eq_false_iff_ne, beq_iff_eq] at *
    try subst_vars
    first | rfl | exact (H0.out (by omega)).symm | exact (H1.out (by omega)).symm | exact (H2.out (by omega) (by omega)).symm
end Go.Proofs.YtahdgbfcaclflaaDoor
