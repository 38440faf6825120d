/-
  What a lock needs above: what the specification answers.
  The join of two modes: what the specification and the program answer.
-/
import Derived.Test.YtfjhpfgffbghdaaDoorBasicInJ
import Derived.Test.YtfjhpfgffbghdaaDoorJoinG
namespace Go.Proofs.YtfjhpfgffbghdaaDoor
open Go.RowKit

set_option maxHeartbeats 400000 in
theorem specIntent_any (m : Int) (w : World) :
    Calls Tryd.prog 52 #[.int .i64 m] w fun e w' => e = .returned (.int .i64 (intentI m)) ∧ w' = w := by
  have H0 : Hid (m = 0 → intentI m = 0) := fun h => by subst h; rfl
  have H1 : Hid (m = 1 ∨ m = 3 → intentI m = 1) := fun h => by rcases h with rfl | rfl <;> rfl
  have H2 : Hid (m ≠ 0 → ¬ (m = 1 ∨ m = 3) → intentI m = 2) := fun h h' => by unfold intentI; rw [if_neg h, if_neg h']
  go_enter Tryd.func52, Tryd.ntmps52
  go_wp2
  all_goals
    go_ret
    refine ⟨ret_int ?_, rfl⟩
    simp only [beq_eq_false_iff_ne, beq_iff_eq] at *
    try subst_vars
    first | rfl | exact (H0.out (by omega)).symm | exact (H1.out (by omega)).symm | exact (H2.out (by omega) (by omega)).symm
end Go.Proofs.YtfjhpfgffbghdaaDoor

namespace Go.Proofs.YtfjhpfgffbghdaaDoor
open Go.RowKit

def modeB (m : Int) : Bool := inB m 0 5
theorem modeB_iff {m : Int} : modeB m = true ↔ ModeP m := by unfold modeB ModeP; exact inB_iff

theorem specMode0_any (m : Int) (w : World) :
    Calls Tryd.prog 47 #[.int .i64 m, .int .i64 0, .int .i64 5] w fun e w' => e = .returned (.bool (modeB m)) ∧ w' = w := specIn_any m 0 5 w

set_option maxHeartbeats 400000 in
theorem specJoin_le (a b : Int) (h : a ≤ b) (w : World) :
    Calls Tryd.prog 49 #[.int .i64 a, .int .i64 b] w fun e w' => e = .returned (.int .i64 (joinI a b)) ∧ w' = w := by
  by_cases h2 : a = 2 ∧ b = 3
  · obtain ⟨rfl, rfl⟩ := h2
    go_enter Tryd.func49, Tryd.ntmps49
    go_wp2
    go_ret
    exact ⟨rfl, rfl⟩
  · have HJ : Hid (joinI a b = b) := joinI_le h h2 rfl
    go_enter Tryd.func49, Tryd.ntmps49
    go_wp2
    all_goals first | (exfalso; omega) | skip
    all_goals
      go_ret
      exact ⟨ret_int HJ.out.symm, rfl⟩

set_option maxHeartbeats 400000 in
theorem specJoin_any (a b : Int) (w : World) :
    Calls Tryd.prog 49 #[.int .i64 a, .int .i64 b] w fun e w' => e = .returned (.int .i64 (joinI a b)) ∧ w' = w := by
  by_cases h : a ≤ b
  · exact specJoin_le a b h w
  · have HC := hide (specJoin_le b a (by omega) w)
    have HJ : Hid (joinI b a = joinI a b) := joinI_comm b a
    go_enter Tryd.func49, Tryd.ntmps49
    go_wp2_with (go_at_call 49; refine HC.out.mono ?_; rintro e w' ⟨rfl, rfl⟩)
    go_ret
    exact ⟨ret_int HJ.out, rfl⟩

set_option maxHeartbeats 2000000 in
theorem implJoin_any (a b : Int) (ha : ModeP a) (hb : ModeP b) (w : World) :
    Calls Tryd.prog 78 #[.int .i64 a, .int .i64 b] w fun e w' => e = .returned (.int .i64 (joinI a b)) ∧ w' = w := by
  rcases ha.cases with rfl | rfl | rfl | rfl | rfl | rfl <;> rcases hb.cases with rfl | rfl | rfl | rfl | rfl | rfl
  all_goals
    go_enter Tryd.func78, Tryd.ntmps78
    go_wp2
    go_ret
    exact ⟨rfl, rfl⟩
end Go.Proofs.YtfjhpfgffbghdaaDoor
