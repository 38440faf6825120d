/-
  What fits and what is needed above: what the specification answers.
-/
import Derived.Test.YtahdgbfcaclflaaDoorBasicIn
import Derived.Test.YtahdgbfcaclflaaDoorJoinE
namespace Go.Proofs.YtahdgbfcaclflaaDoor
open Go.RowKit

set_option maxHeartbeats 2000000 in
theorem specFits_le (a b : Int) (ha : ModeP a) (hb : ModeP b) (h : a ≤ b) (w : World) :
    Calls Tryd.prog 37 #[.int .i64 a, .int .i64 b] w fun e w' => e = .returned (.bool (fitsB a b)) ∧ w' = w := by
  rcases ha.cases with rfl | rfl | rfl | rfl | rfl | rfl <;> rcases hb.cases with rfl | rfl | rfl | rfl | rfl | rfl
  all_goals first | (exfalso; revert h; decide) | skip
  all_goals
    clear h
    go_enter Tryd.func37, Tryd.ntmps37
    go_wp2
    go_ret
    exact ⟨rfl, rfl⟩

set_option maxHeartbeats 400000 in
theorem specFits_any (a b : Int) (ha : ModeP a) (hb : ModeP b) (w : World) :
    Calls Tryd.prog 37 #[.int .i64 a, .int .i64 b] w fun e w' => e = .returned (.bool (fitsB a b)) ∧ w' = w := by
  by_cases h : a ≤ b
  · exact specFits_le a b ha hb h w
  · have HC := hide (specFits_le b a hb ha (by omega) w)
    have HJ : Hid (fitsB b a = fitsB a b) := fitsB_comm b a
    by_cases h0 : a = 0 ∨ b = 0
    · obtain rfl : b = 0 := by
        rcases h0 with h0 | h0
        · have := hb.1; omega
        · exact h0
      have ha0 : (a == 0) = false := by simp; omega
      have HT : Hid (fitsB a 0 = true) := by simp [Hid, fitsB]
      go_enter Tryd.func37, Tryd.ntmps37
      go_wp2
      go_ret
      exact ⟨ret_bool HT.out.symm, rfl⟩
    · have ha0 : (a == 0) = false := by simp; omega
      have hb0 : (b == 0) = false := by simp; omega
      go_enter Tryd.func37, Tryd.ntmps37
      go_wp2_with (go_at_call 37; refine HC.out.mono ?_; rintro e w' ⟨rfl, rfl⟩)
      go_ret
      exact ⟨ret_bool HJ.out, rfl⟩
end Go.Proofs.YtahdgbfcaclflaaDoor
