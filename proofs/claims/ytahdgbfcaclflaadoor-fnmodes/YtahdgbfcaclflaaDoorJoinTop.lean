/-
  JoinModes: what the specification and the program answer.
-/
import Derived.Test.YtahdgbfcaclflaaDoorJoinSpec
namespace Go.Proofs.YtahdgbfcaclflaaDoor
open Go.RowKit

theorem modeB_nope {m : Int} (h : ¬ ModeP m) : modeB m = false := by rw [← Bool.not_eq_true, modeB_iff]; exact h

def joinCode (a b : Int) : Int := if modeB a && modeB b then 0 else 19
def joinAns (a b : Int) : Int := if modeB a && modeB b then joinI a b else 0

set_option maxHeartbeats 400000 in
theorem specJoinModes_any (a b : Int) (w : World) :
    Calls Tryd.prog 15 #[.int .i64 a, .int .i64 b] w fun e w' => e = .returned (.tuple #[.int .i64 (joinAns a b), .int .i64 (joinCode a b)]) ∧ w' = w := by
  by_cases ha : ModeP a
  · by_cases hb : ModeP b
    · have ha1 := modeB_iff.2 ha
      have hb1 := modeB_iff.2 hb
      have HA : joinAns a b = joinI a b ∧ joinCode a b = 0 := by simp [joinAns, joinCode, ha1, hb1]
      rw [HA.1, HA.2]
      clear ha hb HA
      go_enter Tryd.func15, Tryd.ntmps15
      go_wp2_with (first | (go_at_call 36; refine (specMode0_any _ _).mono ?_; rintro e w' ⟨rfl, rfl⟩) | (go_at_call 41; refine (specJoin_any _ _ _).mono ?_; rintro e w' ⟨rfl, rfl⟩))
      go_ret2
      exact ⟨rfl, rfl⟩
    · have ha1 := modeB_iff.2 ha
      have hb1 := modeB_nope hb
      have HA : joinAns a b = 0 ∧ joinCode a b = 19 := by simp [joinAns, joinCode, ha1, hb1]
      rw [HA.1, HA.2]
      clear ha hb HA
      go_enter Tryd.func15, Tryd.ntmps15
      go_wp2_with (go_at_call 36; refine (specMode0_any _ _).mono ?_; rintro e w' ⟨rfl, rfl⟩)
      go_ret2
      exact ⟨rfl, rfl⟩
  · have ha1 := modeB_nope ha
    have HA : joinAns a b = 0 ∧ joinCode a b = 19 := by simp [joinAns, joinCode, ha1]
    rw [HA.1, HA.2]
    clear ha HA
    go_enter Tryd.func15, Tryd.ntmps15
    go_wp2_with (go_at_call 36; refine (specMode0_any _ _).mono ?_; rintro e w' ⟨rfl, rfl⟩)
    go_ret2
    exact ⟨rfl, rfl⟩

set_option maxHeartbeats 400000 in
theorem implJoinModes_any (a b : Int) (w : World) :
    Calls Tryd.prog 14 #[.int .i64 a, .int .i64 b] w fun e w' => e = .returned (.tuple #[.int .i64 (joinAns a b), .int .i64 (joinCode a b)]) ∧ w' = w := by
  by_cases ha : ModeP a
  · by_cases hb : ModeP b
    · have ha1 := modeB_iff.2 ha
      have hb1 := modeB_iff.2 hb
      have HA : joinAns a b = joinI a b ∧ joinCode a b = 0 := by simp [joinAns, joinCode, ha1, hb1]
      rw [HA.1, HA.2]
      have HJ := hide (implJoin_any a b ha hb w)
      clear ha hb HA
      go_enter Tryd.func14, Tryd.ntmps14
      go_wp2_with (first | (go_at_call 38; refine (isMode_any _ _).mono ?_; rintro e w' ⟨rfl, rfl⟩) | (go_at_call 40; refine HJ.out.mono ?_; rintro e w' ⟨rfl, rfl⟩))
      go_ret2
      exact ⟨rfl, rfl⟩
    · have ha1 := modeB_iff.2 ha
      have hb1 := modeB_nope hb
      have HA : joinAns a b = 0 ∧ joinCode a b = 19 := by simp [joinAns, joinCode, ha1, hb1]
      rw [HA.1, HA.2]
      clear ha hb HA
      go_enter Tryd.func14, Tryd.ntmps14
      go_wp2_with (go_at_call 38; refine (isMode_any _ _).mono ?_; rintro e w' ⟨rfl, rfl⟩)
      go_ret2
      exact ⟨rfl, rfl⟩
  · have ha1 := modeB_nope ha
    have HA : joinAns a b = 0 ∧ joinCode a b = 19 := by simp [joinAns, joinCode, ha1]
    rw [HA.1, HA.2]
    clear ha HA
    go_enter Tryd.func14, Tryd.ntmps14
    go_wp2_with (go_at_call 38; refine (isMode_any _ _).mono ?_; rintro e w' ⟨rfl, rfl⟩)
    go_ret2
    exact ⟨rfl, rfl⟩
end Go.Proofs.YtahdgbfcaclflaaDoor
