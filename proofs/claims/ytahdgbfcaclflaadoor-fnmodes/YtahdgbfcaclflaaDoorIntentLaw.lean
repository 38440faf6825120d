/-
  IntentOf: what the specification and the program answer, and the law on it.
-/
import Derived.Test.YtahdgbfcaclflaaDoorJoinSpec
import Derived.Test.YtahdgbfcaclflaaDoorIntentSpec
import Derived.Test.YtahdgbfcaclflaaDoorIntentsAt
namespace Go.Proofs.YtahdgbfcaclflaaDoor
open Go.RowKit

theorem modeP_nat {m : Int} (h : ModeP m) : ∃ n : Nat, n < 6 ∧ m = n := ⟨m.toNat, by obtain ⟨a, b⟩ := h; omega, by obtain ⟨a, b⟩ := h; omega⟩
theorem modeB_not {m : Int} (h : ¬ ModeP m) : modeB m = false := by rw [← Bool.not_eq_true, modeB_iff]; exact h

def intCode (m : Int) : Int := if modeB m then 0 else 19
def intAns (m : Int) : Int := if modeB m then intentI m else 0

set_option maxHeartbeats 400000 in
theorem specIntentOf_any (m : Int) (w : World) :
    Calls Tryd.prog 12 #[.int .i64 m] w fun e w' => e = .returned (.tuple #[.int .i64 (intAns m), .int .i64 (intCode m)]) ∧ w' = w := by
  by_cases ha : ModeP m
  · have ha1 := modeB_iff.2 ha
    have HA : intAns m = intentI m ∧ intCode m = 0 := by simp [intAns, intCode, ha1]
    rw [HA.1, HA.2]
    clear ha HA
    go_enter Tryd.func12, Tryd.ntmps12
    go_wp2_with (first | (go_at_call 36; refine (specMode0_any _ _).mono ?_; rintro e w' ⟨rfl, rfl⟩) | (go_at_call 39; refine (specIntent_any _ _).mono ?_; rintro e w' ⟨rfl, rfl⟩))
    go_ret2
    exact ⟨rfl, rfl⟩
  · have ha1 := modeB_not ha
    have HA : intAns m = 0 ∧ intCode m = 19 := by simp [intAns, intCode, ha1]
    rw [HA.1, HA.2]
    clear ha HA
    go_enter Tryd.func12, Tryd.ntmps12
    go_wp2_with (go_at_call 36; refine (specMode0_any _ _).mono ?_; rintro e w' ⟨rfl, rfl⟩)
    go_ret2
    exact ⟨rfl, rfl⟩

set_option maxHeartbeats 400000 in
theorem implIntentOf_any (m : Int) (w : World) (hI : IntentsAt w) :
    Calls Tryd.prog 13 #[.int .i64 m] w fun e w' => e = .returned (.tuple #[.int .i64 (intAns m), .int .i64 (intCode m)]) ∧ w' = w := by
  have hlt := hI.lt
  by_cases ha : ModeP m
  · have ha1 := modeB_iff.2 ha
    have HA : intAns m = intentI m ∧ intCode m = 0 := by simp [intAns, intCode, ha1]
    rw [HA.1, HA.2]
    obtain ⟨n, hn, rfl⟩ := modeP_nat ha
    have hc := hI n hn
    clear ha HA hI
    generalize intentI n = r at *
    go_enter Tryd.func13, Tryd.ntmps13
    go_wp2_with (go_at_call 38; refine (isMode_any _ _).mono ?_; rintro e w' ⟨rfl, rfl⟩)
    go_ret2
    exact ⟨rfl, rfl⟩
  · have ha1 := modeB_not ha
    have HA : intAns m = 0 ∧ intCode m = 19 := by simp [intAns, intCode, ha1]
    rw [HA.1, HA.2]
    clear ha HA hI
    go_enter Tryd.func13, Tryd.ntmps13
    go_wp2_with (go_at_call 38; refine (isMode_any _ _).mono ?_; rintro e w' ⟨rfl, rfl⟩)
    go_ret2
    exact ⟨rfl, rfl⟩

set_option maxHeartbeats 400000 in
theorem intentOfLaw (m : Int) (w : World) (hI : IntentsAt w) :
    Calls Tryd.prog 4 #[.int .i64 m] w fun e w' => e = .returned (.bool true) ∧ Below w.heap.size w w' := by
  have HS := hide (specIntentOf_any m w)
  have HI := hide (implIntentOf_any m w hI)
  clear hI
  go_enter Tryd.func4, Tryd.ntmps4
  go_wp2_with (first | (go_at_call 12; refine HS.out.mono ?_; rintro e w' ⟨rfl, rfl⟩) | (go_at_call 13; refine HI.out.mono ?_; rintro e w' ⟨rfl, rfl⟩))
  go_ret
  exact ⟨rfl, Below.refl _ _⟩
end Go.Proofs.YtahdgbfcaclflaaDoor
