/-
  What each function on the road of 'laws.FnExactNameOK' answers: a byte is a digit, a byte is a letter of names, a text is a name. No conditions but that the text is no longer than the model's greatest length.
-/
import Derived.Test.YtmcopoonnhcdjaaDoorProg
import Derived.WalkKit
namespace Go.Proofs.YtmcopoonnhcdjaaDoor
open Go.RowKit

/-- A byte, as a number, is one of '0' to '9'. -/
def digB (c : Int) : Bool := decide (48 ≤ c) && decide (c ≤ 57)
/-- A byte, as a number, is a letter or the low line. -/
def letB (c : Int) : Bool := (decide (97 ≤ c) && decide (c ≤ 122)) || (decide (65 ≤ c) && decide (c ≤ 90)) || c == 95

theorem letB_digB {c : Int} (h : letB c = true) : digB c = false := by
  simp [letB, digB] at *; omega

theorem letB_t {c : Int} (h : (97 ≤ c ∧ c ≤ 122) ∨ (65 ≤ c ∧ c ≤ 90) ∨ c = 95) : letB c = true := by
  simp [letB]; omega
theorem letB_f {c : Int} (h : ¬ ((97 ≤ c ∧ c ≤ 122) ∨ (65 ≤ c ∧ c ≤ 90) ∨ c = 95)) : letB c = false := by
  simp [letB]; omega

theorem isDigit_any (c : Int) (w : World) : Calls Tryd.prog 122 #[.int .u8 c] w fun e w' => e = .returned (.bool (digB c)) ∧ w' = w := by
  by_cases h1 : 48 ≤ c <;> by_cases h2 : c ≤ 57
  all_goals
    go_enter Tryd.func122, Tryd.ntmps122
    go_wp2
    go_ret
    exact ⟨by simp [digB, h1, h2], rfl⟩

theorem specDigit_any (c : Int) (w : World) : Calls Tryd.prog 110 #[.int .u8 c] w fun e w' => e = .returned (.bool (digB c)) ∧ w' = w := by
  by_cases h1 : 48 ≤ c <;> by_cases h2 : c ≤ 57
  all_goals
    go_enter Tryd.func110, Tryd.ntmps110
    go_wp2
    go_ret
    exact ⟨by simp [digB, h1, h2], rfl⟩

theorem isLetter_any (c : Int) (w : World) : Calls Tryd.prog 123 #[.int .u8 c] w fun e w' => e = .returned (.bool (letB c)) ∧ w' = w := by
  by_cases h1 : 97 ≤ c
  · by_cases h2 : c ≤ 122
    · go_enter Tryd.func123, Tryd.ntmps123
      go_wp2
      go_ret
      exact ⟨by rw [letB_t (by omega)]; rfl, rfl⟩
    · have h3 : (c == 95) = false := by simp; omega
      have h4 : 65 ≤ c := by omega
      have h5 : 90 < c := by omega
      have h6 : decide (c ≤ 90) = false := by simp; omega
      go_enter Tryd.func123, Tryd.ntmps123
      go_wp2
      go_ret
      exact ⟨by rw [letB_f (by omega)]; rfl, rfl⟩
  · by_cases h2 : 65 ≤ c
    · by_cases h3 : c ≤ 90
      · go_enter Tryd.func123, Tryd.ntmps123
        go_wp2
        go_ret
        exact ⟨by rw [letB_t (by omega)]; rfl, rfl⟩
      · by_cases h4 : c = 95
        · have h5 : (c == 95) = true := by simp; omega
          have H4 : Hid (c = 95) := h4
          clear h4
          go_enter Tryd.func123, Tryd.ntmps123
          go_wp2
          go_ret
          have h4 := H4.out
          exact ⟨by rw [letB_t (by omega)]; rfl, rfl⟩
        · have h5 : (c == 95) = false := by simp; omega
          go_enter Tryd.func123, Tryd.ntmps123
          go_wp2
          go_ret
          exact ⟨by rw [letB_f (by omega)]; rfl, rfl⟩
    · have h5 : (c == 95) = false := by simp; omega
      go_enter Tryd.func123, Tryd.ntmps123
      go_wp2
      go_ret
      exact ⟨by rw [letB_f (by omega)]; rfl, rfl⟩

theorem specLetter_any (c : Int) (w : World) : Calls Tryd.prog 109 #[.int .u8 c] w fun e w' => e = .returned (.bool (letB c)) ∧ w' = w := by
  by_cases h1 : 97 ≤ c
  · by_cases h2 : c ≤ 122
    · go_enter Tryd.func109, Tryd.ntmps109
      go_wp2
      go_ret
      exact ⟨by rw [letB_t (by omega)]; rfl, rfl⟩
    · have h3 : (c == 95) = false := by simp; omega
      have h4 : 65 ≤ c := by omega
      have h5 : 90 < c := by omega
      have h6 : decide (c ≤ 90) = false := by simp; omega
      go_enter Tryd.func109, Tryd.ntmps109
      go_wp2
      go_ret
      exact ⟨by rw [letB_f (by omega)]; rfl, rfl⟩
  · by_cases h2 : 65 ≤ c
    · by_cases h3 : c ≤ 90
      · go_enter Tryd.func109, Tryd.ntmps109
        go_wp2
        go_ret
        exact ⟨by rw [letB_t (by omega)]; rfl, rfl⟩
      · by_cases h4 : c = 95
        · have h5 : (c == 95) = true := by simp; omega
          have H4 : Hid (c = 95) := h4
          clear h4
          go_enter Tryd.func109, Tryd.ntmps109
          go_wp2
          go_ret
          have h4 := H4.out
          exact ⟨by rw [letB_t (by omega)]; rfl, rfl⟩
        · have h5 : (c == 95) = false := by simp; omega
          go_enter Tryd.func109, Tryd.ntmps109
          go_wp2
          go_ret
          exact ⟨by rw [letB_f (by omega)]; rfl, rfl⟩
    · have h5 : (c == 95) = false := by simp; omega
      go_enter Tryd.func109, Tryd.ntmps109
      go_wp2
      go_ret
      exact ⟨by rw [letB_f (by omega)]; rfl, rfl⟩

end Go.Proofs.YtmcopoonnhcdjaaDoor
