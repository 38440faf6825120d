/-
  What each function on the road of 'laws.FnExactNameOK' answers: a byte is a digit, a byte is a letter of names, a text is a name. No conditions but that the text is no longer than the model's greatest length.
  The two functions that ask whether a text is a name, the program's and the specification's, answer true of just the same texts. No conditions but that the text is no longer than the model's greatest length.
-/
import Derived.Test.YtmcopoonnhcdjaaDoorProg
import Derived.WalkKit
import Derived.WalkSpells
namespace Go.Proofs.YtmcopoonnhcdjaaDoor
open Go.RowKit

/-- A byte, as a number, is one of '0' to '9'. -/
def digB (c : Int) : Bool := decide (48 ≤ c) && decide (c ≤ 57)
/-- A byte, as a number, is a letter or the low line. -/
def letB (c : Int) : Bool := (decide (97 ≤ c) && decide (c ≤ 122)) || (decide (65 ≤ c) && decide (c ≤ 90)) || c == 95

theorem letB_digB {c : Int} (h : letB c = true) : digB c = false := by
  simp [letB, digB] at *; omega

theorem letB_t {c : Int} (h : (97 ≤ c ∧ c ≤ 122) ∨ (65 ≤ c ∧ c ≤ 90) ∨ c = 95) : letB c = true := by
  simp [letB]; omega
theorem letB_f {c : Int} (h : ¬ ((97 ≤ c ∧ c ≤ 122) ∨ (65 ≤ c ∧ c ≤ 90) ∨ c = 95)) : letB c = false := by
  simp [letB]; omega

theorem isDigit_any (c : Int) (w : World) : Calls Tryd.prog 122 #[.int .u8 c] w fun e w' => e = .returned (.bool (digB c)) ∧ w' = w := by
  by_cases h1 : 48 ≤ c <;> by_cases h2 : c ≤ 57
  all_goals
    go_enter Tryd.func122, Tryd.ntmps122
    go_wp2
    go_ret
    exact ⟨by simp [digB, h1, h2], rfl⟩

theorem specDigit_any (c : Int) (w : World) : Calls Tryd.prog 110 #[.int .u8 c] w fun e w' => e = .returned (.bool (digB c)) ∧ w' = w := by
  by_cases h1 : 48 ≤ c <;> by_cases h2 : c ≤ 57
  all_goals
    go_enter Tryd.func110, Tryd.ntmps110
    go_wp2
    go_ret
    exact ⟨by simp [digB, h1, h2], rfl⟩

theorem isLetter_any (c : Int) (w : World) : Calls Tryd.prog 123 #[.int .u8 c] w fun e w' => e = .returned (.bool (letB c)) ∧ w' = w := by
  by_cases h1 : 97 ≤ c
  · by_cases h2 : c ≤ 122
    · go_enter Tryd.func123, Tryd.ntmps123
      go_wp2
      go_ret
      exact ⟨by rw [letB_t (by omega)]; rfl, rfl⟩
    · have h3 : (c == 95) = false := by simp; omega
      have h4 : 65 ≤ c := by omega
      have h5 : 90 < c := by omega
      have h6 : decide (c ≤ 90) = false := by simp; omega
      go_enter Tryd.func123, Tryd.ntmps123
      go_wp2
      go_ret
      exact ⟨by rw [letB_f (by omega)]; rfl, rfl⟩
  · by_cases h2 : 65 ≤ c
    · by_cases h3 : c ≤ 90
      · go_enter Tryd.func123, Tryd.ntmps123
        go_wp2
        go_ret
        exact ⟨by rw [letB_t (by omega)]; rfl, rfl⟩
      · by_cases h4 : c = 95
        · have h5 : (c == 95) = true := by simp; omega
          have H4 : Hid (c = 95) := h4
          clear h4
          go_enter Tryd.func123, Tryd.ntmps123
          go_wp2
          go_ret
          have h4 := H4.out
          exact ⟨by rw [letB_t (by omega)]; rfl, rfl⟩
        · have h5 : (c == 95) = false := by simp; omega
          go_enter Tryd.func123, Tryd.ntmps123
          go_wp2
          go_ret
          exact ⟨by rw [letB_f (by omega)]; rfl, rfl⟩
    · have h5 : (c == 95) = false := by simp; omega
      go_enter Tryd.func123, Tryd.ntmps123
      go_wp2
      go_ret
      exact ⟨by rw [letB_f (by omega)]; rfl, rfl⟩

theorem specLetter_any (c : Int) (w : World) : Calls Tryd.prog 109 #[.int .u8 c] w fun e w' => e = .returned (.bool (letB c)) ∧ w' = w := by
  by_cases h1 : 97 ≤ c
  · by_cases h2 : c ≤ 122
    · go_enter Tryd.func109, Tryd.ntmps109
      go_wp2
      go_ret
      exact ⟨by rw [letB_t (by omega)]; rfl, rfl⟩
    · have h3 : (c == 95) = false := by simp; omega
      have h4 : 65 ≤ c := by omega
      have h5 : 90 < c := by omega
      have h6 : decide (c ≤ 90) = false := by simp; omega
      go_enter Tryd.func109, Tryd.ntmps109
      go_wp2
      go_ret
      exact ⟨by rw [letB_f (by omega)]; rfl, rfl⟩
  · by_cases h2 : 65 ≤ c
    · by_cases h3 : c ≤ 90
      · go_enter Tryd.func109, Tryd.ntmps109
        go_wp2
        go_ret
        exact ⟨by rw [letB_t (by omega)]; rfl, rfl⟩
      · by_cases h4 : c = 95
        · have h5 : (c == 95) = true := by simp; omega
          have H4 : Hid (c = 95) := h4
          clear h4
          go_enter Tryd.func109, Tryd.ntmps109
          go_wp2
          go_ret
          have h4 := H4.out
          exact ⟨by rw [letB_t (by omega)]; rfl, rfl⟩
        · have h5 : (c == 95) = false := by simp; omega
          go_enter Tryd.func109, Tryd.ntmps109
          go_wp2
          go_ret
          exact ⟨by rw [letB_f (by omega)]; rfl, rfl⟩
    · have h5 : (c == 95) = false := by simp; omega
      go_enter Tryd.func109, Tryd.ntmps109
      go_wp2
      go_ret
      exact ⟨by rw [letB_f (by omega)]; rfl, rfl⟩

end Go.Proofs.YtmcopoonnhcdjaaDoor

namespace Go.Proofs.YtmcopoonnhcdjaaDoor
open Go.RowKit

/-- The k-th byte of a text, as a number; 0 behind its end. -/
def byteAt (s : ByteArray) (k : Nat) : Int := if h : k < s.size then (s[k].toNat : Int) else 0
theorem byteAt_in {s : ByteArray} {k : Nat} (h : k < s.size) : byteAt s k = (s[k].toNat : Int) := by simp [byteAt, h]

/-- What a name is. -/
def NameP (s : ByteArray) : Prop := 1 ≤ s.size ∧ s.size ≤ 12 ∧ letB (byteAt s 0) = true ∧ ∀ j, j < s.size → (letB (byteAt s j) || digB (byteAt s j)) = true

/-- An ending answers whether P holds. -/
def Says (e : Ending) (P : Prop) : Prop := ∃ b, e = .returned (.bool b) ∧ (b = true ↔ P)
theorem Says.no {P : Prop} (h : ¬ P) : Says (.returned (.bool false)) P := ⟨false, rfl, by simp [h]⟩
theorem Says.yes {P : Prop} (h : P) : Says (.returned (.bool true)) P := ⟨true, rfl, by simp [h]⟩

theorem not_name_at {s : ByteArray} {k : Nat} (h : k < s.size) (hl : letB (s[k].toNat : Int) = false) (hd : digB (s[k].toNat : Int) = false) : ¬ NameP s := by
  intro hn
  have := hn.2.2.2 k h
  rw [byteAt_in h, hl, hd] at this
  simp at this

theorem upto_next {p : Nat → Bool} {k : Nat} (h : ∀ j, j < k → p j = true) (hk : p k = true) : ∀ j, j < k + 1 → p j = true := by
  intro j hj
  by_cases e : j = k
  · rw [e]; exact hk
  · exact h j (by omega)

theorem letter_of {c : Int} (h : (letB c || digB c) = true) (hd : digB c = false) : letB c = true := by
  simpa [hd] using h

set_option maxHeartbeats 400000 in
theorem nameOK_any (s : ByteArray) (w : World) (hs : s.size ≤ maxLen) :
    Calls Tryd.prog 113 #[.string s] w fun e w' => Says e (NameP s) ∧ w' = w := by
  unfold maxLen at hs
  by_cases h0 : s.size = 0
  · have h1 : ((s.size : Int) == 0) = true := beq_iff_eq.2 (by omega)
    have hn : Hid (¬ NameP s) := fun h => by have := h.1; omega
    clear h0
    go_enter Tryd.func113, Tryd.ntmps113
    go_wp2
    go_ret
    exact ⟨Says.no hn.out, rfl⟩
  · have h1 : ((s.size : Int) == 0) = false := beq_eq_false_iff_ne.2 (by omega)
    by_cases h2 : 12 < s.size
    · have hn : Hid (¬ NameP s) := fun h => by have := h.2.1; omega
      go_enter Tryd.func113, Tryd.ntmps113
      go_wp2
      go_ret
      exact ⟨Says.no hn.out, rfl⟩
    · have h3 : 0 < s.size := by omega
      have h4 : decide ((12 : Int) < (s.size : Int)) = false := by simp; omega
      have E0 : Hid (byteAt s 0 = (s[0].toNat : Int)) := byteAt_in h3
      cases hd : digB (s[0].toNat : Int)
      · go_enter Tryd.func113, Tryd.ntmps113
        go_wp2_with (go_at_call 122; refine (isDigit_any _ _).mono ?_; rintro e w' ⟨rfl, rfl⟩)
        go_loop [3] (fun i => ∃ k : Nat, k ≤ s.size ∧ i = .int .i64 k ∧ ∀ j, j < k → (letB (byteAt s j) || digB (byteAt s j)) = true) (fun i => s.size - (intOf i).toNat)
        case atStart => exact ⟨0, by omega, rfl, fun j hj => absurd hj (Nat.not_lt_zero _)⟩
        case round =>
          obtain ⟨k, hk, rfl, hall⟩ := hrel
          have HA : Hid (∀ j, j < k → (letB (byteAt s j) || digB (byteAt s j)) = true) := hall
          clear hall
          by_cases hlt : k < s.size
          · have EK : Hid (byteAt s k = (s[k].toNat : Int)) := byteAt_in hlt
            cases hL : letB (s[k].toNat : Int)
            · cases hD : digB (s[k].toNat : Int)
              · have hn : Hid (¬ NameP s) := not_name_at hlt hL hD
                go_wp2_with (first | (go_at_call 122; refine (isDigit_any _ _).mono ?_; rintro e w' ⟨rfl, rfl⟩) | (go_at_call 123; refine (isLetter_any _ _).mono ?_; rintro e w' ⟨rfl, rfl⟩))
                go_ret
                exact ⟨Says.no hn.out, rfl⟩
              · go_wp2_with (first | (go_at_call 122; refine (isDigit_any _ _).mono ?_; rintro e w' ⟨rfl, rfl⟩) | (go_at_call 123; refine (isLetter_any _ _).mono ?_; rintro e w' ⟨rfl, rfl⟩))
                go_round
                case rel => exact ⟨k + 1, by omega, by go_num, upto_next HA.out (by rw [EK.out, hD]; simp)⟩
                case measure => simp [intOf]; omega
            · go_wp2_with (first | (go_at_call 122; refine (isDigit_any _ _).mono ?_; rintro e w' ⟨rfl, rfl⟩) | (go_at_call 123; refine (isLetter_any _ _).mono ?_; rintro e w' ⟨rfl, rfl⟩))
              go_round
              case rel => exact ⟨k + 1, by omega, by go_num, upto_next HA.out (by rw [EK.out, hL]; simp)⟩
              case measure => simp [intOf]; omega
          · have hy : Hid (NameP s) := ⟨by omega, by omega, letter_of (HA.out 0 (by omega)) (by rw [E0.out]; exact hd), fun j hj => HA.out j (by omega)⟩
            go_wp2
            go_ret
            exact ⟨Says.yes hy.out, rfl⟩
      · have hn : Hid (¬ NameP s) := fun h => by have h2 := h.2.2.1; rw [E0.out] at h2; rw [letB_digB h2] at hd; simp at hd
        go_enter Tryd.func113, Tryd.ntmps113
        go_wp2_with (go_at_call 122; refine (isDigit_any _ _).mono ?_; rintro e w' ⟨rfl, rfl⟩)
        go_ret
        exact ⟨Says.no hn.out, rfl⟩
set_option maxHeartbeats 400000 in
theorem specWord_any (s : ByteArray) (w : World) (hs : s.size ≤ maxLen) :
    Calls Tryd.prog 91 #[.string s] w fun e w' => Says e (NameP s) ∧ w' = w := by
  unfold maxLen at hs
  by_cases h0 : s.size = 0
  · have h1 : (s.size : Int) < 1 := by omega
    have hn : Hid (¬ NameP s) := fun h => by have := h.1; omega
    clear h0
    go_enter Tryd.func91, Tryd.ntmps91
    go_wp2
    go_ret
    exact ⟨Says.no hn.out, rfl⟩
  · have h1 : decide ((s.size : Int) < 1) = false := by simp; omega
    by_cases h2 : 12 < s.size
    · have hn : Hid (¬ NameP s) := fun h => by have := h.2.1; omega
      go_enter Tryd.func91, Tryd.ntmps91
      go_wp2
      go_ret
      exact ⟨Says.no hn.out, rfl⟩
    · have h3 : 0 < s.size := by omega
      have h4 : decide ((12 : Int) < (s.size : Int)) = false := by simp; omega
      have E0 : Hid (byteAt s 0 = (s[0].toNat : Int)) := byteAt_in h3
      cases hd : letB (s[0].toNat : Int)
      · have hn : Hid (¬ NameP s) := fun h => by have h2 := h.2.2.1; rw [E0.out, hd] at h2; simp at h2
        go_enter Tryd.func91, Tryd.ntmps91
        go_wp2_with (go_at_call 109; refine (specLetter_any _ _).mono ?_; rintro e w' ⟨rfl, rfl⟩)
        go_ret
        exact ⟨Says.no hn.out, rfl⟩
      · go_enter Tryd.func91, Tryd.ntmps91
        go_wp2_with (go_at_call 109; refine (specLetter_any _ _).mono ?_; rintro e w' ⟨rfl, rfl⟩)
        go_loop [3] (fun i => ∃ k : Nat, 1 ≤ k ∧ k ≤ s.size ∧ i = .int .i64 k ∧ ∀ j, j < k → (letB (byteAt s j) || digB (byteAt s j)) = true) (fun i => s.size - (intOf i).toNat)
        case atStart => exact ⟨1, by omega, by omega, rfl, fun j hj => by obtain rfl : j = 0 := (by omega); rw [E0.out, hd]; rfl⟩
        case round =>
          obtain ⟨k, hk1, hk, rfl, hall⟩ := hrel
          have HA : Hid (∀ j, j < k → (letB (byteAt s j) || digB (byteAt s j)) = true) := hall
          clear hall
          by_cases hlt : k < s.size
          · have EK : Hid (byteAt s k = (s[k].toNat : Int)) := byteAt_in hlt
            cases hL : letB (s[k].toNat : Int)
            · cases hD : digB (s[k].toNat : Int)
              · have hn : Hid (¬ NameP s) := not_name_at hlt hL hD
                go_wp2_with (first | (go_at_call 110; refine (specDigit_any _ _).mono ?_; rintro e w' ⟨rfl, rfl⟩) | (go_at_call 109; refine (specLetter_any _ _).mono ?_; rintro e w' ⟨rfl, rfl⟩))
                go_ret
                exact ⟨Says.no hn.out, rfl⟩
              · go_wp2_with (first | (go_at_call 110; refine (specDigit_any _ _).mono ?_; rintro e w' ⟨rfl, rfl⟩) | (go_at_call 109; refine (specLetter_any _ _).mono ?_; rintro e w' ⟨rfl, rfl⟩))
                go_round
                case rel => exact ⟨k + 1, by omega, by omega, by go_num, upto_next HA.out (by rw [EK.out, hD]; simp)⟩
                case measure => simp [intOf]; omega
            · go_wp2_with (first | (go_at_call 110; refine (specDigit_any _ _).mono ?_; rintro e w' ⟨rfl, rfl⟩) | (go_at_call 109; refine (specLetter_any _ _).mono ?_; rintro e w' ⟨rfl, rfl⟩))
              go_round
              case rel => exact ⟨k + 1, by omega, by omega, by go_num, upto_next HA.out (by rw [EK.out, hL]; simp)⟩
              case measure => simp [intOf]; omega
          · have hy : Hid (NameP s) := ⟨by omega, by omega, by rw [E0.out]; exact hd, fun j hj => HA.out j (by omega)⟩
            go_wp2
            go_ret
            exact ⟨Says.yes hy.out, rfl⟩

end Go.Proofs.YtmcopoonnhcdjaaDoor
