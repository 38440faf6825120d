/-
  The two functions that ask whether a text is a name, the program's and the specification's, answer true of just the same texts. No conditions but that the text is no longer than the model's greatest length.
-/
import Derived.Test.YtmcopoonnhcdjaaDoorNameWalks
import Derived.WalkSpells
namespace Go.Proofs.YtmcopoonnhcdjaaDoor
open Go.RowKit

/-- The k-th byte of a text, as a number; 0 behind its end. -/
def byteAt (s : ByteArray) (k : Nat) : Int := if h : k < s.size then (s[k].toNat : Int) else 0
theorem byteAt_in {s : ByteArray} {k : Nat} (h : k < s.size) : byteAt s k = (s[k].toNat : Int) := by simp [byteAt, h]

/-- What a name is. -/
def NameP (s : ByteArray) : Prop := 1 ≤ s.size ∧ s.size ≤ 12 ∧ letB (byteAt s 0) = true ∧ ∀ j, j < s.size → (letB (byteAt s j) || digB (byteAt s j)) = true

/-- An ending answers whether P holds. -/
def Says (e : Ending) (P : Prop) : Prop := ∃ b, e = .returned (.bool b) ∧ (b = true ↔ P)
theorem Says.no {P : Prop} (h : ¬ P) : Says (.returned (.bool false)) P := ⟨false, rfl, by simp [h]⟩
theorem Says.yes {P : Prop} (h : P) : Says (.returned (.bool true)) P := ⟨true, rfl, by simp [h]⟩

theorem not_name_at {s : ByteArray} {k : Nat} (h : k < s.size) (hl : letB (s[k].toNat : Int) = false) (hd : digB (s[k].toNat : Int) = false) : ¬ NameP s := by
  intro hn
  have := hn.2.2.2 k h
  rw [byteAt_in h, hl, hd] at this
  simp at this

theorem upto_next {p : Nat → Bool} {k : Nat} (h : ∀ j, j < k → p j = true) (hk : p k = true) : ∀ j, j < k + 1 → p j = true := by
  intro j hj
  by_cases e : j = k
  · rw [e]; exact hk
  · exact h j (by omega)

theorem letter_of {c : Int} (h : (letB c || digB c) = true) (hd : digB c = false) : letB c = true := by
  simpa [hd] using h

set_option maxHeartbeats 400000 in
theorem nameOK_any (s : ByteArray) (w : World) (hs : s.size ≤ maxLen) :
    Calls Tryd.prog 113 #[.string s] w fun e w' => Says e (NameP s) ∧ w' = w := by
  unfold maxLen at hs
  by_cases h0 : s.size = 0
  · have h1 : ((s.size : Int) == 0) = true := beq_iff_eq.2 (by omega)
    have hn : Hid (¬ NameP s) := fun h => by have := h.1; omega
    clear h0
    go_enter Tryd.func113, Tryd.ntmps113
    go_wp2
    go_ret
    exact ⟨Says.no hn.out, rfl⟩
  · have h1 : ((s.size : Int) == 0) = false := beq_eq_false_iff_ne.2 (by omega)
    by_cases h2 : 12 < s.size
    · have hn : Hid (¬ NameP s) := fun h => by have := h.2.1; omega
      go_enter Tryd.func113, Tryd.ntmps113
      go_wp2
      go_ret
      exact ⟨Says.no hn.out, rfl⟩
    · have h3 : 0 < s.size := by omega
      have h4 : decide ((12 : Int) < (s.size : Int)) = false := by simp; omega
      have E0 : Hid (byteAt s 0 = (s[0].toNat : Int)) := byteAt_in h3
      cases hd : digB (s[0].toNat : Int)
      · go_enter Tryd.func113, Tryd.ntmps113
        go_wp2_with (go_at_call 122; refine (isDigit_any _ _).mono ?_; rintro e w' ⟨rfl, rfl⟩)
        go_loop [3] (fun i => ∃ k : Nat, k ≤ s.size ∧ i = .int .i64 k ∧ ∀ j, j < k → (letB (byteAt s j) || digB (byteAt s j)) = true) (fun i => s.size - (intOf i).toNat)
        case atStart => exact ⟨0, by omega, rfl, fun j hj => absurd hj (Nat.not_lt_zero _)⟩
        case round =>
          obtain ⟨k, hk, rfl, hall⟩ := hrel
          have HA : Hid (∀ j, j < k → (letB (byteAt s j) || digB (byteAt s j)) = true) := hall
          clear hall
          by_cases hlt : k < s.size
          · have EK : Hid (byteAt s k = (s[k].toNat : Int)) := byteAt_in hlt
            cases hL : letB (s[k].toNat : Int)
            · cases hD : digB (s[k].toNat : Int)
              · have hn : Hid (¬ NameP s) := not_name_at hlt hL hD
                go_wp2_with (first | (go_at_call 122; refine (isDigit_any _ _).mono ?_; rintro e w' ⟨rfl, rfl⟩) | (go_at_call 123; refine (isLetter_any _ _).mono ?_; rintro e w' ⟨rfl, rfl⟩))
                go_ret
                exact ⟨Says.no hn.out, rfl⟩
              · go_wp2_with (first | (go_at_call 122; refine (isDigit_any _ _).mono ?_; rintro e w' ⟨rfl, rfl⟩) | (go_at_call 123; refine (isLetter_any _ _).mono ?_; rintro e w' ⟨rfl, rfl⟩))
                go_round
                case rel => exact ⟨k + 1, by omega, by go_num, upto_next HA.out (by rw [EK.out, hD]; simp)⟩
                case measure => simp [intOf]; omega
            · go_wp2_with (first | (go_at_call 122; refine (isDigit_any _ _).mono ?_; rintro e w' ⟨rfl, rfl⟩) | (go_at_call 123; refine (isLetter_any _ _).mono ?_; rintro e w' ⟨rfl, rfl⟩))
              go_round
              case rel => exact ⟨k + 1, by omega, by go_num, upto_next HA.out (by rw [EK.out, hL]; simp)⟩
              case measure => simp [intOf]; omega
          · have hy : Hid (NameP s) := ⟨by omega, by omega, letter_of (HA.out 0 (by omega)) (by rw [E0.out]; exact hd), fun j hj => HA.out j (by omega)⟩
            go_wp2
            go_ret
            exact ⟨Says.yes hy.out, rfl⟩
      · have hn : Hid (¬ NameP s) := fun h => by have h2 := h.2.2.1; rw [E0.out] at h2; rw [letB_digB h2] at hd; simp at hd
        go_enter Tryd.func113, Tryd.ntmps113
        go_wp2_with (go_at_call 122; refine (isDigit_any _ _).mono ?_; rintro e w' ⟨rfl, rfl⟩)
        go_ret
        exact ⟨Says.no hn.out, rfl⟩
set_option maxHeartbeats 400000 in
theorem specWord_any (s : ByteArray) (w : World) (hs : s.size ≤ maxLen) :
    Calls Tryd.prog 91 #[.string s] w fun e w' => Says e (NameP s) ∧ w' = w := by
  unfold maxLen at hs
  by_cases h0 : s.size = 0
  · have h1 : (s.size : Int) < 1 := by omega
    have hn : Hid (¬ NameP s) := fun h => by have := h.1; omega
    clear h0
    go_enter Tryd.func91, Tryd.ntmps91
    go_wp2
    go_ret
    exact ⟨Says.no hn.out, rfl⟩
  · have h1 : decide ((s.size : Int) < 1) = false := by simp; omega
    by_cases h2 : 12 < s.size
    · have hn : Hid (¬ NameP s) := fun h => by have := h.2.1; omega
      go_enter Tryd.func91, Tryd.ntmps91
      go_wp2
      go_ret
      exact ⟨Says.no hn.out, rfl⟩
    · have h3 : 0 < s.size := by omega
      have h4 : decide ((12 : Int) < (s.size : Int)) = false := by simp; omega
      have E0 : Hid (byteAt s 0 = (s[0].toNat : Int)) := byteAt_in h3
      cases hd : letB (s[0].toNat : Int)
      · have hn : Hid (¬ NameP s) := fun h => by have h2 := h.2.2.1; rw [E0.out, hd] at h2; simp at h2
        go_enter Tryd.func91, Tryd.ntmps91
        go_wp2_with (go_at_call 109; refine (specLetter_any _ _).mono ?_; rintro e w' ⟨rfl, rfl⟩)
        go_ret
        exact ⟨Says.no hn.out, rfl⟩
      · go_enter Tryd.func91, Tryd.ntmps91
        go_wp2_with (go_at_call 109; refine (specLetter_any _ _).mono ?_; rintro e w' ⟨rfl, rfl⟩)
        go_loop [3] (fun i => ∃ k : Nat, 1 ≤ k ∧ k ≤ s.size ∧ i = .int .i64 k ∧ ∀ j, j < k → (letB (byteAt s j) || digB (byteAt s j)) = true) (fun i => s.size - (intOf i).toNat)
        case atStart => exact ⟨1, by omega, by omega, rfl, fun j hj => by obtain rfl : j = 0 := (by omega); rw [E0.out, hd]; rfl⟩
        case round =>
          obtain ⟨k, hk1, hk, rfl, hall⟩ := hrel
          have HA : Hid (∀ j, j < k → (letB (byteAt s j) || digB (byteAt s j)) = true) := hall
          clear hall
          by_cases hlt : k < s.size
          · have EK : Hid (byteAt s k = (s[k].toNat : Int)) := byteAt_in hlt
            cases hL : letB (s[k].toNat : Int)
            · cases hD : digB (s[k].toNat : Int)
              · have hn : Hid (¬ NameP s) := not_name_at hlt hL hD
                go_wp2_with (first | (go_at_call 110; refine (specDigit_any _ _).mono ?_; rintro e w' ⟨rfl, rfl⟩) | (go_at_call 109; refine (specLetter_any _ _).mono ?_; rintro e w' ⟨rfl, rfl⟩))
                go_ret
                exact ⟨Says.no hn.out, rfl⟩
              · go_wp2_with (first | (go_at_call 110; refine (specDigit_any _ _).mono ?_; rintro e w' ⟨rfl, rfl⟩) | (go_at_call 109; refine (specLetter_any _ _).mono ?_; rintro e w' ⟨rfl, rfl⟩))
                go_round
                case rel => exact ⟨k + 1, by omega, by omega, by go_num, upto_next HA.out (by rw [EK.out, hD]; simp)⟩
                case measure => simp [intOf]; omega
            · go_wp2_with (first | (go_at_call 110; refine (specDigit_any _ _).mono ?_; rintro e w' ⟨rfl, rfl⟩) | (go_at_call 109; refine (specLetter_any _ _).mono ?_; rintro e w' ⟨rfl, rfl⟩))
              go_round
              case rel => exact ⟨k + 1, by omega, by omega, by go_num, upto_next HA.out (by rw [EK.out, hL]; simp)⟩
              case measure => simp [intOf]; omega
          · have hy : Hid (NameP s) := ⟨by omega, by omega, by rw [E0.out]; exact hd, fun j hj => HA.out j (by omega)⟩
            go_wp2
            go_ret
            exact ⟨Says.yes hy.out, rfl⟩

end Go.Proofs.YtmcopoonnhcdjaaDoor
