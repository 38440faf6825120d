/-
  What each function on the road of 'laws.FnExactNameOK' answers: a byte is a digit, a byte is a letter of names, a text is a name. No conditions but that the text is no longer than the model's greatest length.
  The two functions that ask whether a text is a name, the program's and the specification's, answer true of just the same texts. No conditions but that the text is no longer than the model's greatest length.
  Whether a rule is one of a schema of so many rules: what the specification and the program answer.
  The kind of a name among rules: what the specification and the program answer.
  Whether a list of rules is a schema: what the specification and the program answer.
  What is asked of a schema ahead of all else, plainly.
  What is asked of a schema ahead of all else.
-/
import Derived.Test.YtpkblnponeonkaaDoorProg
import Derived.WalkKit
import Derived.WalkSpells
import Derived.Test.YtpkblnponeonkaaDoorSchTermImpl
import Derived.Test.YtpkblnponeonkaaDoorSchEq
namespace Go.Proofs.YtpkblnponeonkaaDoor
open Go.RowKit

/-- A byte, as a number, is one of '0' to '9'. -/
def digB (c : Int) : Bool := decide (48 ≤ c) && decide (c ≤ 57)
/-- A byte, as a number, is a letter or the low line. -/
def letB (c : Int) : Bool := (decide (97 ≤ c) && decide (c ≤ 122)) || (decide (65 ≤ c) && decide (c ≤ 90)) || c == 95

theorem letB_digB {c : Int} (h : letB c = true) : digB c = false := by
  simp [letB, digB] at *; omega

theorem letB_t {c : Int} (h : (97 ≤ c ∧ c ≤ 122) ∨ (65 ≤ c ∧ c ≤ 90) ∨ c = 95) : letB c = true := by
  simp [letB]; omega
theorem letB_f {c : Int} (h : ¬ ((97 ≤ c ∧ c ≤ 122) ∨ (65 ≤ c ∧ c ≤ 90) ∨ c = 95)) : letB c = false := by
  simp [letB]; omega

theorem isDigit_any (c : Int) (w : World) : Calls Tryd.prog 159 #[.int .u8 c] w fun e w' => e = .returned (.bool (digB c)) ∧ w' = w := by
  by_cases h1 : 48 ≤ c <;> by_cases h2 : c ≤ 57
  all_goals
    go_enter Tryd.func159, Tryd.ntmps159
    go_wp2
    go_ret
    exact ⟨by simp [digB, h1, h2], rfl⟩

theorem specDigit_any (c : Int) (w : World) : Calls Tryd.prog 122 #[.int .u8 c] w fun e w' => e = .returned (.bool (digB c)) ∧ w' = w := by
  by_cases h1 : 48 ≤ c <;> by_cases h2 : c ≤ 57
  all_goals
    go_enter Tryd.func122, Tryd.ntmps122
    go_wp2
    go_ret
    exact ⟨by simp [digB, h1, h2], rfl⟩

theorem isLetter_any (c : Int) (w : World) : Calls Tryd.prog 161 #[.int .u8 c] w fun e w' => e = .returned (.bool (letB c)) ∧ w' = w := by
  by_cases h1 : 97 ≤ c
  · by_cases h2 : c ≤ 122
    · go_enter Tryd.func161, Tryd.ntmps161
      go_wp2
      go_ret
      exact ⟨by rw [letB_t (by omega)]; rfl, rfl⟩
    · have h3 : (c == 95) = false := by simp; omega
      have h4 : 65 ≤ c := by omega
      have h5 : 90 < c := by omega
      have h6 : decide (c ≤ 90) = false := by simp; omega
      go_enter Tryd.func161, Tryd.ntmps161
      go_wp2
      go_ret
      exact ⟨by rw [letB_f (by omega)]; rfl, rfl⟩
  · by_cases h2 : 65 ≤ c
    · by_cases h3 : c ≤ 90
      · go_enter Tryd.func161, Tryd.ntmps161
        go_wp2
        go_ret
        exact ⟨by rw [letB_t (by omega)]; rfl, rfl⟩
      · by_cases h4 : c = 95
        · have h5 : (c == 95) = true := by simp; omega
          have H4 : Hid (c = 95) := h4
          clear h4
          go_enter Tryd.func161, Tryd.ntmps161
          go_wp2
          go_ret
          have h4 := H4.out
          exact ⟨by rw [letB_t (by omega)]; rfl, rfl⟩
        · have h5 : (c == 95) = false := by simp; omega
          go_enter Tryd.func161, Tryd.ntmps161
          go_wp2
          go_ret
          exact ⟨by rw [letB_f (by omega)]; rfl, rfl⟩
    · have h5 : (c == 95) = false := by simp; omega
      go_enter Tryd.func161, Tryd.ntmps161
      go_wp2
      go_ret
      exact ⟨by rw [letB_f (by omega)]; rfl, rfl⟩

theorem specLetter_any (c : Int) (w : World) : Calls Tryd.prog 125 #[.int .u8 c] w fun e w' => e = .returned (.bool (letB c)) ∧ w' = w := by
  by_cases h1 : 97 ≤ c
  · by_cases h2 : c ≤ 122
    · go_enter Tryd.func125, Tryd.ntmps125
      go_wp2
      go_ret
      exact ⟨by rw [letB_t (by omega)]; rfl, rfl⟩
    · have h3 : (c == 95) = false := by simp; omega
      have h4 : 65 ≤ c := by omega
      have h5 : 90 < c := by omega
      have h6 : decide (c ≤ 90) = false := by simp; omega
      go_enter Tryd.func125, Tryd.ntmps125
      go_wp2
      go_ret
      exact ⟨by rw [letB_f (by omega)]; rfl, rfl⟩
  · by_cases h2 : 65 ≤ c
    · by_cases h3 : c ≤ 90
      · go_enter Tryd.func125, Tryd.ntmps125
        go_wp2
        go_ret
        exact ⟨by rw [letB_t (by omega)]; rfl, rfl⟩
      · by_cases h4 : c = 95
        · have h5 : (c == 95) = true := by simp; omega
          have H4 : Hid (c = 95) := h4
          clear h4
          go_enter Tryd.func125, Tryd.ntmps125
          go_wp2
          go_ret
          have h4 := H4.out
          exact ⟨by rw [letB_t (by omega)]; rfl, rfl⟩
        · have h5 : (c == 95) = false := by simp; omega
          go_enter Tryd.func125, Tryd.ntmps125
          go_wp2
          go_ret
          exact ⟨by rw [letB_f (by omega)]; rfl, rfl⟩
    · have h5 : (c == 95) = false := by simp; omega
      go_enter Tryd.func125, Tryd.ntmps125
      go_wp2
      go_ret
      exact ⟨by rw [letB_f (by omega)]; rfl, rfl⟩

end Go.Proofs.YtpkblnponeonkaaDoor

namespace Go.Proofs.YtpkblnponeonkaaDoor
open Go.RowKit

/-- The k-th byte of a text, as a number; 0 behind its end. -/
def byteAt (s : ByteArray) (k : Nat) : Int := if h : k < s.size then (s[k].toNat : Int) else 0
theorem byteAt_in {s : ByteArray} {k : Nat} (h : k < s.size) : byteAt s k = (s[k].toNat : Int) := by simp [byteAt, h]

/-- What a name is. -/
def NameP (s : ByteArray) : Prop := 1 ≤ s.size ∧ s.size ≤ 12 ∧ letB (byteAt s 0) = true ∧ ∀ j, j < s.size → (letB (byteAt s j) || digB (byteAt s j)) = true

/-- An ending answers whether P holds. -/
def Says (e : Ending) (P : Prop) : Prop := ∃ b, e = .returned (.bool b) ∧ (b = true ↔ P)
theorem Says.no {P : Prop} (h : ¬ P) : Says (.returned (.bool false)) P := ⟨false, rfl, by simp [h]⟩
theorem Says.yes {P : Prop} (h : P) : Says (.returned (.bool true)) P := ⟨true, rfl, by simp [h]⟩

theorem not_name_at {s : ByteArray} {k : Nat} (h : k < s.size) (hl : letB (s[k].toNat : Int) = false) (hd : digB (s[k].toNat : Int) = false) : ¬ NameP s := by
  intro hn
  have := hn.2.2.2 k h
  rw [byteAt_in h, hl, hd] at this
  simp at this

theorem upto_next {p : Nat → Bool} {k : Nat} (h : ∀ j, j < k → p j = true) (hk : p k = true) : ∀ j, j < k + 1 → p j = true := by
  intro j hj
  by_cases e : j = k
  · rw [e]; exact hk
  · exact h j (by omega)

theorem letter_of {c : Int} (h : (letB c || digB c) = true) (hd : digB c = false) : letB c = true := by
  simpa [hd] using h

set_option maxHeartbeats 400000 in
theorem nameOK_any (s : ByteArray) (w : World) (hs : s.size ≤ maxLen) :
    Calls Tryd.prog 146 #[.string s] w fun e w' => Says e (NameP s) ∧ w' = w := by
  unfold maxLen at hs
  by_cases h0 : s.size = 0
  · have h1 : ((s.size : Int) == 0) = true := beq_iff_eq.2 (by omega)
    have hn : Hid (¬ NameP s) := fun h => by have := h.1; omega
    clear h0
    go_enter Tryd.func146, Tryd.ntmps146
    go_wp2
    go_ret
    exact ⟨Says.no hn.out, rfl⟩
  · have h1 : ((s.size : Int) == 0) = false := beq_eq_false_iff_ne.2 (by omega)
    by_cases h2 : 12 < s.size
    · have hn : Hid (¬ NameP s) := fun h => by have := h.2.1; omega
      go_enter Tryd.func146, Tryd.ntmps146
      go_wp2
      go_ret
      exact ⟨Says.no hn.out, rfl⟩
    · have h3 : 0 < s.size := by omega
      have h4 : decide ((12 : Int) < (s.size : Int)) = false := by simp; omega
      have E0 : Hid (byteAt s 0 = (s[0].toNat : Int)) := byteAt_in h3
      cases hd : digB (s[0].toNat : Int)
      · go_enter Tryd.func146, Tryd.ntmps146
        go_wp2_with (go_at_call 159; refine (isDigit_any _ _).mono ?_; rintro e w' ⟨rfl, rfl⟩)
        go_loop [3] (fun i => ∃ k : Nat, k ≤ s.size ∧ i = .int .i64 k ∧ ∀ j, j < k → (letB (byteAt s j) || digB (byteAt s j)) = true) (fun i => s.size - (intOf i).toNat)
        case atStart => exact ⟨0, by omega, rfl, fun j hj => absurd hj (Nat.not_lt_zero _)⟩
        case round =>
          obtain ⟨k, hk, rfl, hall⟩ := hrel
          have HA : Hid (∀ j, j < k → (letB (byteAt s j) || digB (byteAt s j)) = true) := hall
          clear hall
          by_cases hlt : k < s.size
          · have EK : Hid (byteAt s k = (s[k].toNat : Int)) := byteAt_in hlt
            cases hL : letB (s[k].toNat : Int)
            · cases hD : digB (s[k].toNat : Int)
              · have hn : Hid (¬ NameP s) := not_name_at hlt hL hD
                go_wp2_with (first | (go_at_call 159; refine (isDigit_any _ _).mono ?_; rintro e w' ⟨rfl, rfl⟩) | (go_at_call 161; refine (isLetter_any _ _).mono ?_; rintro e w' ⟨rfl, rfl⟩))
                go_ret
                exact ⟨Says.no hn.out, rfl⟩
              · go_wp2_with (first | (go_at_call 159; refine (isDigit_any _ _).mono ?_; rintro e w' ⟨rfl, rfl⟩) | (go_at_call 161; refine (isLetter_any _ _).mono ?_; rintro e w' ⟨rfl, rfl⟩))
                go_round
                case rel => exact ⟨k + 1, by omega, by go_num, upto_next HA.out (by rw [EK.out, hD]; simp)⟩
                case measure => simp [intOf]; omega
            · go_wp2_with (first | (go_at_call 159; refine (isDigit_any _ _).mono ?_; rintro e w' ⟨rfl, rfl⟩) | (go_at_call 161; refine (isLetter_any _ _).mono ?_; rintro e w' ⟨rfl, rfl⟩))
              go_round
              case rel => exact ⟨k + 1, by omega, by go_num, upto_next HA.out (by rw [EK.out, hL]; simp)⟩
              case measure => simp [intOf]; omega
          · have hy : Hid (NameP s) := ⟨by omega, by omega, letter_of (HA.out 0 (by omega)) (by rw [E0.out]; exact hd), fun j hj => HA.out j (by omega)⟩
            go_wp2
            go_ret
            exact ⟨Says.yes hy.out, rfl⟩
      · have hn : Hid (¬ NameP s) := fun h => by have h2 := h.2.2.1; rw [E0.out] at h2; rw [letB_digB h2] at hd; simp at hd
        go_enter Tryd.func146, Tryd.ntmps146
        go_wp2_with (go_at_call 159; refine (isDigit_any _ _).mono ?_; rintro e w' ⟨rfl, rfl⟩)
        go_ret
        exact ⟨Says.no hn.out, rfl⟩
set_option maxHeartbeats 400000 in
theorem specWord_any (s : ByteArray) (w : World) (hs : s.size ≤ maxLen) :
    Calls Tryd.prog 102 #[.string s] w fun e w' => Says e (NameP s) ∧ w' = w := by
  unfold maxLen at hs
  by_cases h0 : s.size = 0
  · have h1 : (s.size : Int) < 1 := by omega
    have hn : Hid (¬ NameP s) := fun h => by have := h.1; omega
    clear h0
    go_enter Tryd.func102, Tryd.ntmps102
    go_wp2
    go_ret
    exact ⟨Says.no hn.out, rfl⟩
  · have h1 : decide ((s.size : Int) < 1) = false := by simp; omega
    by_cases h2 : 12 < s.size
    · have hn : Hid (¬ NameP s) := fun h => by have := h.2.1; omega
      go_enter Tryd.func102, Tryd.ntmps102
      go_wp2
      go_ret
      exact ⟨Says.no hn.out, rfl⟩
    · have h3 : 0 < s.size := by omega
      have h4 : decide ((12 : Int) < (s.size : Int)) = false := by simp; omega
      have E0 : Hid (byteAt s 0 = (s[0].toNat : Int)) := byteAt_in h3
      cases hd : letB (s[0].toNat : Int)
      · have hn : Hid (¬ NameP s) := fun h => by have h2 := h.2.2.1; rw [E0.out, hd] at h2; simp at h2
        go_enter Tryd.func102, Tryd.ntmps102
        go_wp2_with (go_at_call 125; refine (specLetter_any _ _).mono ?_; rintro e w' ⟨rfl, rfl⟩)
        go_ret
        exact ⟨Says.no hn.out, rfl⟩
      · go_enter Tryd.func102, Tryd.ntmps102
        go_wp2_with (go_at_call 125; refine (specLetter_any _ _).mono ?_; rintro e w' ⟨rfl, rfl⟩)
        go_loop [3] (fun i => ∃ k : Nat, 1 ≤ k ∧ k ≤ s.size ∧ i = .int .i64 k ∧ ∀ j, j < k → (letB (byteAt s j) || digB (byteAt s j)) = true) (fun i => s.size - (intOf i).toNat)
        case atStart => exact ⟨1, by omega, by omega, rfl, fun j hj => by obtain rfl : j = 0 := (by omega); rw [E0.out, hd]; rfl⟩
        case round =>
          obtain ⟨k, hk1, hk, rfl, hall⟩ := hrel
          have HA : Hid (∀ j, j < k → (letB (byteAt s j) || digB (byteAt s j)) = true) := hall
          clear hall
          by_cases hlt : k < s.size
          · have EK : Hid (byteAt s k = (s[k].toNat : Int)) := byteAt_in hlt
            cases hL : letB (s[k].toNat : Int)
            · cases hD : digB (s[k].toNat : Int)
              · have hn : Hid (¬ NameP s) := not_name_at hlt hL hD
                go_wp2_with (first | (go_at_call 122; refine (specDigit_any _ _).mono ?_; rintro e w' ⟨rfl, rfl⟩) | (go_at_call 125; refine (specLetter_any _ _).mono ?_; rintro e w' ⟨rfl, rfl⟩))
                go_ret
                exact ⟨Says.no hn.out, rfl⟩
              · go_wp2_with (first | (go_at_call 122; refine (specDigit_any _ _).mono ?_; rintro e w' ⟨rfl, rfl⟩) | (go_at_call 125; refine (specLetter_any _ _).mono ?_; rintro e w' ⟨rfl, rfl⟩))
                go_round
                case rel => exact ⟨k + 1, by omega, by omega, by go_num, upto_next HA.out (by rw [EK.out, hD]; simp)⟩
                case measure => simp [intOf]; omega
            · go_wp2_with (first | (go_at_call 122; refine (specDigit_any _ _).mono ?_; rintro e w' ⟨rfl, rfl⟩) | (go_at_call 125; refine (specLetter_any _ _).mono ?_; rintro e w' ⟨rfl, rfl⟩))
              go_round
              case rel => exact ⟨k + 1, by omega, by omega, by go_num, upto_next HA.out (by rw [EK.out, hL]; simp)⟩
              case measure => simp [intOf]; omega
          · have hy : Hid (NameP s) := ⟨by omega, by omega, by rw [E0.out]; exact hd, fun j hj => HA.out j (by omega)⟩
            go_wp2
            go_ret
            exact ⟨Says.yes hy.out, rfl⟩

end Go.Proofs.YtpkblnponeonkaaDoor

namespace Go.Proofs.YtpkblnponeonkaaDoor
open Go.RowKit

def textWord : ByteArray := ⟨#[116, 101, 120, 116]⟩

theorem toList_inj {s t : ByteArray} (h : s.toList = t.toList) : s = t := by
  rw [ByteArray.toList_eq, ByteArray.toList_eq] at h
  cases s; cases t
  simpa using h

theorem textWord_eq (s : ByteArray) : (s.toList == [116, 101, 120, 116]) = true ↔ s = textWord := by
  have e : textWord.toList = [116, 101, 120, 116] := by decide +kernel
  rw [beq_iff_eq, ← e]
  exact ⟨toList_inj, fun h => by rw [h]⟩

theorem says_dec {e : Ending} {P : Prop} (h : Says e P) : e = .returned (.bool (dec P)) := by
  obtain ⟨b, rfl, hb⟩ := h
  exact ret_bool (Bool.eq_iff_iff.2 (hb.trans (dec_iff P).symm))

structure RuleP (rules : Int) (x : PRule) : Prop where
  name : NameP x.name
  other : x.name ≠ textWord
  leaf : x.leaf = true → x.terms = []
  terms : TermsP rules x.terms

set_option maxHeartbeats 1000000 in
set_option maxRecDepth 100000 in
theorem specRule_any (n₀ : Nat) (v : Value) (x : PRule) (rules : Int) (w : World) (h : RuleVal n₀ w v x) (hn : n₀ ≤ w.heap.size) (hl : SmallRule x) (h1 : 1 ≤ rules) (h8 : rules ≤ 8) (r : Bool) (hr : r = true ↔ RuleP rules x) :
    Calls Tryd.prog 78 #[v, .int .i64 rules] w fun e w' => e = .returned (.bool r) ∧ Below w.heap.size w w' := by
  obtain ⟨kv, rfl, a, cap, rfl, hk⟩ := h
  have HR := hide hr
  have hl1 := hl.terms.len
  have HKL := hide hl.terms.kinds
  have HNm : Hid (x.name.size ≤ maxLen) := by have := hl.name; unfold Hid maxLen; omega
  have HW : Hid (∀ wx, Calls Tryd.prog 102 #[.string x.name] wx fun e w' => e = .returned (.bool (dec (NameP x.name))) ∧ w' = wx) := fun wx => (specWord_any x.name wx HNm.out).mono fun e w' ⟨h, h'⟩ => ⟨says_dec h, h'⟩
  have HD := hide (dec_iff (NameP x.name))
  have HT := hide (textWord_eq x.name)
  clear hr hl
  generalize dec (NameP x.name) = nb at *
  generalize hte : (x.name.toList == [116, 101, 120, 116]) = te at *
  obtain ⟨lf, hlf0⟩ : ∃ lf, x.leaf = lf := ⟨_, rfl⟩
  rw [hlf0]
  have HLF := hide hlf0
  clear hlf0
  obtain ⟨b4, hb4⟩ : ∃ b4 : Bool, decide ((4 : Int) < (x.terms.length : Int)) = b4 := ⟨_, rfl⟩
  obtain ⟨b0, hb0⟩ : ∃ b0 : Bool, decide (0 < x.terms.length) = b0 := ⟨_, rfl⟩
  have hb0i : decide ((0 : Int) < (x.terms.length : Int)) = b0 := by rw [← hb0]; simp
  have HB4 := hide hb4
  have HB0 := hide hb0
  cases hbad : (!nb || te || b4 || (lf && b0)) with
  | true =>
    have hf : Hid (r = false) := no_of HR.out fun T => by
      have e1 : nb = true := HD.out.2 T.name
      have e2 : te = false := no_of HT.out T.other
      have e3 : b4 = false := by rw [← HB4.out]; have := T.terms.len; simp; omega
      have e4 : lf = true → b0 = false := fun h => by rw [← HB0.out]; have := T.leaf (HLF.out.trans h); simp [this]
      rw [e1, e2, e3] at hbad
      simp at hbad
      rw [e4 hbad.1] at hbad
      cases hbad.2
    clear hk
    cases nb with
    | false =>
      clear hbad
      go_enter Tryd.func78, Tryd.ntmps78
      go_wp2_with (go_at_call 102; refine (HW.out _).mono ?_; rintro e w' ⟨rfl, rfl⟩)
      go_ret
      exact ⟨ret_bool hf.out.symm, (Below.refl _ _).alloc (Nat.le_refl _) _⟩
    | true =>
      cases te with
      | true =>
        clear hbad
        go_enter Tryd.func78, Tryd.ntmps78
        go_wp2_with (go_at_call 102; refine (HW.out _).mono ?_; rintro e w' ⟨rfl, rfl⟩)
        go_ret
        exact ⟨ret_bool hf.out.symm, (Below.refl _ _).alloc (Nat.le_refl _) _⟩
      | false =>
        cases b4 with
        | true =>
          clear hbad
          go_enter Tryd.func78, Tryd.ntmps78
          go_wp2_with (go_at_call 102; refine (HW.out _).mono ?_; rintro e w' ⟨rfl, rfl⟩)
          go_ret
          exact ⟨ret_bool hf.out.symm, (Below.refl _ _).alloc (Nat.le_refl _) _⟩
        | false =>
          simp only [Bool.not_true, Bool.false_or, Bool.and_eq_true] at hbad
          obtain ⟨rfl, rfl⟩ := hbad
          go_enter Tryd.func78, Tryd.ntmps78
          go_wp2_with (go_at_call 102; refine (HW.out _).mono ?_; rintro e w' ⟨rfl, rfl⟩)
          go_ret
          exact ⟨ret_bool hf.out.symm, (Below.refl _ _).alloc (Nat.le_refl _) _⟩
  | false =>
    simp only [Bool.or_eq_false_iff, Bool.not_eq_false', Bool.and_eq_false_iff] at hbad
    obtain ⟨⟨⟨rfl, rfl⟩, rfl⟩, e4⟩ := hbad
    have HG : Hid (NameP x.name ∧ x.name ≠ textWord ∧ x.terms.length ≤ 4 ∧ (x.leaf = true → x.terms = [])) := by
      refine ⟨HD.out.1 rfl, fun h => (by have := HT.out.2 h; cases this), (by have := HB4.out; simp at this; omega), fun h => ?_⟩
      rcases e4 with e4 | e4
      · rw [← HLF.out, h] at e4; cases e4
      · have := HB0.out; rw [e4] at this; simpa using this
    have e4' : lf = false ∨ (lf = true ∧ b0 = false) := by
      cases lf with
      | false => exact .inl rfl
      | true => exact .inr ⟨rfl, e4.resolve_left (by simp)⟩
    clear e4
    rcases e4' with rfl | ⟨rfl, rfl⟩
    · go_enter Tryd.func78, Tryd.ntmps78
      go_wp2_with (go_at_call 102; refine (HW.out _).mono ?_; rintro e w' ⟨rfl, rfl⟩)
      go_loopw [5] (fun i wr => ∃ k : Nat, k ≤ x.terms.length ∧ i = .int .i64 k ∧ Hid (∀ t ∈ x.terms.take k, TermP rules t) ∧ Below (w.heap.size + 1) (w.alloc (.cells #[.string x.name, .bool false, .slice a x.terms.length cap] 87)) wr) (fun i _ => x.terms.length - (intOf i).toNat)
      case atStart => exact ⟨0, Nat.zero_le _, rfl, by simp [Hid], Below.refl _ _⟩
      case round =>
        obtain ⟨k, hkl, rfl, hall, hbr⟩ := hrel
        have hsz := hbr.size
        simp only [World.size_alloc] at hsz
        have hszl : w.heap.size < wr.heap.size := by omega
        have c2 : wr.cell? ⟨w.heap.size, 2, none⟩ = some (.slice a x.terms.length cap) := by rw [hbr.cell (p := ⟨w.heap.size, 2, none⟩) (by simp)]; simp
        have hw0 : Below w.heap.size w wr := ((Below.refl _ _).alloc (Nat.le_refl _) _).trans (hbr.mono (by omega))
        by_cases hlt : k < x.terms.length
        · obtain ⟨b, off, rfl, hb, hc⟩ := hk.resolve_left (by intro e; simp [e] at hlt)
          have hA := (hc k hlt).below hb (Nat.le_refl _) (hw0.mono hn)
          have g1 := hA.c1
          obtain ⟨kv, g0, hi⟩ := hA.c0
          have hbw : b < wr.heap.size := by omega
          have HMem : Hid (x.terms[k]?.getD termNil ∈ x.terms) := by simp [Hid, hlt]
          have HSn := hide (take_snoc_all (d := termNil) hlt hall.out)
          have HCall : Hid (Calls Tryd.prog 103 #[.agg #[kv, .int .i64 (x.terms[k]?.getD termNil).many], .int .i64 rules] wr fun e w' => e = .returned (.bool (dec (TermP rules (x.terms[k]?.getD termNil)))) ∧ Below wr.heap.size wr w') :=
            specTerm_any n₀ _ (x.terms[k]?.getD termNil) rules wr ⟨kv, rfl, hi⟩ (by omega) (HKL.out _ HMem.out) h1 h8 _ (dec_iff _)
          obtain ⟨ak, ck, rfl, -⟩ := hi
          clear hA hc hk hall
          generalize x.terms[k]?.getD termNil = y at *
          have HD := hide (dec_iff (TermP rules y))
          generalize dec (TermP rules y) = q at *
          go_wp2_with fail
          refine HCall.out.mono ?_
          rintro e w1 ⟨rfl, hb1⟩
          cases q with
          | false =>
            have hf : Hid (r = false) := no_of HR.out fun T => by have := HD.out.2 (T.terms.all _ HMem.out); cases this
            go_wp2_with fail
            go_ret
            exact ⟨ret_bool hf.out.symm, hw0.trans (hb1.mono (by omega))⟩
          | true =>
            have HA2 := hide (HSn.out (HD.out.1 rfl))
            go_wp2_with fail
            exact ⟨⟨k + 1, by omega, by go_num, HA2, hbr.trans (hb1.mono hsz)⟩, by simp [intOf]; omega⟩
        · have hy : Hid (r = true) := HR.out.2 ⟨HG.out.1, HG.out.2.1, HG.out.2.2.2, HG.out.2.2.1, by have := hall.out; rwa [List.take_of_length_le (by omega)] at this⟩
          clear hk
          go_wp2_with fail
          go_ret
          exact ⟨ret_bool hy.out.symm, hw0⟩
    · go_enter Tryd.func78, Tryd.ntmps78
      go_wp2_with (go_at_call 102; refine (HW.out _).mono ?_; rintro e w' ⟨rfl, rfl⟩)
      go_loopw [5] (fun i wr => ∃ k : Nat, k ≤ x.terms.length ∧ i = .int .i64 k ∧ Hid (∀ t ∈ x.terms.take k, TermP rules t) ∧ Below (w.heap.size + 1) (w.alloc (.cells #[.string x.name, .bool true, .slice a x.terms.length cap] 87)) wr) (fun i _ => x.terms.length - (intOf i).toNat)
      case atStart => exact ⟨0, Nat.zero_le _, rfl, by simp [Hid], Below.refl _ _⟩
      case round =>
        obtain ⟨k, hkl, rfl, hall, hbr⟩ := hrel
        have hsz := hbr.size
        simp only [World.size_alloc] at hsz
        have hszl : w.heap.size < wr.heap.size := by omega
        have c2 : wr.cell? ⟨w.heap.size, 2, none⟩ = some (.slice a x.terms.length cap) := by rw [hbr.cell (p := ⟨w.heap.size, 2, none⟩) (by simp)]; simp
        have hw0 : Below w.heap.size w wr := ((Below.refl _ _).alloc (Nat.le_refl _) _).trans (hbr.mono (by omega))
        by_cases hlt : k < x.terms.length
        · obtain ⟨b, off, rfl, hb, hc⟩ := hk.resolve_left (by intro e; simp [e] at hlt)
          have hA := (hc k hlt).below hb (Nat.le_refl _) (hw0.mono hn)
          have g1 := hA.c1
          obtain ⟨kv, g0, hi⟩ := hA.c0
          have hbw : b < wr.heap.size := by omega
          have HMem : Hid (x.terms[k]?.getD termNil ∈ x.terms) := by simp [Hid, hlt]
          have HSn := hide (take_snoc_all (d := termNil) hlt hall.out)
          have HCall : Hid (Calls Tryd.prog 103 #[.agg #[kv, .int .i64 (x.terms[k]?.getD termNil).many], .int .i64 rules] wr fun e w' => e = .returned (.bool (dec (TermP rules (x.terms[k]?.getD termNil)))) ∧ Below wr.heap.size wr w') :=
            specTerm_any n₀ _ (x.terms[k]?.getD termNil) rules wr ⟨kv, rfl, hi⟩ (by omega) (HKL.out _ HMem.out) h1 h8 _ (dec_iff _)
          obtain ⟨ak, ck, rfl, -⟩ := hi
          clear hA hc hk hall
          generalize x.terms[k]?.getD termNil = y at *
          have HD := hide (dec_iff (TermP rules y))
          generalize dec (TermP rules y) = q at *
          go_wp2_with fail
          refine HCall.out.mono ?_
          rintro e w1 ⟨rfl, hb1⟩
          cases q with
          | false =>
            have hf : Hid (r = false) := no_of HR.out fun T => by have := HD.out.2 (T.terms.all _ HMem.out); cases this
            go_wp2_with fail
            go_ret
            exact ⟨ret_bool hf.out.symm, hw0.trans (hb1.mono (by omega))⟩
          | true =>
            have HA2 := hide (HSn.out (HD.out.1 rfl))
            go_wp2_with fail
            exact ⟨⟨k + 1, by omega, by go_num, HA2, hbr.trans (hb1.mono hsz)⟩, by simp [intOf]; omega⟩
        · have hy : Hid (r = true) := HR.out.2 ⟨HG.out.1, HG.out.2.1, HG.out.2.2.2, HG.out.2.2.1, by have := hall.out; rwa [List.take_of_length_le (by omega)] at this⟩
          clear hk
          go_wp2_with fail
          go_ret
          exact ⟨ret_bool hy.out.symm, hw0⟩

set_option maxHeartbeats 1000000 in
set_option maxRecDepth 100000 in
theorem implRuleOK_any (n₀ : Nat) (v : Value) (x : PRule) (rules : Int) (w : World) (h : RuleVal n₀ w v x) (hn : n₀ ≤ w.heap.size) (hl : SmallRule x) (r : Bool) (hr : r = true ↔ (1 ≤ rules ∧ rules ≤ 8 ∧ RuleP rules x)) :
    Calls Tryd.prog 129 #[v, .int .i64 rules] w fun e w' => e = .returned (.bool r) ∧ Below w.heap.size w w' := by
  obtain ⟨kv, rfl, hk⟩ := h
  have HR := hide hr
  clear hr
  have hW := (Below.refl w.heap.size w).alloc (Nat.le_refl _) (.cells #[.string x.name, .bool x.leaf, kv] 87)
  have HNm : Hid (x.name.size ≤ maxLen) := by have := hl.name; unfold Hid maxLen; omega
  have HW : Hid (∀ wx, Calls Tryd.prog 146 #[.string x.name] wx fun e w' => e = .returned (.bool (dec (NameP x.name))) ∧ w' = wx) := fun wx => (nameOK_any x.name wx HNm.out).mono fun e w' ⟨h, h'⟩ => ⟨says_dec h, h'⟩
  have HD := hide (dec_iff (NameP x.name))
  have HT := hide (textWord_eq x.name)
  have HTs : Hid (1 ≤ rules → rules ≤ 8 → Calls Tryd.prog 147 #[kv, .int .i64 rules] (w.alloc (.cells #[.string x.name, .bool x.leaf, kv] 87)) fun e w' => e = .returned (.bool (dec (TermsP rules x.terms))) ∧ Below (w.alloc (.cells #[.string x.name, .bool x.leaf, kv] 87)).heap.size (w.alloc (.cells #[.string x.name, .bool x.leaf, kv] 87)) w') := fun h1 h8 =>
    implTerms_any n₀ kv x.terms rules _ (hk.below (Nat.le_refl _) (hW.mono hn)) (by simp; omega) hl.terms h1 h8 _ (dec_iff _)
  have HDT := hide (dec_iff (TermsP rules x.terms))
  obtain ⟨a, cap, rfl, -⟩ := hk
  clear hl
  generalize dec (NameP x.name) = nb at *
  generalize dec (TermsP rules x.terms) = tb at *
  generalize hte : (x.name.toList == [116, 101, 120, 116]) = te at *
  obtain ⟨ib, hin⟩ : ∃ ib, inB rules 1 8 = ib := ⟨_, rfl⟩
  have HI := hide hin
  clear hin
  cases hbad : (!ib || !nb || te) with
  | true =>
    have hf : Hid (r = false) := no_of HR.out fun T => by
      have e0 : ib = true := by rw [← HI.out]; exact inB_iff.2 ⟨T.1, T.2.1⟩
      have e1 : nb = true := HD.out.2 T.2.2.name
      have e2 : te = false := no_of HT.out T.2.2.other
      rw [e0, e1, e2] at hbad
      cases hbad
    clear HTs
    cases ib with
    | false =>
      clear hbad
      go_enter Tryd.func129, Tryd.ntmps129
      go_wp2_with (first | (go_at_call 31; refine (between_any _ _ _ _).mono ?_; rw [HI.out]; rintro e w' ⟨rfl, rfl⟩) | (go_at_call 146; refine (HW.out _).mono ?_; rintro e w' ⟨rfl, rfl⟩) | (go_at_call 147; refine HC.out.mono ?_; rintro e w1 ⟨rfl, hb1⟩))
      go_ret
      exact ⟨ret_bool hf.out.symm, hW⟩
    | true =>
      cases nb with
      | false =>
        clear hbad
        go_enter Tryd.func129, Tryd.ntmps129
        go_wp2_with (first | (go_at_call 31; refine (between_any _ _ _ _).mono ?_; rw [HI.out]; rintro e w' ⟨rfl, rfl⟩) | (go_at_call 146; refine (HW.out _).mono ?_; rintro e w' ⟨rfl, rfl⟩) | (go_at_call 147; refine HC.out.mono ?_; rintro e w1 ⟨rfl, hb1⟩))
        go_ret
        exact ⟨ret_bool hf.out.symm, hW⟩
      | true =>
        simp only [Bool.not_true, Bool.false_or] at hbad
        subst hbad
        go_enter Tryd.func129, Tryd.ntmps129
        go_wp2_with (first | (go_at_call 31; refine (between_any _ _ _ _).mono ?_; rw [HI.out]; rintro e w' ⟨rfl, rfl⟩) | (go_at_call 146; refine (HW.out _).mono ?_; rintro e w' ⟨rfl, rfl⟩) | (go_at_call 147; refine HC.out.mono ?_; rintro e w1 ⟨rfl, hb1⟩))
        go_ret
        exact ⟨ret_bool hf.out.symm, hW⟩
  | false =>
    simp only [Bool.or_eq_false_iff, Bool.not_eq_false'] at hbad
    obtain ⟨⟨rfl, rfl⟩, rfl⟩ := hbad
    have HG : Hid ((1 ≤ rules ∧ rules ≤ 8) ∧ NameP x.name ∧ x.name ≠ textWord) :=
      ⟨inB_iff.1 HI.out, HD.out.1 rfl, fun h => (by have := HT.out.2 h; cases this)⟩
    have HC := hide (HTs.out HG.out.1.1 HG.out.1.2)
    clear HTs
    cases hlf : x.leaf with
    | true =>
      have HY : Hid (((x.terms.length : Int) == 0) = r) := by
        rw [Hid, Bool.eq_iff_iff, HR.out, beq_iff_eq]
        refine ⟨fun h => ?_, fun T => by have := T.2.2.leaf hlf; simp [this]⟩
        have h0 : x.terms = [] := List.eq_nil_of_length_eq_zero (by omega)
        exact ⟨HG.out.1.1, HG.out.1.2, HG.out.2.1, HG.out.2.2, fun _ => h0, by simp [h0], by simp [h0]⟩
      clear HC
      go_enter Tryd.func129, Tryd.ntmps129
      go_wp2_with (first | (go_at_call 31; refine (between_any _ _ _ _).mono ?_; rw [HI.out]; rintro e w' ⟨rfl, rfl⟩) | (go_at_call 146; refine (HW.out _).mono ?_; rintro e w' ⟨rfl, rfl⟩) | (go_at_call 147; refine HC.out.mono ?_; rintro e w1 ⟨rfl, hb1⟩))
      go_ret
      rw [hlf] at hW
      exact ⟨ret_bool HY.out, hW⟩
    | false =>
      have HY : Hid (tb = r) := by
        rw [Hid, Bool.eq_iff_iff, HR.out, HDT.out]
        exact ⟨fun h => ⟨HG.out.1.1, HG.out.1.2, HG.out.2.1, HG.out.2.2, fun h' => (by rw [hlf] at h'; cases h'), h⟩, fun T => T.2.2.terms⟩
      rw [hlf] at HC hW
      go_enter Tryd.func129, Tryd.ntmps129
      go_wp2_with (first | (go_at_call 31; refine (between_any _ _ _ _).mono ?_; rw [HI.out]; rintro e w' ⟨rfl, rfl⟩) | (go_at_call 146; refine (HW.out _).mono ?_; rintro e w' ⟨rfl, rfl⟩) | (go_at_call 147; refine HC.out.mono ?_; rintro e w1 ⟨rfl, hb1⟩))
      go_ret
      exact ⟨ret_bool HY.out, hW.trans (hb1.mono (by simp))⟩
end Go.Proofs.YtpkblnponeonkaaDoor

namespace Go.Proofs.YtpkblnponeonkaaDoor
open Go.RowKit

def nameAt (l : List PRule) (j : Nat) : ByteArray := (l[j]?.getD ruleNil).name

open Classical in
/-- The place, from 1 on, of the first rule of that name; 0 of none. -/
noncomputable def kindOf : List PRule → ByteArray → Nat
  | [], _ => 0
  | x :: l, s => if x.name = s then 1 else if kindOf l s = 0 then 0 else kindOf l s + 1

theorem kindOf_none {l : List PRule} {s : ByteArray} (h : ∀ j, j < l.length → nameAt l j ≠ s) : kindOf l s = 0 := by
  induction l with
  | nil => rfl
  | cons x l ih =>
    have h0 := h 0 (by simp)
    have h1 := ih fun j hj => h (j + 1) (by simpa using hj)
    simp only [nameAt, List.getElem?_cons_zero, Option.getD_some] at h0
    simp [kindOf, h0, h1]

theorem kindOf_hit {l : List PRule} {s : ByteArray} {k : Nat} (hk : k < l.length) (h : ∀ j, j < k → nameAt l j ≠ s) (h1 : nameAt l k = s) : kindOf l s = k + 1 := by
  induction l generalizing k with
  | nil => simp at hk
  | cons x l ih =>
    cases k with
    | zero =>
      simp only [nameAt, List.getElem?_cons_zero, Option.getD_some] at h1
      simp [kindOf, h1]
    | succ k =>
      have h0 := h 0 (by omega)
      have h2 := ih (k := k) (by simpa using hk) (fun j hj => h (j + 1) (by omega)) h1
      simp only [nameAt, List.getElem?_cons_zero, Option.getD_some] at h0
      simp [kindOf, h0, h2]

theorem kindOf_le (l : List PRule) (s : ByteArray) : kindOf l s ≤ l.length := by
  induction l with
  | nil => simp [kindOf]
  | cons x l ih => simp only [kindOf, List.length_cons]; split; omega; split <;> omega

theorem kindOf_zero {l : List PRule} {s : ByteArray} : kindOf l s = 0 ↔ ∀ j, j < l.length → nameAt l j ≠ s := by
  refine ⟨fun h j hj e => ?_, kindOf_none⟩
  induction l generalizing j with
  | nil => simp at hj
  | cons x l ih =>
    cases j with
    | zero =>
      simp only [nameAt, List.getElem?_cons_zero, Option.getD_some] at e
      simp [kindOf, e] at h
    | succ j =>
      simp only [kindOf] at h
      split at h
      · cases h
      · split at h
        · exact ih (by assumption) j (by simpa using hj) e
        · cases h

theorem text_eq (a b : ByteArray) : (a.toList == b.toList) = true ↔ a = b := by
  rw [beq_iff_eq]
  exact ⟨toList_inj, fun h => by rw [h]⟩

set_option maxHeartbeats 400000 in
theorem named_any (x : PRule) (kv : Value) (s : ByteArray) (b : Nat) (w : World) (hb : b < w.heap.size) (hc : w.cell? ⟨b, 0, none⟩ = some (.string s)) :
    Calls Tryd.prog 149 #[.agg #[.string x.name, .bool x.leaf, kv], .pointer (some ⟨b, 0, none⟩)] w fun e w' => e = .returned (.bool (x.name.toList == s.toList)) ∧ Below w.heap.size w w' := by
  go_enter Tryd.func149, Tryd.ntmps149
  go_wp2_with fail
  go_ret
  exact ⟨rfl, (Below.refl _ _).alloc (Nat.le_refl _) _⟩

set_option maxHeartbeats 400000 in
theorem indexNamed_any (n₀ : Nat) (v : Value) (l : List PRule) (s : ByteArray) (pb : Nat) (w : World) (h : RulesAt n₀ w v l) (hn : n₀ ≤ w.heap.size) (hl : l.length ≤ 1048576) (hpb : pb < w.heap.size) (hc0 : w.cell? ⟨pb, 0, none⟩ = some (.string s)) :
    Calls Tryd.prog 148 #[v, .func (.func 149) #[] #[.pointer (some ⟨pb, 0, none⟩)]] w fun e w' => e = .returned (.int .i64 ((kindOf l s : Int) - 1)) ∧ Below w.heap.size w w' := by
  obtain ⟨a, cap, rfl, hk⟩ := h
  go_enter Tryd.func148, Tryd.ntmps148
  go_wp2_with fail
  go_loopw [8] (fun i wr => ∃ k : Nat, k ≤ l.length ∧ i = .int .i64 k ∧ Hid (∀ j, j < k → nameAt l j ≠ s) ∧ Below w.heap.size w wr) (fun i _ => l.length - (intOf i).toNat)
  case atStart => exact ⟨0, Nat.zero_le _, rfl, fun j hj => absurd hj (by omega), Below.refl _ _⟩
  case round =>
    obtain ⟨k, hkl, rfl, hno, hbr⟩ := hrel
    have hsz := hbr.size
    by_cases hlt : k < l.length
    · obtain ⟨b, off, rfl, hb, hc⟩ := hk.resolve_left (by intro e; simp [e] at hlt)
      have hA := (hc k hlt).below hb (Nat.le_refl _) (hbr.mono hn)
      have g0 := hA.c0
      have g1 := hA.c1
      obtain ⟨kv, g2, ak, ck, rfl, -⟩ := hA.c2
      have hbw : b < wr.heap.size := by omega
      have HCall := hide (named_any (l[k]?.getD ruleNil) (.slice ak (l[k]?.getD ruleNil).terms.length ck) s pb wr (by omega) ((hbr.cell (p := ⟨pb, 0, none⟩) hpb).trans hc0))
      have HT := hide (text_eq (l[k]?.getD ruleNil).name s)
      have HN : Hid ((l[k]?.getD ruleNil).name = nameAt l k) := rfl
      clear hA hc hk
      generalize l[k]?.getD ruleNil = x at *
      generalize (x.name.toList == s.toList) = te at *
      cases te with
      | true =>
        have HK : Hid (kindOf l s = k + 1) := kindOf_hit hlt hno.out (HN.out.symm.trans (HT.out.1 rfl))
        go_wp2_with (go_at_call 149; refine HCall.out.mono ?_; rintro e w1 ⟨rfl, hb1⟩)
        go_ret
        exact ⟨ret_int (by rw [HK.out]; simp), hbr.trans (hb1.mono hsz)⟩
      | false =>
        have HS : Hid (∀ j, j < k + 1 → nameAt l j ≠ s) := fun j hj => by
          by_cases e : j = k
          · rw [e, ← HN.out]; exact fun h => by have := HT.out.2 h; cases this
          · exact hno.out j (by omega)
        go_wp2_with (go_at_call 149; refine HCall.out.mono ?_; rintro e w1 ⟨rfl, hb1⟩)
        exact ⟨⟨k + 1, by omega, by go_num, HS, hbr.trans (hb1.mono hsz)⟩, by simp [intOf]; omega⟩
    · have HK : Hid (kindOf l s = 0) := kindOf_none fun j hj => hno.out j (by omega)
      clear hk
      go_wp2_with fail
      go_ret
      exact ⟨ret_int (by rw [HK.out]; rfl), hbr⟩

set_option maxHeartbeats 400000 in
theorem kindNamed_any (n₀ : Nat) (v : Value) (l : List PRule) (s : ByteArray) (w : World) (h : RulesAt n₀ w v l) (hn : n₀ ≤ w.heap.size) (hl : l.length ≤ 1048576) :
    Calls Tryd.prog 130 #[v, .string s] w fun e w' => e = .returned (.int .i64 (kindOf l s)) ∧ Below w.heap.size w w' := by
  have hW := (Below.refl w.heap.size w).alloc (Nat.le_refl _) (.cells #[.string s] 9)
  have HI := hide (indexNamed_any n₀ v l s w.heap.size (w.alloc (.cells #[.string s] 9)) (h.below (Nat.le_refl _) (hW.mono hn)) (by simp; omega) hl (by simp) (by rw [cell_of_heap (alloc_new _ _)]; rfl))
  have hmf : ∀ (fn : Fn) (first cap : Array Value) (w : World), (Instr.makeFunc fn first cap).run Tryd.prog w = .ok (.func fn first cap) w := fun _ _ _ _ => rfl
  have hkl := kindOf_le l s
  generalize kindOf l s = q at *
  obtain ⟨a, cap, rfl, -⟩ := h
  go_enter Tryd.func130, Tryd.ntmps130
  go_wp2_with fail
  refine HI.out.mono ?_
  rintro e w1 ⟨rfl, hb1⟩
  go_wp2_with fail
  go_ret
  exact ⟨ret_int (by first | omega | simp), hW.trans (hb1.mono (by simp))⟩
end Go.Proofs.YtpkblnponeonkaaDoor

namespace Go.Proofs.YtpkblnponeonkaaDoor
open Go.RowKit

/-- A schema. -/
structure SchemaP (l : List PRule) : Prop where
  one : 1 ≤ l.length
  few : l.length ≤ 8
  rules : ∀ x ∈ l, RuleP l.length x
  names : ∀ i, i < l.length → ∀ j, j < i → nameAt l j ≠ nameAt l i

def NamesTo (l : List PRule) (n : Nat) : Prop := ∀ i, i < n → ∀ j, j < i → nameAt l j ≠ nameAt l i

theorem NamesTo.next {l : List PRule} {n : Nat} (h : NamesTo l n) (h1 : ∀ j, j < n → nameAt l j ≠ nameAt l n) : NamesTo l (n + 1) := by
  intro i hi j hj
  by_cases e : i = n
  · subst e; exact h1 j hj
  · exact h i (by omega) j hj

set_option maxHeartbeats 1000000 in
set_option maxRecDepth 100000 in
theorem specSchOK_any (n₀ : Nat) (v : Value) (l : List PRule) (w : World) (h : RulesAt n₀ w v l) (hn : n₀ ≤ w.heap.size) (hl : SmallRules l) (r : Bool) (hr : r = true ↔ SchemaP l) :
    Calls Tryd.prog 45 #[v] w fun e w' => e = .returned (.bool r) ∧ Below w.heap.size w w' := by
  obtain ⟨a, cap, rfl, hk⟩ := h
  have HR := hide hr
  have hl1 := hl.len
  have HKL := hide hl.rules
  clear hr hl
  cases hin : inB l.length 1 8 with
  | false =>
    have hf : Hid (r = false) := no_of HR.out fun T => by have := inB_iff.2 ⟨show (1 : Int) ≤ l.length by have := T.one; omega, show (l.length : Int) ≤ 8 by have := T.few; omega⟩; rw [hin] at this; cases this
    have HI := hide hin
    clear hin hk
    go_enter Tryd.func45, Tryd.ntmps45
    go_wp2_with (go_at_call 29; refine (specIn_any _ _ _ _).mono ?_; rw [HI.out]; rintro e w' ⟨rfl, rfl⟩)
    go_ret
    exact ⟨ret_bool hf.out.symm, Below.refl _ _⟩
  | true =>
    have HI := hide hin
    obtain ⟨h1, h8⟩ := inB_iff.1 hin
    clear hin
    obtain ⟨b, off, rfl, hb, hc⟩ := hk.resolve_left (by intro e; simp [e] at h1)
    have HC := hide hc
    clear hc hk
    go_enter Tryd.func45, Tryd.ntmps45
    go_wp2_with (go_at_call 29; refine (specIn_any _ _ _ _).mono ?_; rw [HI.out]; rintro e w' ⟨rfl, hw⟩; have hw2 := hw.symm; subst hw2; clear hw)
    go_loopw [3] (fun i wr => ∃ k : Nat, k ≤ l.length ∧ i = .int .i64 k ∧ Hid ((∀ x ∈ l.take k, RuleP l.length x) ∧ NamesTo l k) ∧ Below w.heap.size w wr) (fun i _ => l.length - (intOf i).toNat)
    case atStart => exact ⟨0, Nat.zero_le _, rfl, ⟨by simp, fun i hi => by omega⟩, Below.refl _ _⟩
    case round =>
      obtain ⟨wo, hwo⟩ : ∃ wo, wo = wr := ⟨_, rfl⟩
      subst hwo
      obtain ⟨k, hkl, rfl, hall, hbr⟩ := hrel
      have hsz := hbr.size
      by_cases hlt : k < l.length
      · have hA := (HC.out k hlt).below hb (Nat.le_refl _) (hbr.mono hn)
        have g0 := hA.c0
        have g1 := hA.c1
        obtain ⟨kv, g2, hi⟩ := hA.c2
        have hbw : b < wo.heap.size := by omega
        have HMem : Hid (l[k]?.getD ruleNil ∈ l) := by simp [Hid, hlt]
        have HSn := hide (take_snoc_all (d := ruleNil) hlt hall.out.1)
        have HNT := hide hall.out.2
        have HNx : Hid ((l[k]?.getD ruleNil).name = nameAt l k) := rfl
        have HCall : Hid (Calls Tryd.prog 78 #[.agg #[.string (l[k]?.getD ruleNil).name, .bool (l[k]?.getD ruleNil).leaf, kv], .int .i64 l.length] wo fun e w' => e = .returned (.bool (dec (RuleP l.length (l[k]?.getD ruleNil)))) ∧ Below wo.heap.size wo w') :=
          specRule_any n₀ _ (l[k]?.getD ruleNil) l.length wo ⟨kv, rfl, hi⟩ (by omega) (HKL.out _ HMem.out) h1 h8 _ (dec_iff _)
        obtain ⟨ak, ck, rfl, -⟩ := hi
        clear hA hall
        generalize l[k]?.getD ruleNil = x at *
        have HD := hide (dec_iff (RuleP l.length x))
        generalize dec (RuleP l.length x) = q at *
        go_wp2_with fail
        refine HCall.out.mono ?_
        rintro e w1 ⟨rfl, hb1⟩
        have hs1 := hb1.size
        have hbr1 := hbr.trans (hb1.mono hsz)
        cases q with
        | false =>
          have hf : Hid (r = false) := no_of HR.out fun T => by have := HD.out.2 (T.rules _ HMem.out); cases this
          go_wp2_with fail
          go_ret
          exact ⟨ret_bool hf.out.symm, hbr1⟩
        | true =>
          have HA2 := hide (HSn.out (HD.out.1 rfl))
          have g0' := (hb1.cell (p := ⟨b, off + k * 3, none⟩) hbw).trans g0
          clear HCall g0 g1 g2
          go_wp2_with fail
          go_loopw [4] (fun i wr => ∃ m : Nat, m ≤ k ∧ i = .int .i64 m ∧ Hid (∀ j, j < m → nameAt l j ≠ nameAt l k) ∧ ∃ q, wr = w1.drewN q) (fun i _ => k - (intOf i).toNat)
          case atStart => exact ⟨0, Nat.zero_le _, rfl, fun j hj => absurd hj (by omega), 0, rfl⟩
          case round =>
            obtain ⟨m, hm, rfl, hne, q, rfl⟩ := hrel
            by_cases hmk : m < k
            · have p0 := ((HC.out m (by omega)).below hb (Nat.le_refl _) (hbr1.mono hn)).c0
              have HT := hide (text_eq (l[m]?.getD ruleNil).name x.name)
              have HNm : Hid ((l[m]?.getD ruleNil).name = nameAt l m) := rfl
              have hlt1 : (k : Int) < (l.length : Int) := by omega
              have hlt2 : (m : Int) < (l.length : Int) := by omega
              generalize (l[m]?.getD ruleNil).name = nm at *
              generalize hte : (nm.toList == x.name.toList) = te at *
              cases te with
              | true =>
                have hf : Hid (r = false) := no_of HR.out fun T => T.names k hlt m hmk (by rw [← HNm.out, ← HNx.out]; exact HT.out.1 rfl)
                go_wp2_with fail
                go_quiet (fail)
                go_wp2_with fail
                go_ret
                exact ⟨ret_bool hf.out.symm, below_drewN (below_drewN hbr1 _) _⟩
              | false =>
                have HS : Hid (∀ j, j < m + 1 → nameAt l j ≠ nameAt l k) := fun j hj => by
                  by_cases e : j = m
                  · rw [e, ← HNm.out, ← HNx.out]; exact fun h => by have := HT.out.2 h; cases this
                  · exact hne.out j (by omega)
                go_wp2_with fail
                go_quiet (fail)
                go_wp2_with fail
                exact ⟨⟨m + 1, by omega, by go_num, HS, _, rfl⟩, by simp [intOf]; omega⟩
            · have HN2 := hide (HNT.out.next fun j hj => hne.out j (by omega))
              go_wp2_with fail
              exact ⟨⟨k + 1, by omega, by go_num, ⟨HA2.out, HN2.out⟩, below_drewN hbr1 _⟩, by simp [intOf]; omega⟩
      · have hy : Hid (r = true) := HR.out.2 ⟨by omega, by omega, by have := hall.out.1; rwa [List.take_of_length_le (by omega)] at this, fun i hi => hall.out.2 i (by omega)⟩
        go_wp2_with fail
        go_ret
        exact ⟨ret_bool hy.out.symm, hbr⟩

theorem RulesAt.take {n₀ : Nat} {w : World} {b off cap : Nat} {l : List PRule} (hb : b < n₀) (hc : ∀ j, j < l.length → RuleAt n₀ w b (off + j * 3) (l[j]?.getD ruleNil)) {k : Nat} (hk : k ≤ l.length) : RulesAt n₀ w (.slice (some ⟨b, off, none⟩) k cap) (l.take k) := by
  refine ⟨_, cap, by rw [List.length_take, Nat.min_eq_left hk], .inr ⟨b, off, rfl, hb, fun j hj => ?_⟩⟩
  rw [List.length_take] at hj
  have e : (l.take k)[j]?.getD ruleNil = l[j]?.getD ruleNil := by rw [List.getElem?_take]; rw [if_pos (by omega)]
  rw [e]
  exact hc j (by omega)

theorem nameAt_take {l : List PRule} {k j : Nat} (h : j < k) : nameAt (l.take k) j = nameAt l j := by
  unfold nameAt; rw [List.getElem?_take]; rw [if_pos h]

set_option maxHeartbeats 1000000 in
set_option maxRecDepth 100000 in
theorem implSchemaOK_any (n₀ : Nat) (v : Value) (l : List PRule) (w : World) (h : RulesAt n₀ w v l) (hroom : Roomy v l.length) (hn : n₀ ≤ w.heap.size) (hl : SmallRules l) (r : Bool) (hr : r = true ↔ SchemaP l) :
    Calls Tryd.prog 109 #[v] w fun e w' => e = .returned (.bool r) ∧ Below w.heap.size w w' := by
  obtain ⟨a, cap, rfl, hk⟩ := h
  obtain ⟨a', cap', hac, hcap⟩ := hroom
  obtain ⟨rfl, -, rfl⟩ : a = a' ∧ l.length = l.length ∧ cap = cap' := by simpa using hac
  clear hac
  have HR := hide hr
  have hl1 := hl.len
  have HKL := hide hl.rules
  clear hr hl
  go_enter Tryd.func109, Tryd.ntmps109
  go_wp2_with fail
  go_loopw [7] (fun i wr => ∃ k : Nat, k ≤ l.length ∧ i = .int .i64 k ∧ Hid ((∀ x ∈ l.take k, 1 ≤ (l.length : Int) ∧ (l.length : Int) ≤ 8 ∧ RuleP l.length x) ∧ NamesTo l k) ∧ Below w.heap.size w wr) (fun i _ => l.length - (intOf i).toNat)
  case atStart => exact ⟨0, Nat.zero_le _, rfl, ⟨by simp, fun i hi => by omega⟩, Below.refl _ _⟩
  case round =>
    obtain ⟨k, hkl, rfl, hall, hbr⟩ := hrel
    have hsz := hbr.size
    by_cases hlt : k < l.length
    · obtain ⟨b, off, rfl, hb, hc⟩ := hk.resolve_left (by intro e; simp [e] at hlt)
      have hA := (hc k hlt).below hb (Nat.le_refl _) (hbr.mono hn)
      have g0 := hA.c0
      have g1 := hA.c1
      obtain ⟨kv, g2, hi⟩ := hA.c2
      have hbw : b < wr.heap.size := by omega
      have HMem : Hid (l[k]?.getD ruleNil ∈ l) := by simp [Hid, hlt]
      have HSn := hide (take_snoc_all (d := ruleNil) hlt hall.out.1)
      have HNT := hide hall.out.2
      have HNx : Hid ((l[k]?.getD ruleNil).name = nameAt l k) := rfl
      have hlt1 : (k : Int) < (l.length : Int) := by omega
      have hlt2 : (k : Int) ≤ (cap : Int) := by omega
      obtain ⟨W, hW⟩ : ∃ W, W = wr.alloc (.cells #[.string (l[k]?.getD ruleNil).name, .bool (l[k]?.getD ruleNil).leaf, kv] 87) := ⟨_, rfl⟩
      have hWb : Below wr.heap.size wr W := by rw [hW]; exact (Below.refl _ _).alloc (Nat.le_refl _) _
      have hWs : W.heap.size = wr.heap.size + 1 := by rw [hW]; simp
      have HCall : Hid (∀ t : Calm W, Calls Tryd.prog 129 #[.agg #[.string (l[k]?.getD ruleNil).name, .bool (l[k]?.getD ruleNil).leaf, kv], .int .i64 l.length] t.out fun e w' => e = .returned (.bool (dec (1 ≤ (l.length : Int) ∧ (l.length : Int) ≤ 8 ∧ RuleP l.length (l[k]?.getD ruleNil)))) ∧ Below t.out.heap.size t.out w') := fun t =>
        implRuleOK_any n₀ _ (l[k]?.getD ruleNil) l.length t.out ⟨kv, rfl, hi.below (Nat.le_refl _) ((hWb.mono (by omega)).trans (t.below.mono (by omega)))⟩ (by have := t.below.size; omega) (HKL.out _ HMem.out) _ (dec_iff _)
      have HKN : Hid (∀ t : Calm W, Calls Tryd.prog 130 #[.slice (some ⟨b, off, none⟩) k cap, .string (l[k]?.getD ruleNil).name] t.out fun e w' => e = .returned (.int .i64 (kindOf (l.take k) (l[k]?.getD ruleNil).name)) ∧ Below t.out.heap.size t.out w') := fun t =>
        kindNamed_any n₀ _ (l.take k) _ t.out ((RulesAt.take hb hc (by omega)).below (Nat.le_refl _) ((hbr.mono hn).trans ((hWb.mono (by omega)).trans (t.below.mono (by omega))))) (by have := t.below.size; omega) (by rw [List.length_take]; omega)
      have HKZ : Hid (kindOf (l.take k) (l[k]?.getD ruleNil).name = 0 ↔ ∀ j, j < k → nameAt l j ≠ nameAt l k) := by
        rw [Hid, kindOf_zero, List.length_take, Nat.min_eq_left (by omega), HNx.out]
        exact ⟨fun h j hj => by have := h j hj; rwa [nameAt_take hj] at this, fun h j hj => by rw [nameAt_take hj]; exact h j hj⟩
      obtain ⟨ak, ck, rfl, -⟩ := hi
      clear hA hall hc hk
      generalize l[k]?.getD ruleNil = x at *
      have HD := hide (dec_iff (1 ≤ (l.length : Int) ∧ (l.length : Int) ≤ 8 ∧ RuleP l.length x))
      generalize dec (1 ≤ (l.length : Int) ∧ (l.length : Int) ≤ 8 ∧ RuleP l.length x) = q at *
      generalize kindOf (l.take k) x.name = z at *
      have c0 : W.cell? ⟨wr.heap.size, 0, none⟩ = some (.string x.name) := by rw [hW]; simp
      have c1 : W.cell? ⟨wr.heap.size, 1, none⟩ = some (.bool x.leaf) := by rw [hW]; simp
      have c2 : W.cell? ⟨wr.heap.size, 2, none⟩ = some (.slice ak x.terms.length ck) := by rw [hW]; simp
      have hWl : wr.heap.size < W.heap.size := by omega
      have hcal := calm_cell W
      have hbW : Below w.heap.size w W := hbr.trans (hWb.mono hsz)
      go_wp2_with fail
      rw [← hW]
      cases q with
      | false =>
        have hf : Hid (r = false) := no_of HR.out fun T => by have := HD.out.2 ⟨by have := T.one; omega, by have := T.few; omega, T.rules _ HMem.out⟩; cases this
        clear hW
        refine wp_region_calm (by kernel_rfl) (by kernel_rfl) ?_
        repeat (go_big_quiet_step ((go_at_call 129; exact calm_of (HCall.out _))))
        refine wpQuiet_nil ?_
        rintro _ ⟨t, rfl⟩
        have ht := t.below
        go_wp2_with fail
        go_ret
        exact ⟨ret_bool hf.out.symm, hbW.trans (ht.mono (by omega))⟩
      | true =>
        by_cases hz : z = 0
        · have HA2 := hide (HSn.out (HD.out.1 rfl))
          have HN2 := hide (HNT.out.next (HKZ.out.1 hz))
          have hz1 : decide (0 < z) = false := by simp [hz]
          clear hW hz
          refine wp_region_calm (by kernel_rfl) (by kernel_rfl) ?_
          repeat (go_big_quiet_step (first | (go_at_call 129; exact calm_of (HCall.out _)) | (go_at_call 130; exact calm_of (HKN.out _))))
          refine wpQuiet_nil ?_
          rintro _ ⟨t, rfl⟩
          have ht := t.below
          go_wp2_with fail
          exact ⟨⟨k + 1, by omega, by go_num, ⟨HA2.out, HN2.out⟩, hbW.trans (ht.mono (by omega))⟩, by simp [intOf]; omega⟩
        · have hf : Hid (r = false) := no_of HR.out fun T => hz (HKZ.out.2 fun j hj => T.names k hlt j hj)
          have hz1 : 0 < z := by omega
          clear hW hz
          refine wp_region_calm (by kernel_rfl) (by kernel_rfl) ?_
          repeat (go_big_quiet_step (first | (go_at_call 129; exact calm_of (HCall.out _)) | (go_at_call 130; exact calm_of (HKN.out _))))
          refine wpQuiet_nil ?_
          rintro _ ⟨t, rfl⟩
          have ht := t.below
          go_wp2_with fail
          go_ret
          exact ⟨ret_bool hf.out.symm, hbW.trans (ht.mono (by omega))⟩
    · obtain rfl : k = l.length := by omega
      have HY : Hid (decide (0 < l.length) = r) := by
        rw [Hid, Bool.eq_iff_iff, HR.out, decide_eq_true_eq]
        have hall' := hall.out.1
        rw [List.take_of_length_le (Nat.le_refl _)] at hall'
        refine ⟨fun h => ?_, fun T => by have := T.one; omega⟩
        have hx : l[0]'(by omega) ∈ l := List.getElem_mem _
        have := hall' _ hx
        exact ⟨by omega, by omega, fun x hx => (hall' x hx).2.2, hall.out.2⟩
      clear hk
      go_wp2_with fail
      go_ret
      exact ⟨ret_bool HY.out, hbr⟩
end Go.Proofs.YtpkblnponeonkaaDoor

namespace Go.Proofs.YtpkblnponeonkaaDoor
open Go.RowKit

noncomputable def schAsk (R : List PRule) : Int := by
  classical exact if 4096 < R.length then 2 else if SchemaP R then 0 else 1
theorem schAsk_long {R : List PRule} (h : 4096 < R.length) : schAsk R = 2 := by unfold schAsk; rw [if_pos h]
theorem schAsk_ok {R : List PRule} (h : SchemaP R) : schAsk R = 0 := by unfold schAsk; rw [if_neg (by have := h.few; omega), if_pos h]
theorem schAsk_bad {R : List PRule} (h : ¬ 4096 < R.length) (h1 : ¬ SchemaP R) : schAsk R = 1 := by unfold schAsk; rw [if_neg h, if_neg h1]
theorem schAsk_zero {R : List PRule} (h : schAsk R = 0) : SchemaP R := by
  unfold schAsk at h
  split at h
  · exact absurd h (by decide)
  · split at h
    · assumption
    · exact absurd h (by decide)
end Go.Proofs.YtpkblnponeonkaaDoor

namespace Go.Proofs.YtpkblnponeonkaaDoor
open Go.RowKit

set_option maxHeartbeats 1000000 in
theorem askSchema_any (n₀ : Nat) (v : Value) (R : List PRule) (w : World) (h : RulesAt n₀ w v R) (hroom : Roomy v R.length) (hn : n₀ ≤ w.heap.size) (hl : SmallRules R) (c : Int) (hc : c = schAsk R) :
    Calls Tryd.prog 84 #[v] w fun e w' => e = .returned (.int .i64 c) ∧ Below w.heap.size w w' := by
  obtain ⟨r, hr⟩ : ∃ r : Bool, r = true ↔ SchemaP R := ⟨dec _, dec_iff _⟩
  have HS := hide (implSchemaOK_any n₀ v R w h hroom hn hl r hr)
  have hlen := hl.len
  by_cases hlo : 4096 < R.length
  · have HC : Hid (c = 2) := hc.trans (schAsk_long hlo)
    obtain ⟨a, cap, rfl, -⟩ := h
    clear HS hr hc
    go_enter Tryd.func84, Tryd.ntmps84
    go_wp2_with fail
    go_ret
    obtain rfl : c = 2 := HC.out
    exact ⟨rfl, Below.refl _ _⟩
  · have HC : Hid (c = if r = true then 0 else 1) := by
      rw [Hid, hc]
      split
      · exact schAsk_ok (hr.1 (by assumption))
      · exact schAsk_bad hlo (fun h => by have := hr.2 h; contradiction)
    obtain ⟨a, cap, rfl, -⟩ := h
    clear hr hc
    go_enter Tryd.func84, Tryd.ntmps84
    go_wp2_with (go_at_call 109; refine HS.out.mono ?_; rintro e w1 ⟨rfl, hb1⟩)
    all_goals
      go_ret
      refine ⟨?_, hb1⟩
      have := HC.out
      simp_all
end Go.Proofs.YtpkblnponeonkaaDoor
