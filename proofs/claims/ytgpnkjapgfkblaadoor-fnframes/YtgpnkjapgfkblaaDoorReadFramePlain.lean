/-
  The text of a frame, as a plain function: the text and the code.
-/
import Derived.Test.YtgpnkjapgfkblaaDoorTakeText
import Derived.Test.YtgpnkjapgfkblaaDoorSumText
namespace Go.Proofs.YtgpnkjapgfkblaaDoor

theorem same_bytes {a b : ByteArray} (h : a = b) : (a.toList == b.toList) = true := by rw [h]; simp
theorem other_bytes {a b : ByteArray} (h : a ≠ b) : (a.toList == b.toList) = false := by
  rw [beq_eq_false_iff_ne]
  intro e
  rw [ByteArray.toList_eq, ByteArray.toList_eq] at e
  exact h (ByteArray.ext (Array.ext' e))

theorem letters_no {a : ByteArray} (h : a ≠ ⟨#[67, 79]⟩) : (a.toList == [67, 79]) = false := by
  rw [beq_eq_false_iff_ne]
  intro e
  rw [ByteArray.toList_eq] at e
  exact h (ByteArray.ext (Array.ext' e))
theorem letters_yes {a : ByteArray} (h : a = ⟨#[67, 79]⟩) : (a.toList == [67, 79]) = true := by
  rw [h, ByteArray.toList_eq]; rfl

/-- The text of a frame and the code. -/
def frameRead (s : ByteArray) : ByteArray × Int :=
  if s.size < 5 ∨ s.extract 0 2 ≠ ⟨#[67, 79]⟩ then (⟨#[]⟩, 3)
  else if (textAt s 2).2.2 ≠ 0 then (⟨#[]⟩, (textAt s 2).2.2)
  else if (textAt s 2).2.1 + 2 ≠ (s.size : Int) then (⟨#[]⟩, 8)
  else if s.extract (textAt s 2).2.1.toNat s.size ≠ sumB (s.extract 0 (textAt s 2).2.1.toNat) then (⟨#[]⟩, 9)
  else ((textAt s 2).1, 0)

section
variable {s : ByteArray}
theorem read_form (h : s.size < 5 ∨ s.extract 0 2 ≠ ⟨#[67, 79]⟩) : frameRead s = (⟨#[]⟩, 3) := if_pos h
theorem read_code (h0 : ¬ s.size < 5) (h1 : s.extract 0 2 = ⟨#[67, 79]⟩) (h2 : (textAt s 2).2.2 ≠ 0) : frameRead s = (⟨#[]⟩, (textAt s 2).2.2) := by
  rw [frameRead, if_neg (by simp [h0, h1]), if_pos h2]
theorem read_size {m : Nat} {b : ByteArray} (h0 : ¬ s.size < 5) (h1 : s.extract 0 2 = ⟨#[67, 79]⟩) (h2 : textAt s 2 = (b, (m : Int), 0)) (h3 : ¬ m + 2 = s.size) : frameRead s = (⟨#[]⟩, 8) := by
  rw [frameRead, if_neg (by simp [h0, h1]), if_neg (by rw [h2]; simp), if_pos (by rw [h2]; simp; omega)]
theorem read_sum {m : Nat} {b : ByteArray} (h0 : ¬ s.size < 5) (h1 : s.extract 0 2 = ⟨#[67, 79]⟩) (h2 : textAt s 2 = (b, (m : Int), 0)) (h3 : m + 2 = s.size) (h4 : s.extract m s.size ≠ sumB (s.extract 0 m)) : frameRead s = (⟨#[]⟩, 9) := by
  rw [frameRead, if_neg (by simp [h0, h1]), if_neg (by rw [h2]; simp), if_neg (by rw [h2]; simp; omega), if_pos (by rw [h2]; simpa using h4)]
theorem read_good {m : Nat} {b : ByteArray} (h0 : ¬ s.size < 5) (h1 : s.extract 0 2 = ⟨#[67, 79]⟩) (h2 : textAt s 2 = (b, (m : Int), 0)) (h3 : m + 2 = s.size) (h4 : s.extract m s.size = sumB (s.extract 0 m)) : frameRead s = (b, 0) := by
  rw [frameRead, if_neg (by simp [h0, h1]), if_neg (by rw [h2]; simp), if_neg (by rw [h2]; simp; omega), if_neg (by rw [h2]; simpa using h4), h2]
end

/-- What a text's taking gives: a code, or a place within the text. -/
theorem textAt_parts (s : ByteArray) (x : Int) : ((textAt s x).2.2 ≠ 0 ∧ (textAt s x).1 = ⟨#[]⟩ ∧ (textAt s x).2.1 = 0) ∨ ∃ (b : ByteArray) (m : Nat), textAt s x = (b, (m : Int), 0) ∧ m ≤ s.size := by
  rcases takeAt_parts s x with ⟨hc, _, _⟩ | ⟨n, m, ht, _, _⟩
  · rw [textAt_code hc]; exact .inl ⟨hc, rfl, rfl⟩
  · by_cases hl : m + n ≤ s.size
    · rw [textAt_whole ht hl]; exact .inr ⟨s.extract m (m + n), m + n, by simp, hl⟩
    · rw [textAt_short ht (by omega)]; exact .inl ⟨by decide, rfl, rfl⟩

/-- The last two bytes are the sum's, just if each is. -/
theorem two_last {s x : ByteArray} {m : Nat} (h : m + 2 = s.size) :
    s.extract m s.size = sumB x ↔ ((s[m]'(by omega)).toNat : Int) = sumL x.data.toList % 256 ∧ ((s[m + 1]'(by omega)).toNat : Int) = sumL x.data.toList / 256 := by
  have hb := sumL_bound x.data.toList
  have e : s.extract m s.size = ⟨#[s[m]'(by omega), s[m + 1]'(by omega)]⟩ := by
    apply ByteArray.ext
    apply Array.ext
    · simp; omega
    · intro i h1 h2
      match i, h2 with
      | 0, _ => simp [ByteArray.data_extract]; rfl
      | 1, _ => simp [ByteArray.data_extract]; rfl
  rw [e, sumB]
  generalize sumL x.data.toList = n at *
  have u : ∀ (c : UInt8) (y : Int), 0 ≤ y → y < 256 → (c = y.toNat.toUInt8 ↔ (c.toNat : Int) = y) := by
    intro c y h0 h1
    have e : y.toNat.toUInt8.toNat = y.toNat := by rw [Nat.toUInt8_eq, UInt8.toNat_ofNat']; omega
    constructor
    · intro h; rw [h, e]; omega
    · intro h; apply UInt8.toNat_inj.1; rw [e]; omega
  simp only [ByteArray.mk.injEq, Array.mk.injEq, List.cons.injEq, and_true]
  rw [u _ _ (by omega) (by omega), u _ _ (by omega) (by omega)]
end Go.Proofs.YtgpnkjapgfkblaaDoor
