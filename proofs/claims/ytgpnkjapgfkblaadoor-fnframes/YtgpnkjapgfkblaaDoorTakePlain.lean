/-
  The number whose bytes stand in a text from a place on, as a plain function: the number, the place behind it, the code.
-/
namespace Go.Proofs.YtgpnkjapgfkblaaDoor

/-- The k-th byte of a text, as a number; 0 behind its end. -/
def byteAt (s : ByteArray) (k : Nat) : Int := if h : k < s.size then (s[k].toNat : Int) else 0
theorem byteAt_in {s : ByteArray} {k : Nat} (h : k < s.size) : byteAt s k = (s[k].toNat : Int) := by simp [byteAt, h]

/-- The third byte. -/
def take2 (s : ByteArray) (a : Nat) (n : Int) : Int × Int × Int :=
  if s.size ≤ a + 2 then (0, 0, 8) else if 128 ≤ byteAt s (a + 2) then (0, 0, 4) else if byteAt s (a + 2) = 0 then (0, 0, 3)
  else if 999999 < n + byteAt s (a + 2) % 128 * 16384 then (0, 0, 4) else (n + byteAt s (a + 2) % 128 * 16384, (a : Int) + 2 + 1, 0)
/-- The second byte. -/
def take1 (s : ByteArray) (a : Nat) (n : Int) : Int × Int × Int :=
  if s.size ≤ a + 1 then (0, 0, 8) else if 128 ≤ byteAt s (a + 1) then take2 s a (n + byteAt s (a + 1) % 128 * 128) else if byteAt s (a + 1) = 0 then (0, 0, 3)
  else (n + byteAt s (a + 1) % 128 * 128, (a : Int) + 1 + 1, 0)
/-- The first byte. -/
def take0 (s : ByteArray) (a : Nat) : Int × Int × Int :=
  if s.size ≤ a then (0, 0, 8) else if 128 ≤ byteAt s a then take1 s a (byteAt s a % 128) else (byteAt s a % 128, (a : Int) + 1, 0)

section
variable {s : ByteArray} {a : Nat}
theorem take_end0 (h : s.size ≤ a) : take0 s a = (0, 0, 8) := if_pos h
theorem take_one (h : a < s.size) (b : s[a].toNat < 128) : take0 s a = ((s[a].toNat : Int) % 128, (a : Int) + 1, 0) := by
  rw [take0, if_neg (by omega), byteAt_in h, if_neg (by omega)]
theorem take_zero (h : a < s.size) (b : s[a].toNat = 0) : take0 s a = (0, (a : Int) + 1, 0) := by
  rw [take_one h (by omega), b]; rfl
theorem take_on0 (h : a < s.size) (b : 128 ≤ s[a].toNat) : take0 s a = take1 s a ((s[a].toNat : Int) % 128) := by
  rw [take0, if_neg (by omega), byteAt_in h, if_pos (by omega)]
theorem take_end1 (n : Int) (h : s.size ≤ a + 1) : take1 s a n = (0, 0, 8) := if_pos h
theorem take_form1 (n : Int) (h : a + 1 < s.size) (b : s[a + 1].toNat = 0) : take1 s a n = (0, 0, 3) := by
  rw [take1, if_neg (by omega), byteAt_in h, if_neg (by omega), if_pos (by omega)]
theorem take_two (n : Int) (h : a + 1 < s.size) (b : s[a + 1].toNat < 128) (c : ¬ s[a + 1].toNat = 0) : take1 s a n = (n + (s[a + 1].toNat : Int) % 128 * 128, (a : Int) + 1 + 1, 0) := by
  rw [take1, if_neg (by omega), byteAt_in h, if_neg (by omega), if_neg (by omega)]
theorem take_on1 (n : Int) (h : a + 1 < s.size) (b : 128 ≤ s[a + 1].toNat) : take1 s a n = take2 s a (n + (s[a + 1].toNat : Int) % 128 * 128) := by
  rw [take1, if_neg (by omega), byteAt_in h, if_pos (by omega)]
theorem take_end2 (n : Int) (h : s.size ≤ a + 2) : take2 s a n = (0, 0, 8) := if_pos h
theorem take_range2 (n : Int) (h : a + 2 < s.size) (b : 128 ≤ s[a + 2].toNat) : take2 s a n = (0, 0, 4) := by
  rw [take2, if_neg (by omega), byteAt_in h, if_pos (by omega)]
theorem take_form2 (n : Int) (h : a + 2 < s.size) (b : s[a + 2].toNat = 0) : take2 s a n = (0, 0, 3) := by
  rw [take2, if_neg (by omega), byteAt_in h, if_neg (by omega), if_pos (by omega)]
theorem take_great (n : Int) (h : a + 2 < s.size) (b : s[a + 2].toNat < 128) (c : ¬ s[a + 2].toNat = 0) (g : 999999 < n + (s[a + 2].toNat : Int) % 128 * 16384) : take2 s a n = (0, 0, 4) := by
  rw [take2, if_neg (by omega), byteAt_in h, if_neg (by omega), if_neg (by omega), if_pos (by omega)]
theorem take_three (n : Int) (h : a + 2 < s.size) (b : s[a + 2].toNat < 128) (c : ¬ s[a + 2].toNat = 0) (g : ¬ 999999 < n + (s[a + 2].toNat : Int) % 128 * 16384) : take2 s a n = (n + (s[a + 2].toNat : Int) % 128 * 16384, (a : Int) + 2 + 1, 0) := by
  rw [take2, if_neg (by omega), byteAt_in h, if_neg (by omega), if_neg (by omega), if_neg (by omega)]

/-- What is taken is no number and no place where there is a code; else the number is at most 999999, and its place behind it lies within the text. -/
theorem take0_parts (s : ByteArray) (a : Nat) : ((take0 s a).2.2 ≠ 0 ∧ (take0 s a).1 = 0 ∧ (take0 s a).2.1 = 0) ∨
    ∃ n m : Nat, take0 s a = ((n : Int), (m : Int), 0) ∧ n ≤ 999999 ∧ m ≤ s.size ∧ a < m := by
  by_cases h0 : s.size ≤ a
  · rw [take_end0 h0]; exact .inl ⟨by decide, rfl, rfl⟩
  have h0' : a < s.size := by omega
  by_cases b0 : s[a].toNat < 128
  · rw [take_one h0' b0]; exact .inr ⟨s[a].toNat % 128, a + 1, by simp, by omega, by omega, by omega⟩
  rw [take_on0 h0' (by omega)]
  by_cases h1 : s.size ≤ a + 1
  · rw [take_end1 _ h1]; exact .inl ⟨by decide, rfl, rfl⟩
  have h1' : a + 1 < s.size := by omega
  by_cases b1 : s[a + 1].toNat < 128
  · by_cases z1 : s[a + 1].toNat = 0
    · rw [take_form1 _ h1' z1]; exact .inl ⟨by decide, rfl, rfl⟩
    · rw [take_two _ h1' b1 z1]
      exact .inr ⟨s[a].toNat % 128 + s[a + 1].toNat % 128 * 128, a + 1 + 1, by simp, by omega, by omega, by omega⟩
  rw [take_on1 _ h1' (by omega)]
  by_cases h2 : s.size ≤ a + 2
  · rw [take_end2 _ h2]; exact .inl ⟨by decide, rfl, rfl⟩
  have h2' : a + 2 < s.size := by omega
  by_cases b2 : s[a + 2].toNat < 128
  · by_cases z2 : s[a + 2].toNat = 0
    · rw [take_form2 _ h2' z2]; exact .inl ⟨by decide, rfl, rfl⟩
    · by_cases g : 999999 < (s[a].toNat : Int) % 128 + (s[a + 1].toNat : Int) % 128 * 128 + (s[a + 2].toNat : Int) % 128 * 16384
      · rw [take_great _ h2' b2 z2 g]; exact .inl ⟨by decide, rfl, rfl⟩
      · rw [take_three _ h2' b2 z2 g]
        exact .inr ⟨s[a].toNat % 128 + s[a + 1].toNat % 128 * 128 + s[a + 2].toNat % 128 * 16384, a + 2 + 1, by simp, by omega, by omega, by omega⟩
  · rw [take_range2 _ h2' (by omega)]; exact .inl ⟨by decide, rfl, rfl⟩
end
end Go.Proofs.YtgpnkjapgfkblaaDoor
