/-
  The number whose bytes stand in a text from a place on, as a plain function: the number, the place behind it, the code.
-/
namespace Go.Proofs.YtgpnkjapgfkblaeDoor

/-- The k-th byte of a text, as a number; 0 behind its end. -/
def byteAt (s : ByteArray) (k : Nat) : Int := if h : k < s.size then (s[k].toNat : Int) else 0
theorem byteAt_in {s : ByteArray} {k : Nat} (h : k < s.size) : byteAt s k = (s[k].toNat : Int) := by simp [byteAt, h]

/-- The third byte. -/
def take2 (s : ByteArray) (a : Nat) (n : Int) : Int × Int × Int :=
  if s.size ≤ a + 2 then (0, 0, 8) else if 128 ≤ byteAt s (a + 2) then (0, 0, 4) else if byteAt s (a + 2) = 0 then (0, 0, 3)
  else if 999999 < n + byteAt s (a + 2) % 128 * 16384 then (0, 0, 4) else (n + byteAt s (a + 2) % 128 * 16384, (a : Int) + 2 + 1, 0)
/-- The second byte. -/
def take1 (s : ByteArray) (a : Nat) (n : Int) : Int × Int × Int :=
  if s.size ≤ a + 1 then (0, 0, 8) else if 128 ≤ byteAt s (a + 1) then take2 s a (n + byteAt s (a + 1) % 128 * 128) else if byteAt s (a + 1) = 0 then (0, 0, 3)
  else (n + byteAt s (a + 1) % 128 * 128, (a : Int) + 1 + 1, 0)
/-- The first byte. -/
def take0 (s : ByteArray) (a : Nat) : Int × Int × Int :=
  if s.size ≤ a then (0, 0, 8) else if 128 ≤ byteAt s a then take1 s a (byteAt s a % 128) else (byteAt s a % 128, (a : Int) + 1, 0)

section
variable {s : ByteArray} {a : Nat}
theorem take_end0 (h : s.size ≤ a) : take0 s a = (0, 0, 8) := if_pos h
theorem take_one (h : a < s.size) (b : s[a].toNat < 128) : take0 s a = ((s[a].toNat : Int) % 128, (a : Int) + 1, 0) := by
  rw [take0, if_neg (by omega), byteAt_in h, if_neg (by omega)]
theorem take_zero (h : a < s.size) (b : s[a].toNat = 0) : take0 s a = (0, (a : Int) + 1, 0) := by
  rw [take_one h (by omega), b]; rfl
theorem take_on0 (h : a < s.size) (b : 128 ≤ s[a].toNat) : take0 s a = take1 s a ((s[a].toNat : Int) % 128) := by
  rw [take0, if_neg (by omega), byteAt_in h, if_pos (by omega)]
theorem take_end1 (n : Int) (h : s.size ≤ a + 1) : take1 s a n = (0, 0, 8) := if_pos h
theorem take_form1 (n : Int) (h : a + 1 < s.size) (b : s[a + 1].toNat = 0) : take1 s a n = (0, 0, 3) := by
  rw [take1, if_neg (by omega), byteAt_in h, if_neg (by omega), if_pos (by omega)]
theorem take_two (n : Int) (h : a + 1 < s.size) (b : s[a + 1].toNat < 128) (c : ¬ s[a + 1].toNat = 0) : take1 s a n = (n + (s[a + 1].toNat : Int) % 128 * 128, (a : Int) + 1 + 1, 0) := by
  rw [take1, if_neg (by omega), byteAt_in h, if_neg (by omega), if_neg (by omega)]
theorem take_on1 (n : Int) (h : a + 1 < s.size) (b : 128 ≤ s[a + 1].toNat) : take1 s a n = take2 s a (n + (s[a + 1].toNat : Int) % 128 * 128) := by
  rw [take1, if_neg (by omega), byteAt_in h, if_pos (by omega)]
theorem take_end2 (n : Int) (h : s.size ≤ a + 2) : take2 s a n = (0, 0, 8) := if_pos h
theorem take_range2 (n : Int) (h : a + 2 < s.size) (b : 128 ≤ s[a + 2].toNat) : take2 s a n = (0, 0, 4) := by
  rw [take2, if_neg (by omega), byteAt_in h, if_pos (by omega)]
theorem take_form2 (n : Int) (h : a + 2 < s.size) (b : s[a + 2].toNat = 0) : take2 s a n = (0, 0, 3) := by
  rw [take2, if_neg (by omega), byteAt_in h, if_neg (by omega), if_pos (by omega)]
theorem take_great (n : Int) (h : a + 2 < s.size) (b : s[a + 2].toNat < 128) (c : ¬ s[a + 2].toNat = 0) (g : 999999 < n + (s[a + 2].toNat : Int) % 128 * 16384) : take2 s a n = (0, 0, 4) := by
  rw [take2, if_neg (by omega), byteAt_in h, if_neg (by omega), if_neg (by omega), if_pos (by omega)]
theorem take_three (n : Int) (h : a + 2 < s.size) (b : s[a + 2].toNat < 128) (c : ¬ s[a + 2].toNat = 0) (g : ¬ 999999 < n + (s[a + 2].toNat : Int) % 128 * 16384) : take2 s a n = (n + (s[a + 2].toNat : Int) % 128 * 16384, (a : Int) + 2 + 1, 0) := by
  rw [take2, if_neg (by omega), byteAt_in h, if_neg (by omega), if_neg (by omega), if_neg (by omega)]
end
end Go.Proofs.YtgpnkjapgfkblaeDoor
