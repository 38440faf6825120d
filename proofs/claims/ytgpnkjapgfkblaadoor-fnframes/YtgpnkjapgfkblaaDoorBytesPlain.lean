/-
  A text of digits read as bytes, as a plain function: two digits a byte, the upper one first, small letters.
-/
import Derived.Lib.UnsafeStr
import Derived.Test.YtgpnkjapgfkblaaDoorTakePlain
namespace Go.Proofs.YtgpnkjapgfkblaaDoor

/-- The value of a digit, -1 of what is none. -/
def digV (c : Int) : Int := if 48 ≤ c ∧ c ≤ 57 then c - 48 else if 97 ≤ c ∧ c ≤ 102 then c - 87 else -1
theorem digV_bound (c : Int) : -1 ≤ digV c ∧ digV c ≤ 15 := by unfold digV; split; omega; split <;> omega
theorem digV_num {c : Int} (h : 48 ≤ c ∧ c ≤ 57) : digV c = c - 48 := if_pos h
theorem digV_let {c : Int} (h : 97 ≤ c ∧ c ≤ 102) : digV c = c - 87 := by rw [digV, if_neg (by omega), if_pos h]
theorem digV_no {c : Int} (h : ¬ (48 ≤ c ∧ c ≤ 57)) (h2 : ¬ (97 ≤ c ∧ c ≤ 102)) : digV c = -1 := by rw [digV, if_neg h, if_neg h2]

/-- Both bytes of a pair are digits. -/
def pairOK (s : ByteArray) (j : Nat) : Bool := decide (0 ≤ digV (byteAt s (2 * j))) && decide (0 ≤ digV (byteAt s (2 * j + 1)))
/-- The byte of a pair. -/
def pairV (s : ByteArray) (j : Nat) : UInt8 := (16 * digV (byteAt s (2 * j)) + digV (byteAt s (2 * j + 1))).toNat.toUInt8
/-- The bytes of the first pairs. -/
def pairsL (s : ByteArray) (k : Nat) : List UInt8 := (List.range k).map (pairV s)
/-- The text is one of digits of bytes. -/
def hexText (s : ByteArray) : Bool := decide (s.size % 2 = 0) && (List.range (s.size / 2)).all (pairOK s)

theorem pairsL_len (s : ByteArray) (k : Nat) : (pairsL s k).length = k := by simp [pairsL]
theorem pairsL_snoc (s : ByteArray) (k : Nat) : pairsL s (k + 1) = pairsL s k ++ [pairV s k] := by simp [pairsL, List.range_succ]

theorem hexText_odd {s : ByteArray} (h : ¬ s.size % 2 = 0) : hexText s = false := by simp [hexText, h]
theorem hexText_bad {s : ByteArray} {k : Nat} (hk : 2 * k < s.size) (h2 : s.size % 2 = 0) (h : pairOK s k = false) : hexText s = false := by
  have : ¬ (List.range (s.size / 2)).all (pairOK s) = true := by
    intro ha
    have := List.all_eq_true.1 ha k (by simp; omega)
    rw [h] at this
    cases this
  simp [hexText, h2]
  simpa using this
theorem hexText_good {s : ByteArray} (h2 : s.size % 2 = 0) (h : ∀ j, j < s.size / 2 → pairOK s j = true) : hexText s = true := by
  simp [hexText, h2]
  exact h

theorem pair_cell {a b : Int} (ha : 0 ≤ a) (ha' : a ≤ 15) (hb : 0 ≤ b) (hb' : b ≤ 15) : Value.int .u8 (((16 * a + b).toNat.toUInt8).toNat : Int) = Value.int .u8 (16 * a + b) := by
  have e : (16 * a + b).toNat.toUInt8.toNat = (16 * a + b).toNat := by rw [Nat.toUInt8_eq, UInt8.toNat_ofNat']; omega
  rw [e]; congr 1; omega
end Go.Proofs.YtgpnkjapgfkblaaDoor
