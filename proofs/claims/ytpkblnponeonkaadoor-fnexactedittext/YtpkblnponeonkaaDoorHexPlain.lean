/-
  Two digits a byte, the upper one first, small letters, as a plain function of lists.
-/
import Derived.Lib.UnsafeStr
namespace Go.Proofs.YtpkblnponeonkaaDoor

/-- The digit of a number from 0 to 15, as a byte. -/
def hexD (n : Nat) : Nat := if n < 10 then 48 + n else 87 + n
/-- The two digits of a byte. -/
def hexTwo (c : UInt8) : List UInt8 := [(hexD (c.toNat / 16)).toUInt8, (hexD (c.toNat % 16)).toUInt8]
/-- The digits of a list of bytes. -/
def hexL (l : List UInt8) : List UInt8 := l.flatMap hexTwo

theorem hexL_len (l : List UInt8) : (hexL l).length = 2 * l.length := by
  induction l with
  | nil => rfl
  | cons c l ih => simp [hexL, hexTwo] at *; omega

theorem hexL_snoc (l : List UInt8) (c : UInt8) : hexL (l ++ [c]) = hexL l ++ hexTwo c := by simp [hexL]

theorem hexD_lt {n : Nat} (h : n < 16) : hexD n < 256 := by unfold hexD; split <;> omega

theorem toUInt8_back {a : Nat} (h : a < 256) : a.toUInt8.toNat = a := by rw [Nat.toUInt8_eq, UInt8.toNat_ofNat']; omega

theorem hexTwo_cells (c : UInt8) : Lib.byteCells (hexTwo c) = [.int .u8 ((hexD (c.toNat / 16) : Nat) : Int), .int .u8 ((hexD (c.toNat % 16) : Nat) : Int)] := by
  have h := c.toNat_lt
  simp only [hexTwo, Lib.byteCells, List.map_cons, List.map_nil, toUInt8_back (hexD_lt (n := c.toNat / 16) (by omega)), toUInt8_back (hexD_lt (n := c.toNat % 16) (by omega))]
end Go.Proofs.YtpkblnponeonkaaDoor
