/-
  The sum of a text's bytes as a plain function of lists: 1 at first, then 31 times what it is and the byte, modulo 65521. It lies from 0 to 65520.
-/
namespace Go.Proofs.YtpkblnponeonkaaDoor

/-- One byte more. -/
def sumStep (n : Int) (c : UInt8) : Int := (31 * n + (c.toNat : Int)) % 65521
/-- The sum of a list of bytes. -/
def sumL (l : List UInt8) : Int := l.foldl sumStep 1

theorem foldl_sum_bound : ∀ (l : List UInt8) (n : Int), 0 ≤ n → n < 65521 → 0 ≤ l.foldl sumStep n ∧ l.foldl sumStep n < 65521
  | [], n, h0, h1 => ⟨h0, h1⟩
  | c :: l, n, h0, h1 => foldl_sum_bound l (sumStep n c) (by unfold sumStep; omega) (by unfold sumStep; omega)

theorem sumL_bound (l : List UInt8) : 0 ≤ sumL l ∧ sumL l < 65521 := foldl_sum_bound l 1 (by omega) (by omega)

theorem sumL_snoc (l : List UInt8) (c : UInt8) : sumL (l ++ [c]) = (31 * sumL l + (c.toNat : Int)) % 65521 := by
  simp [sumL, sumStep]

theorem take_snoc (s : ByteArray) (k : Nat) (h : k < s.size) : s.data.toList.take (k + 1) = s.data.toList.take k ++ [s[k]] := by
  rw [List.take_succ_eq_append_getElem (by simpa using h)]; rfl

theorem sumL_take (s : ByteArray) (k : Nat) (h : k < s.size) : sumL (s.data.toList.take (k + 1)) = (31 * sumL (s.data.toList.take k) + (s[k].toNat : Int)) % 65521 := by
  rw [take_snoc s k h, sumL_snoc]

theorem take_all (s : ByteArray) (k : Nat) (h : s.size ≤ k) : s.data.toList.take k = s.data.toList :=
  List.take_of_length_le (by simpa using h)
end Go.Proofs.YtpkblnponeonkaaDoor
