/-
  A number's bytes as a plain function: seven bits each, the lowest ones first, all but the last one with the upper bit; of a number below 128 to the power k they are at most k.
-/
namespace Go.Proofs.YtgpnkjapgfkblaaDoor

/-- A number's bytes. -/
def putL (n : Nat) : List UInt8 := if n < 128 then [n.toUInt8] else (n % 128 + 128).toUInt8 :: putL (n / 128)

theorem putL_small {n : Nat} (h : n < 128) : putL n = [n.toUInt8] := by rw [putL, if_pos h]
theorem putL_big {n : Nat} (h : ¬ n < 128) : putL n = (n % 128 + 128).toUInt8 :: putL (n / 128) := by rw [putL, if_neg h]

theorem putL_pos (n : Nat) : 0 < (putL n).length := by
  by_cases h : n < 128
  · rw [putL_small h]; simp
  · rw [putL_big h]; simp

theorem putL_len : ∀ (k n : Nat), n < 128 ^ (k + 1) → (putL n).length ≤ k + 1
  | 0, n, h => by rw [putL_small (by simpa using h)]; simp
  | k + 1, n, h => by
    by_cases hs : n < 128
    · rw [putL_small hs]; simp
    · rw [putL_big hs]
      have := putL_len k (n / 128) (by
        rw [Nat.div_lt_iff_lt_mul (by omega)]
        have e : 128 ^ (k + 1 + 1) = 128 ^ (k + 1) * 128 := Nat.pow_succ ..
        omega)
      simp; omega

theorem putL_nine {n : Nat} (h : n ≤ 9223372036854775807) : (putL n).length ≤ 9 := putL_len 8 n (by omega)

/-- A number's bytes, as a text. -/
def putB (n : Nat) : ByteArray := ⟨(putL n).toArray⟩
theorem putB_size (n : Nat) : (putB n).size = (putL n).length := by simp [putB, ByteArray.size]
theorem putB_nine {n : Nat} (h : n ≤ 9223372036854775807) : 0 < (putB n).size ∧ (putB n).size ≤ 9 := by
  rw [putB_size]; exact ⟨putL_pos n, putL_nine h⟩
end Go.Proofs.YtgpnkjapgfkblaaDoor
