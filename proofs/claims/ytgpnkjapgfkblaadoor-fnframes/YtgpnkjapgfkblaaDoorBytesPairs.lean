/-
  The pairs of digits of a text, one by one.
-/
import Derived.Test.YtgpnkjapgfkblaaDoorBytesPlain
import Derived.WalkKit
namespace Go.Proofs.YtgpnkjapgfkblaaDoor
open Go.RowKit

/-- The bytes of a text of digits, no bytes of any other. -/
def hexBytes (s : ByteArray) : ByteArray := if hexText s = true then ⟨(pairsL s (s.size / 2)).toArray⟩ else ⟨#[]⟩

theorem pairOK_at {s : ByteArray} {k m : Nat} (hm : m ≤ 2 * k) (hm' : 2 * k ≤ m) (h : m + 1 < s.size) : pairOK s k = (decide (0 ≤ digV (s[m].toNat : Int)) && decide (0 ≤ digV (s[m + 1].toNat : Int))) := by
  obtain rfl : m = 2 * k := by omega
  rw [pairOK, byteAt_in (by omega), byteAt_in h]
theorem pairV_at {s : ByteArray} {k m : Nat} (hm : m ≤ 2 * k) (hm' : 2 * k ≤ m) (h : m + 1 < s.size) : pairV s k = (16 * digV (s[m].toNat : Int) + digV (s[m + 1].toNat : Int)).toNat.toUInt8 := by
  obtain rfl : m = 2 * k := by omega
  rw [pairV, byteAt_in (by omega), byteAt_in h]

theorem pairs_next {s : ByteArray} {k : Nat} (h : ∀ j, j < k → pairOK s j = true) (hk : pairOK s k = true) : ∀ j, j < k + 1 → pairOK s j = true := by
  intro j hj
  by_cases e : j = k
  · rw [e]; exact hk
  · exact h j (by omega)

theorem pairs_cells {s : ByteArray} {k m : Nat} (hm : m ≤ 2 * k) (hm' : 2 * k ≤ m) (h : m + 1 < s.size) (h0 : 0 ≤ digV (s[m].toNat : Int)) (h1 : 0 ≤ digV (s[m + 1].toNat : Int)) :
    Lib.byteCells (pairsL s k) ++ [Value.int .u8 (16 * digV (s[m].toNat : Int) + digV (s[m + 1].toNat : Int))] = Lib.byteCells (pairsL s (k + 1)) := by
  have b0 := digV_bound (s[m].toNat : Int)
  have b1 := digV_bound (s[m + 1].toNat : Int)
  rw [pairsL_snoc, Lib.byteCells_append, pairV_at hm hm' h]
  simp only [Lib.byteCells, List.map_cons, List.map_nil]
  rw [pair_cell h0 b0.2 h1 b1.2]

end Go.Proofs.YtgpnkjapgfkblaaDoor
