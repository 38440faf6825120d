/-
  A text of no bytes.
-/
import Derived.Test.YtihoihlkkhndhaaDoorBasicInJ
namespace Go.Proofs.YtihoihlkkhndhaaDoor
open Go.RowKit

theorem loop_ne (bs : ByteArray) : ∀ (n i : Nat) (r : List UInt8), bs.size - i = n → (r ≠ [] ∨ i < bs.size) → ByteArray.toList.loop bs i r ≠ [] := by
  intro n
  induction n with
  | zero =>
    intro i r h hr
    rw [ByteArray.toList.loop, if_neg (by omega)]
    rcases hr with hr | hr
    · simpa using hr
    · omega
  | succ n ih =>
    intro i r h hr
    rw [ByteArray.toList.loop, if_pos (by omega)]
    exact ih (i + 1) _ (by omega) (.inl (by simp))

theorem toList_nil {t : ByteArray} : t.toList = [] ↔ t.size = 0 := by
  constructor
  · intro h
    by_cases h0 : 0 < t.size
    · exact absurd h (loop_ne t _ 0 [] rfl (.inr h0))
    · omega
  · intro h
    rw [ByteArray.toList, ByteArray.toList.loop, if_neg (by omega)]
    rfl

theorem empty_iff {t : ByteArray} : t = ByteArray.empty ↔ t.size = 0 := by
  constructor
  · rintro rfl; rfl
  · intro h; cases t with | mk d => simp [ByteArray.size] at h; subst h; rfl
end Go.Proofs.YtihoihlkkhndhaaDoor
