/-
  What CodeWord answers, the program's (where its table holds the words) and the specification's: the plain function of the Plain text. They make new memory alone.
-/
import Derived.Test.YtgpnkjapgfkblaeDoorRows
import Derived.Test.YtgpnkjapgfkblaeDoorWordPlain
import Derived.WalkKit
import Derived.WalkSpells
namespace Go.Proofs.YtgpnkjapgfkblaeDoor
open Go.RowKit

set_option maxHeartbeats 2000000 in
set_option maxRecDepth 100000 in
theorem specWord_any (c : Int) (w : World) :
    Calls Tryd.prog 15 #[.int .i64 c] w fun e w' => e = .returned (.string (wordB c)) ∧ Below w.heap.size w w' := by
  by_cases h0 : 0 ≤ c
  · by_cases h1 : c ≤ 21
    · rcases code_cases h0 h1 with rfl | rfl | rfl | rfl | rfl | rfl | rfl | rfl | rfl | rfl | rfl | rfl | rfl | rfl | rfl | rfl | rfl | rfl | rfl | rfl | rfl | rfl
      all_goals
        clear h0 h1
        go_enter Tryd.func15, Tryd.ntmps15
        go_wp2
        go_ret
        exact ⟨rfl, (Below.refl _ _).alloc (Nat.le_refl _) _⟩
    · have HA : Hid (wordB c = ⟨#[]⟩) := wordB_out (by omega)
      have h2 : decide (c < 0) = false := by simp; omega
      go_enter Tryd.func15, Tryd.ntmps15
      go_wp2
      go_ret
      exact ⟨by rw [HA.out]; rfl, (Below.refl _ _).alloc (Nat.le_refl _) _⟩
  · have HA : Hid (wordB c = ⟨#[]⟩) := wordB_out (by omega)
    go_enter Tryd.func15, Tryd.ntmps15
    go_wp2
    go_ret
    exact ⟨by rw [HA.out]; rfl, (Below.refl _ _).alloc (Nat.le_refl _) _⟩

/-- The program's table holds the words. -/
def WordsAt (w : World) : Prop := ∀ k, k < 22 → w.cell? ⟨0, k, none⟩ = some (.string (wordB (k : Int)))
end Go.Proofs.YtgpnkjapgfkblaeDoor
