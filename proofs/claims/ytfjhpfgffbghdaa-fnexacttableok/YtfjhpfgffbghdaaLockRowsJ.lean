/-
  Lists of locks in memory, cell by cell.
-/
import Derived.Test.YtfjhpfgffbghdaaJoinG
namespace Go.Proofs.Ytfjhpfgffbghdaa
open Go.RowKit

theorem lockVals_app (ad : Int → Nat) (L K : List PHold) : lockVals ad (L ++ K) = lockVals ad L ++ lockVals ad K := by simp [lockVals]
theorem lockVals_len (ad : Int → Nat) : ∀ L : List PHold, (lockVals ad L).length = L.length * 3
  | [] => rfl
  | x :: L => by rw [lockVals_cons, List.length_append, lockVals_len ad L]; simp [lockCells]; omega
theorem lockCells_one (ad : Int → Nat) (x : PHold) : ∀ u ∈ lockCells ad x, u.oneCell' = true := by
  intro u hu
  simp only [lockCells, List.mem_cons, List.not_mem_nil, or_false] at hu
  rcases hu with rfl | rfl | rfl <;> rfl
theorem lockVals_one (ad : Int → Nat) (L : List PHold) : ∀ u ∈ lockVals ad L, u.oneCell' = true := by
  intro u hu
  obtain ⟨x, _, hx⟩ := List.mem_flatMap.1 hu
  exact lockCells_one ad x u hx
end Go.Proofs.Ytfjhpfgffbghdaa
