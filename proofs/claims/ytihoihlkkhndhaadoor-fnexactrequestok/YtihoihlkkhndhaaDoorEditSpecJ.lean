/-
  What the specification's EditOK answers.
-/
import Derived.Test.YtihoihlkkhndhaaDoorEditRepJ
namespace Go.Proofs.YtihoihlkkhndhaaDoor
open Go.RowKit

set_option maxHeartbeats 2000000 in
theorem specEditOK_any (x : PEdit) (w : World) (hl : x.text.size ≤ 1048576) :
    Calls Tryd.prog 11 #[editVal x] w fun e w' => e = .returned (.bool (editB x)) ∧ Below w.heap.size w w' := by
  obtain ⟨k, n, a, b, t⟩ := x
  simp only at hl
  go_enter Tryd.func11, Tryd.ntmps11
  go_wp2_with (first | (go_at_call 9; refine (specIn_any _ _ _ _).mono ?_; rintro e w' ⟨rfl, rfl⟩) | (go_at_call 16; refine (specKind_any _ _).mono ?_; rintro e w' ⟨rfl, rfl⟩))
  all_goals
    go_ret
    refine ⟨ret_bool ?_, (Below.refl _ _).alloc (Nat.le_refl _) _⟩
    rw [Bool.eq_iff_iff, editB_iff]
    simp only [beq_iff_eq, beq_eq_false_iff_ne, ne_eq, inB_iff, toList_nil, Bool.false_eq_true] at *
    generalize t.size = z at *
    try subst_vars
    first | (simp; omega) | (simp; done) | omega
end Go.Proofs.YtihoihlkkhndhaaDoor
