/-
  What the program's tests of one node answer.
-/
import Derived.Test.YtfjhpfgffbghdaaJoinB
namespace Go.Proofs.Ytfjhpfgffbghdaa
open Go.RowKit

def okB (x : PNode) : Bool := inB x.kind 1 8 && inB x.attr 0 99 && decide (x.text.size ≤ 20) && decide (x.kids.length ≤ 12)
theorem okB_iff {next last : Int} {x : PNode} (h : inB x.id (last + 1) (next - 1) = true) (h0 : 0 ≤ last) : okB x = true ↔ NodeFine next x := by
  have := inB_iff.1 h
  simp only [okB, Bool.and_eq_true, inB_iff, decide_eq_true_eq, NodeFine, and_assoc]
  constructor
  · intro h; exact ⟨by omega, by omega, h⟩
  · intro h; exact h.2.2

set_option maxHeartbeats 400000 in
theorem nodeOK_any (x : PNode) (a : Option Addr) (cap : Nat) (w : World) :
    Calls Try.prog 96 #[.agg #[.int .i64 x.id, .int .i64 x.kind, .int .i64 x.attr, .string x.text, .slice a x.kids.length cap]] w fun e w' => e = .returned (.bool (okB x)) ∧ Below w.heap.size w w' := by
  go_enter Try.func96, Try.ntmps96
  go_wp2_with (go_at_call 87; refine (between_any _ _ _ _).mono ?_; rintro e w' ⟨rfl, rfl⟩)
  all_goals
    go_ret
    exact ⟨ret_bool (by rw [Bool.eq_iff_iff]; first | (simp [okB, *]; done) | (simp [okB, *]; omega)), (Below.refl _ _).alloc (Nat.le_refl _) _⟩
end Go.Proofs.Ytfjhpfgffbghdaa
