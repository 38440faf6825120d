/-
  Edits: how they lie as values, and what the program and the specification answer of a right one.
-/
import Derived.Test.YtihoihlkkhndhaaDoorEditAtJ
import Derived.Test.YtihoihlkkhndhaaDoorKindInJ
import Derived.Test.YtihoihlkkhndhaaDoorTextNilJ
namespace Go.Proofs.YtihoihlkkhndhaaDoor
open Go.RowKit

structure PEdit where
  kind : Int
  node : Int
  a : Int
  b : Int
  text : ByteArray

@[reducible] def editVal (x : PEdit) : Value := .agg #[.int .i64 x.kind, .int .i64 x.node, .int .i64 x.a, .int .i64 x.b, .string x.text]

def editB (x : PEdit) : Bool := inB x.node 1 999999 && inB x.kind 1 9 && inB x.a (edLow x.kind.toNat) (edTop x.kind.toNat) && inB x.b 0 (edB x.kind.toNat) && decide ((x.text.size : Int) ≤ edText x.kind.toNat)

set_option maxHeartbeats 1000000 in
theorem editB_iff {k n a b : Int} {t : ByteArray} : editB ⟨k, n, a, b, t⟩ = true ↔ (1 ≤ n ∧ n ≤ 999999) ∧ (t.size = 0 ∨ k = 3) ∧ t.size ≤ 20 ∧ ((k = 1 ∧ 1 ≤ a ∧ a ≤ 8 ∧ 0 ≤ b ∧ b ≤ 12) ∨ ((k = 2 ∨ k = 3 ∨ k = 7 ∨ k = 9) ∧ a = 0 ∧ b = 0) ∨ (k = 4 ∧ 0 ≤ a ∧ a ≤ 99 ∧ b = 0) ∨ (k = 5 ∧ 1 ≤ a ∧ a ≤ 999999 ∧ 0 ≤ b ∧ b ≤ 12) ∨ (k = 6 ∧ 1 ≤ a ∧ a ≤ 8 ∧ b = 0) ∨ (k = 8 ∧ 0 ≤ a ∧ a ≤ 20 ∧ b = 0)) := by
  generalize hz : t.size = z
  by_cases hk : 1 ≤ k ∧ k ≤ 9
  · have h9 : k = 1 ∨ k = 2 ∨ k = 3 ∨ k = 4 ∨ k = 5 ∨ k = 6 ∨ k = 7 ∨ k = 8 ∨ k = 9 := by omega
    rcases h9 with rfl | rfl | rfl | rfl | rfl | rfl | rfl | rfl | rfl
    all_goals
      simp only [editB, hz, Bool.and_eq_true, inB_iff, decide_eq_true_eq, edLow, edTop, edB, edText]
      simp
      omega
  · constructor
    · intro h
      simp only [editB, Bool.and_eq_true, inB_iff] at h
      exact absurd h.1.1.1.2 hk
    · rintro ⟨_, _, _, h⟩
      exfalso
      apply hk
      rcases h with h | h | h | h | h | h <;> omega

theorem szEdit_any (x : PEdit) (c : Int) (w : World) (h0 : 0 ≤ c) (h1 : c ≤ 1048576) (hl : x.text.size ≤ 9223372036854775807) :
    Calls Tryd.prog 8 #[editVal x, .int .i64 c] w fun e w' => ∃ r, e = .returned (.int .i64 r) ∧ -1 ≤ r ∧ r ≤ c ∧ (0 ≤ r → x.text.size ≤ 1048576) ∧ Below w.heap.size w w' := by
  by_cases h : c - x.text.size < 0
  · go_enter Tryd.func8, Tryd.ntmps8
    go_wp2_with fail
    go_ret
    exact ⟨_, rfl, by omega, by omega, by omega, (Below.refl _ _).alloc (Nat.le_refl _) _⟩
  · go_enter Tryd.func8, Tryd.ntmps8
    go_wp2_with fail
    go_ret
    exact ⟨_, rfl, by omega, by omega, by omega, (Below.refl _ _).alloc (Nat.le_refl _) _⟩

set_option maxHeartbeats 800000 in
theorem toEdit_any (x : PEdit) (w : World) :
    Calls Tryd.prog 12 #[editVal x] w fun e w' => e = .returned (editVal x) ∧ Below w.heap.size w w' := by
  go_enter Tryd.func12, Tryd.ntmps12
  go_wp2_with fail
  refine bodyPost_ret (v := editVal x) (by simp [results, Tryd.results12, go_sem]) rfl ⟨rfl, ?_⟩
  exact (((Below.refl _ _).alloc (Nat.le_refl _) _).alloc (by simp) _).alloc (by simp; omega) _
end Go.Proofs.YtihoihlkkhndhaaDoor
