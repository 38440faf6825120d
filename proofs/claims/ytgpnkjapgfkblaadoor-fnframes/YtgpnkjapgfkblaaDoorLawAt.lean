/-
  What the laws' own choice answers: a number from 0 to below n, 0 where n is at most 1. It leaves what was there as it was. Conditions: the slice is at most 1048576 bytes long.
-/
import Derived.Test.YtgpnkjapgfkblaaDoorSrcByte
import Derived.BigQuiet
import Derived.Deep.QuietTactic
namespace Go.Proofs.YtgpnkjapgfkblaaDoor
open Go.RowKit

/-- An ending answers a choice out of n. -/
def ChoiceOf (n : Int) (e : Ending) : Prop := ∃ r : Int, e = .returned (.int .i64 r) ∧ 0 ≤ r ∧ (1 ≤ n → r < n)

set_option maxHeartbeats 1000000 in
theorem at_nat (a : Option Addr) (len cap i : Nat) (n : Int) (zs : List Int) (w : World) (hr : BytesRow w a len cap zs) (hl : len ≤ 1048576) (hi : i ≤ 3) (n1 : n ≤ 1000000) :
    Calls Tryd.prog 5 #[.slice a len cap, .int .i64 (i : Int), .int .i64 n] w fun e w' => ChoiceOf n e ∧ Below w.heap.size w w' := by
  by_cases h1 : n ≤ 1
  · clear hr
    go_enter Tryd.func5, Tryd.ntmps5
    go_wp2
    go_ret
    exact ⟨⟨0, rfl, by omega, by omega⟩, Below.refl _ _⟩
  · by_cases h0 : len = 0
    · have hz : ((len : Int) == 0) = true := beq_iff_eq.2 (by omega)
      have hp : 0 ≤ (i : Int) * 7 % n ∧ (i : Int) * 7 % n < n := ⟨Int.emod_nonneg _ (by omega), Int.emod_lt_of_pos _ (by omega)⟩
      clear hr h0
      go_enter Tryd.func5, Tryd.ntmps5
      go_wp2
      go_ret
      exact ⟨⟨_, rfl, hp.1, fun _ => hp.2⟩, Below.refl _ _⟩
    · have hz : ((len : Int) == 0) = false := beq_eq_false_iff_ne.2 (by omega)
      have m0 : i % len < len := Nat.mod_lt _ (by omega)
      have m1 : (i + 1) % len < len := Nat.mod_lt _ (by omega)
      obtain ⟨ab, ao, rfl, c0, p0, p1⟩ := hr.at m0
      obtain ⟨ab', ao', e, c1, q0, q1⟩ := hr.at m1
      obtain ⟨rfl, rfl⟩ : ab = ab' ∧ ao = ao' := by simpa using e
      clear hr e
      generalize zs.getD (i % len) 0 = x at *
      generalize zs.getD ((i + 1) % len) 0 = y at *
      have A0 : 0 ≤ (i : Int) % (len : Int) := Int.emod_nonneg _ (by omega)
      have A1 : (i : Int) % (len : Int) < (len : Int) := Int.emod_lt_of_pos _ (by omega)
      have B0 : 0 ≤ ((i : Int) + 1) % (len : Int) := Int.emod_nonneg _ (by omega)
      have B1 : ((i : Int) + 1) % (len : Int) < (len : Int) := Int.emod_lt_of_pos _ (by omega)
      have T0 : ((i : Int) % (len : Int)).toNat = i % len := by rw [← Int.natCast_emod, Int.toNat_natCast]
      have T1 : (((i : Int) + 1) % (len : Int)).toNat = (i + 1) % len := by rw [show (i : Int) + 1 = ((i + 1 : Nat) : Int) by omega, ← Int.natCast_emod, Int.toNat_natCast]
      have D0 : 0 ≤ (i : Int) / (len : Int) := Int.ediv_nonneg (by omega) (by omega)
      have D1 : (i : Int) / (len : Int) ≤ 3 := Int.le_trans (Int.ediv_le_self _ (by omega)) (by omega)
      have hp : 0 ≤ (x * 31 + y + (i : Int) / (len : Int)) % n ∧ (x * 31 + y + (i : Int) / (len : Int)) % n < n := ⟨Int.emod_nonneg _ (by omega), Int.emod_lt_of_pos _ (by omega)⟩
      go_enter Tryd.func5, Tryd.ntmps5
      go_wp2
      go_region
      all_goals go_wp2
      all_goals go_ret
      all_goals exact ⟨⟨_, rfl, hp.1, fun _ => hp.2⟩, (Below.refl _ _).drew⟩

theorem at_any (a : Option Addr) (len cap : Nat) (x n : Int) (zs : List Int) (w : World) (hr : BytesRow w a len cap zs) (hl : len ≤ 1048576) (x0 : 0 ≤ x) (x1 : x ≤ 3) (n1 : n ≤ 1000000) :
    Calls Tryd.prog 5 #[.slice a len cap, .int .i64 x, .int .i64 n] w fun e w' => ChoiceOf n e ∧ Below w.heap.size w w' := by
  obtain ⟨i, rfl⟩ := Int.eq_ofNat_of_zero_le x0
  exact at_nat a len cap i n zs w hr hl (by omega) n1
end Go.Proofs.YtgpnkjapgfkblaaDoor
