/-
  Whether a number is in a list, asked by the specification.
-/
import Derived.Test.YtfjhpfgffbghdaaBasicInJ
namespace Go.Proofs.Ytfjhpfgffbghdaa
open Go.RowKit

def hasB (ks : List Int) (n : Int) : Bool := ks.any (· == n)
theorem hasB_iff {ks : List Int} {n : Int} : hasB ks n = true ↔ n ∈ ks := by simp [hasB]
theorem hasB_no {ks : List Int} {n : Int} : hasB ks n = false ↔ n ∉ ks := by rw [← hasB_iff]; simp
theorem hasB_snoc {ks : List Int} {k : Nat} (h : k < ks.length) (n : Int) : hasB (ks.take (k + 1)) n = (hasB (ks.take k) n || (ks[k]?.getD 0 == n)) := by
  rw [List.take_succ_eq_append_getElem h]; simp [hasB, h, -List.take_append_getElem]
theorem hasB_hit {ks : List Int} {k : Nat} (h : k < ks.length) {n : Int} (e : (ks[k]?.getD 0 == n) = true) : hasB ks n = true := by
  simp [h] at e; rw [hasB_iff, ← e]; exact List.getElem_mem h

set_option maxHeartbeats 400000 in
theorem specHas_any (n₀ : Nat) (v : Value) (ks : List Int) (n : Int) (w : World) (hk : IntsAt n₀ w v ks) (hl : ks.length ≤ 1048576) :
    Calls Try.prog 80 #[v, .int .i64 n] w fun e w' => e = .returned (.bool (hasB ks n)) ∧ w' = w := by
  obtain ⟨a, cap, rfl, hk⟩ := hk
  go_enter Try.func80, Try.ntmps80
  go_wp2
  go_loop [5] (fun i => ∃ k : Nat, k ≤ ks.length ∧ i = .int .i64 k ∧ Hid (hasB (ks.take k) n = false)) (fun i => ks.length - (intOf i).toNat)
  case atStart => exact ⟨0, Nat.zero_le _, rfl, by simp [Hid, hasB]⟩
  case round =>
    obtain ⟨k, hkl, rfl, hno⟩ := hrel
    by_cases hlt : k < ks.length
    · obtain ⟨b, off, rfl, hb, hc⟩ := hk.resolve_left (by intro e; simp [e] at hlt)
      have hck := hc k hlt
      have HS := hide (hasB_snoc hlt n)
      have HH := hide (@hasB_hit _ _ hlt n)
      clear hc
      generalize ks[k]?.getD 0 = y at *
      go_wp2
      · go_ret
        exact ⟨ret_bool (HH.out (by assumption)).symm, rfl⟩
      · go_round
        case rel => exact ⟨k + 1, by omega, by go_num, by unfold Hid; rw [HS.out, hno.out, Bool.false_or]; assumption⟩
        case measure => simp [intOf]; omega
    · have hh : Hid (hasB ks n = false) := by have := hno.out; rw [List.take_of_length_le (by omega)] at this; exact this
      clear hno
      go_wp2
      go_ret
      exact ⟨ret_bool hh.out.symm, rfl⟩
end Go.Proofs.Ytfjhpfgffbghdaa
