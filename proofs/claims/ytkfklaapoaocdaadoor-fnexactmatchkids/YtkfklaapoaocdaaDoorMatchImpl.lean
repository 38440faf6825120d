/-
  Whether kids are taken by terms: the program's own steps.
-/
import Derived.Test.YtkfklaapoaocdaaDoorAmtAt
import Derived.Test.YtkfklaapoaocdaaDoorMatchSpec
namespace Go.Proofs.YtkfklaapoaocdaaDoor
open Go.RowKit

set_option maxHeartbeats 400000 in
theorem implIndex_any (n₀ : Nat) (v : Value) (ks : List Int) (n : Int) (w : World) (hk : IntsAt n₀ w v ks) (hl : ks.length ≤ 1048576) :
    Calls Tryd.prog 120 #[v, .int .i64 n] w fun e w' => ∃ q : Int, e = .returned (.int .i64 q) ∧ (0 ≤ q ↔ n ∈ ks) ∧ w' = w := by
  obtain ⟨a, cap, rfl, hk⟩ := hk
  go_enter Tryd.func120, Tryd.ntmps120
  go_wp2_with fail
  go_loop [8] (fun i => ∃ k : Nat, k ≤ ks.length ∧ i = .int .i64 k ∧ Hid (n ∉ ks.take k)) (fun i => ks.length - (intOf i).toNat)
  case atStart => exact ⟨0, Nat.zero_le _, rfl, by simp [Hid]⟩
  case round =>
    obtain ⟨k, hkl, rfl, hno⟩ := hrel
    by_cases hlt : k < ks.length
    · obtain ⟨b, off, rfl, hb, hc⟩ := hk.resolve_left (by intro e; simp [e] at hlt)
      have hck := hc k hlt
      have HMem : Hid (ks[k]?.getD 0 ∈ ks) := by simp [Hid, hlt]
      have HS : Hid (n ≠ ks[k]?.getD 0 → n ∉ ks.take (k + 1)) := fun h => by
        rw [List.take_succ_eq_append_getElem hlt, List.mem_append]
        rintro (h' | h')
        · exact hno.out h'
        · simp [hlt] at h h'; exact h h'
      clear hc
      generalize ks[k]?.getD 0 = y at *
      by_cases hy : n = y
      · have hy1 : (n == y) = true := by simp [hy]
        have HIn : Hid (n ∈ ks) := by rw [hy]; exact HMem.out
        clear hy
        go_wp2_with fail
        go_ret
        exact ⟨_, rfl, ⟨fun _ => HIn.out, fun _ => by omega⟩, rfl⟩
      · have hy1 : (n == y) = false := by simpa using hy
        have HS2 := hide (HS.out hy)
        clear hy
        go_wp2_with fail
        exact ⟨⟨k + 1, by omega, by go_num, HS2⟩, by simp [intOf]; omega⟩
    · have HN : Hid (n ∉ ks) := by have := hno.out; rwa [List.take_of_length_le (by omega)] at this
      clear hk
      go_wp2_with fail
      go_ret
      exact ⟨_, rfl, ⟨fun h => by omega, fun h => absurd h HN.out⟩, rfl⟩

set_option maxHeartbeats 400000 in
theorem implContains_any (n₀ : Nat) (v : Value) (ks : List Int) (n : Int) (w : World) (hk : IntsAt n₀ w v ks) (hl : ks.length ≤ 1048576) :
    Calls Tryd.prog 110 #[v, .int .i64 n] w fun e w' => e = .returned (.bool (hasB ks n)) ∧ w' = w := by
  have HI := hide (implIndex_any n₀ v ks n w hk hl)
  obtain ⟨a, cap, rfl, -⟩ := hk
  go_enter Tryd.func110, Tryd.ntmps110
  go_wp2_with fail
  refine HI.out.mono ?_
  rintro e w1 ⟨q, rfl, hq, rfl⟩
  have HQ := hide hq
  clear hq
  go_wp2_with fail
  go_ret
  refine ⟨ret_bool ?_, rfl⟩
  rw [Bool.eq_iff_iff, hasB_iff, ← HQ.out]
  simp

set_option maxHeartbeats 1000000 in
theorem implFirst_any (n₀ : Nat) (v v' : Value) (kinds ks : List Int) (w : World) (hk : IntsAt n₀ w v kinds) (hk' : IntsAt n₀ w v' ks) (hl : kinds.length ≤ 1048576) (hl' : ks.length ≤ 1048576) :
    Calls Tryd.prog 91 #[v, v'] w fun e w' => ∃ q : Nat, e = .returned (.int .i64 q) ∧ FirstP kinds ks q ∧ w' = w := by
  have HC : Hid (∀ y, Calls Tryd.prog 110 #[v, .int .i64 y] w fun e w' => e = .returned (.bool (hasB kinds y)) ∧ w' = w) := fun y => implContains_any n₀ v kinds y w hk hl
  obtain ⟨a, cap, rfl, -⟩ := hk
  obtain ⟨a', cap', rfl, hk'⟩ := hk'
  go_enter Tryd.func91, Tryd.ntmps91
  go_wp2_with fail
  go_loop [5] (fun i => ∃ k : Nat, k ≤ ks.length ∧ i = .int .i64 k ∧ Hid (∀ j, j < k → ks[j]?.getD 0 ∈ kinds)) (fun i => ks.length - (intOf i).toNat)
  case atStart => exact ⟨0, Nat.zero_le _, rfl, fun j hj => absurd hj (by omega)⟩
  case round =>
    obtain ⟨k, hkl, rfl, hall⟩ := hrel
    by_cases hlt : k < ks.length
    · obtain ⟨b, off, rfl, hb, hc⟩ := hk'.resolve_left (by intro e; simp [e] at hlt)
      have hck := hc k hlt
      have HN : Hid (ks[k]?.getD 0 ∈ kinds → ∀ j, j < k + 1 → ks[j]?.getD 0 ∈ kinds) := fun h j hj => by
        by_cases e : j = k
        · rw [e]; exact h
        · exact hall.out j (by omega)
      have HF : Hid (ks[k]?.getD 0 ∉ kinds → FirstP kinds ks k) := fun h => ⟨hkl, hall.out, fun _ => h⟩
      have HH := hide (HC.out (ks[k]?.getD 0))
      have HB := hide (@hasB_iff kinds (ks[k]?.getD 0))
      clear hc
      generalize ks[k]?.getD 0 = y at *
      cases hh : hasB kinds y with
      | true =>
        have HS := hide (HN.out (HB.out.1 hh))
        rw [hh] at HH
        clear hh
        go_wp2_with (go_at_call 110; refine HH.out.mono ?_; rintro e w' ⟨rfl, rfl⟩)
        exact ⟨⟨k + 1, by omega, by go_num, HS⟩, by simp [intOf]; omega⟩
      | false =>
        have HS := hide (HF.out (fun h => by rw [HB.out.2 h] at hh; cases hh))
        rw [hh] at HH
        clear hh
        go_wp2_with (go_at_call 110; refine HH.out.mono ?_; rintro e w' ⟨rfl, rfl⟩)
        go_ret
        exact ⟨k, rfl, HS.out, rfl⟩
    · have HS : Hid (FirstP kinds ks k) := ⟨hkl, hall.out, fun h => absurd h hlt⟩
      clear hk'
      go_wp2_with fail
      go_ret
      exact ⟨k, rfl, HS.out, rfl⟩

theorem implFirstAt_any (n₀ : Nat) (v v' : Value) (kinds ks : List Int) (w : World) (hk : IntsAt n₀ w v kinds) (hk' : IntsAt n₀ w v' ks) (hl : kinds.length ≤ 1048576) (hl' : ks.length ≤ 1048576) (q : Nat) (hq : FirstP kinds ks q) :
    Calls Tryd.prog 91 #[v, v'] w fun e w' => e = .returned (.int .i64 q) ∧ w' = w :=
  (implFirst_any n₀ v v' kinds ks w hk hk' hl hl').mono fun _ _ ⟨q', he, hf, hw⟩ => ⟨by rw [he, hf.uniq hq], hw⟩
end Go.Proofs.YtkfklaapoaocdaaDoor
