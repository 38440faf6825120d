/-
  Whether kids are taken by terms: the program's own steps.
-/
import Derived.Test.YtpkblnponeonkaaDoorJoinD
import Derived.Test.YtpkblnponeonkaaDoorMatchSpec
namespace Go.Proofs.YtpkblnponeonkaaDoor
open Go.RowKit

set_option maxHeartbeats 1000000 in
theorem implFirst_any (n₀ : Nat) (v v' : Value) (kinds ks : List Int) (w : World) (hk : IntsAt n₀ w v kinds) (hk' : IntsAt n₀ w v' ks) (hl : kinds.length ≤ 1048576) (hl' : ks.length ≤ 1048576) :
    Calls Tryd.prog 153 #[v, v'] w fun e w' => ∃ q : Nat, e = .returned (.int .i64 q) ∧ FirstP kinds ks q ∧ w' = w := by
  have HC : Hid (∀ y, Calls Tryd.prog 163 #[v, .int .i64 y] w fun e w' => e = .returned (.bool (hasB kinds y)) ∧ w' = w) := fun y => implContains_any n₀ v kinds y w hk hl
  obtain ⟨a, cap, rfl, -⟩ := hk
  obtain ⟨a', cap', rfl, hk'⟩ := hk'
  go_enter Tryd.func153, Tryd.ntmps153
  go_wp2_with fail
  go_loop [5] (fun i => ∃ k : Nat, k ≤ ks.length ∧ i = .int .i64 k ∧ Hid (∀ j, j < k → ks[j]?.getD 0 ∈ kinds)) (fun i => ks.length - (intOf i).toNat)
  case atStart => exact ⟨0, Nat.zero_le _, rfl, fun j hj => absurd hj (by omega)⟩
  case round =>
    obtain ⟨k, hkl, rfl, hall⟩ := hrel
    by_cases hlt : k < ks.length
    · obtain ⟨b, off, rfl, hb, hc⟩ := hk'.resolve_left (by intro e; simp [e] at hlt)
      have hck := hc k hlt
      have HN : Hid (ks[k]?.getD 0 ∈ kinds → ∀ j, j < k + 1 → ks[j]?.getD 0 ∈ kinds) := fun h j hj => by
        by_cases e : j = k
        · rw [e]; exact h
        · exact hall.out j (by omega)
      have HF : Hid (ks[k]?.getD 0 ∉ kinds → FirstP kinds ks k) := fun h => ⟨hkl, hall.out, fun _ => h⟩
      have HH := hide (HC.out (ks[k]?.getD 0))
      have HB := hide (@hasB_iff kinds (ks[k]?.getD 0))
      clear hc
      generalize ks[k]?.getD 0 = y at *
      cases hh : hasB kinds y with
      | true =>
        have HS := hide (HN.out (HB.out.1 hh))
        rw [hh] at HH
        clear hh
        go_wp2_with (go_at_call 163; refine HH.out.mono ?_; rintro e w' ⟨rfl, rfl⟩)
        exact ⟨⟨k + 1, by omega, by go_num, HS⟩, by simp [intOf]; omega⟩
      | false =>
        have HS := hide (HF.out (fun h => by rw [HB.out.2 h] at hh; cases hh))
        rw [hh] at HH
        clear hh
        go_wp2_with (go_at_call 163; refine HH.out.mono ?_; rintro e w' ⟨rfl, rfl⟩)
        go_ret
        exact ⟨k, rfl, HS.out, rfl⟩
    · have HS : Hid (FirstP kinds ks k) := ⟨hkl, hall.out, fun h => absurd h hlt⟩
      clear hk'
      go_wp2_with fail
      go_ret
      exact ⟨k, rfl, HS.out, rfl⟩

theorem implFirstAt_any (n₀ : Nat) (v v' : Value) (kinds ks : List Int) (w : World) (hk : IntsAt n₀ w v kinds) (hk' : IntsAt n₀ w v' ks) (hl : kinds.length ≤ 1048576) (hl' : ks.length ≤ 1048576) (q : Nat) (hq : FirstP kinds ks q) :
    Calls Tryd.prog 153 #[v, v'] w fun e w' => e = .returned (.int .i64 q) ∧ w' = w :=
  (implFirst_any n₀ v v' kinds ks w hk hk' hl hl').mono fun _ _ ⟨q', he, hf, hw⟩ => ⟨by rw [he, hf.uniq hq], hw⟩
end Go.Proofs.YtpkblnponeonkaaDoor
