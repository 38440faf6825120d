/-
  Which holds are right, asked by the specification; what all its calls on locks ask first.
-/
import Derived.Test.YtfjhpfgffbghdaaGreatDoorJoinE
import Derived.Test.YtfjhpfgffbghdaaGreatDoorJoinD
import Derived.Deep.RegionHeld3
namespace Go.Proofs.YtfjhpfgffbghdaaGreatDoor
open Go.RowKit

theorem specLess_any (a b : PHold) (w : World) :
    Calls Tryz.prog 85 #[holdVal a, holdVal b] w fun e w' => e = .returned (.bool (lessB a b)) ∧ Below w.heap.size w w' := by
  have hW := ((Below.refl w.heap.size w).alloc (Nat.le_refl _) (.cells #[.int .i64 a.session, .int .i64 a.node, .int .i64 a.mode] 86)).alloc (by simp) (.cells #[.int .i64 b.session, .int .i64 b.node, .int .i64 b.mode] 86)
  by_cases h1 : a.session < b.session
  · have HR : Hid (lessB a b = true) := lessB_iff.2 (.inl h1)
    go_enter Tryz.func85, Tryz.ntmps85
    go_wp2_with fail
    go_ret
    exact ⟨ret_bool HR.out.symm, hW⟩
  · by_cases h2 : a.session = b.session
    · have h3 : (a.session == b.session) = true := by simp [h2]
      have HR : Hid (lessB a b = decide (a.node < b.node)) := by
        rw [Hid, Bool.eq_iff_iff, lessB_iff, decide_eq_true_eq]; omega
      clear h2
      go_enter Tryz.func85, Tryz.ntmps85
      go_wp2_with fail
      go_ret
      exact ⟨ret_bool HR.out.symm, hW⟩
    · have h3 : (a.session == b.session) = false := by simp [h2]
      have HR : Hid (lessB a b = false) := no_of (lessB_iff) (by omega)
      clear h2
      go_enter Tryz.func85, Tryz.ntmps85
      go_wp2_with fail
      go_ret
      exact ⟨ret_bool HR.out.symm, hW⟩

theorem specModeIn_any (m : Int) (w : World) :
    Calls Tryz.prog 128 #[.int .i64 m] w fun e w' => e = .returned (.bool (inB m 1 5)) ∧ w' = w := by
  go_enter Tryz.func128, Tryz.ntmps128
  go_wp2_with (go_at_call 52; refine (specIn_any _ _ _ _).mono ?_; rintro e w' ⟨rfl, rfl⟩)
  go_ret
  exact ⟨rfl, rfl⟩

theorem inB_no {a lo hi : Int} (h : ¬ (lo ≤ a ∧ a ≤ hi)) : inB a lo hi = false := by rw [← Bool.not_eq_true, inB_iff]; exact h

set_option maxHeartbeats 800000 in
theorem specHold_any (n₀ : Nat) (d : PDoc) (s : Value) (x : PHold) (w : World) (hN : NodesAt n₀ w s d.nodes) (hn : n₀ ≤ w.heap.size) (hl : d.nodes.length ≤ 1048576) (r : Bool) (hr : r = true ↔ HoldP d x) :
    Calls Tryz.prog 110 #[.agg #[.int .i64 d.root, .int .i64 d.next, s], holdVal x] w fun e w' => e = .returned (.bool r) ∧ Below w.heap.size w w' := by
  have hW := ((Below.refl w.heap.size w).alloc (Nat.le_refl _) (.cells #[.int .i64 d.root, .int .i64 d.next, s] 38)).alloc (by simp) (.cells #[.int .i64 x.session, .int .i64 x.node, .int .i64 x.mode] 86)
  have HAt : Hid (∀ w1, Below w.heap.size w w1 → Calls Tryz.prog 27 #[.agg #[.int .i64 d.root, .int .i64 d.next, s], .int .i64 x.node] w1 fun e w' => e = .returned (.int .i64 (placeOf d.nodes x.node)) ∧ Below w1.heap.size w1 w') := fun w1 hb =>
    specAt_any n₀ d.root d.next s d.nodes x.node w1 (hN.below (Nat.le_refl _) (hb.mono hn)) (by have := hb.size; omega) hl
  have HAt2 := hide (HAt.out _ hW)
  have HR := hide hr
  have HP := hide (@placeOf_no d.nodes x.node)
  have hge := placeOf_ge d.nodes x.node
  obtain ⟨a, cap, rfl, -⟩ := hN
  generalize placeOf d.nodes x.node = pl at *
  clear hr HAt
  by_cases hs : 1 ≤ x.session ∧ x.session ≤ 999
  · have hs1 : inB x.session 1 999 = true := inB_iff.2 hs
    by_cases hm : 1 ≤ x.mode ∧ x.mode ≤ 5
    · have hm1 : inB x.mode 1 5 = true := inB_iff.2 hm
      have HRR : Hid (r = decide (0 ≤ pl)) := by
        rw [Hid, Bool.eq_iff_iff, HR.out, decide_eq_true_eq]
        constructor
        · intro h
          have : pl ≠ -1 := fun e => (HP.out.1 e) h.2.1
          omega
        · intro h
          exact ⟨hs, Decidable.byContradiction fun hi => by have := HP.out.2 hi; omega, hm⟩
      clear hs hm
      go_enter Tryz.func110, Tryz.ntmps110
      go_wp2_with (first | (go_at_call 52; refine (specIn_any _ _ _ _).mono ?_; rintro e w' ⟨rfl, rfl⟩) | (go_at_call 128; refine (specModeIn_any _ _).mono ?_; rintro e w' ⟨rfl, rfl⟩) | (go_at_call 27; refine HAt2.out.mono ?_; rintro e w2 ⟨rfl, hb2⟩))
      go_ret
      exact ⟨ret_bool HRR.out.symm, hW.trans (hb2.mono (by simp; omega))⟩
    · have hm1 := inB_no hm
      have HRR : Hid (r = false) := no_of HR.out fun h => hm h.2.2
      clear hs hm
      go_enter Tryz.func110, Tryz.ntmps110
      go_wp2_with (first | (go_at_call 52; refine (specIn_any _ _ _ _).mono ?_; rintro e w' ⟨rfl, rfl⟩) | (go_at_call 128; refine (specModeIn_any _ _).mono ?_; rintro e w' ⟨rfl, rfl⟩))
      go_ret
      exact ⟨ret_bool HRR.out.symm, hW⟩
  · have hs1 := inB_no hs
    have HRR : Hid (r = false) := no_of HR.out fun h => hs h.1
    clear hs
    go_enter Tryz.func110, Tryz.ntmps110
    go_wp2_with (first | (go_at_call 52; refine (specIn_any _ _ _ _).mono ?_; rintro e w' ⟨rfl, rfl⟩) | (go_at_call 128; refine (specModeIn_any _ _).mono ?_; rintro e w' ⟨rfl, rfl⟩))
    go_ret
    exact ⟨ret_bool HRR.out.symm, hW⟩
end Go.Proofs.YtfjhpfgffbghdaaGreatDoor
