/-
  What the specification answers to whether a document is right: just if it is (Good).
-/
import Derived.Test.YtfjhpfgffbghdaaSpecNodesJ
import Derived.Test.YtfjhpfgffbghdaaSpecReachJ
namespace Go.Proofs.Ytfjhpfgffbghdaa
open Go.RowKit

theorem not_true {r : Bool} {p : Prop} (h : r = true ↔ p) (hn : ¬ p) : r = false := by
  cases r with
  | false => rfl
  | true => exact absurd (h.1 rfl) hn

theorem Good.nodesFine {d : PDoc} (G : Good d) : NodesFine d := ⟨G.toFlat, (G.toFlat.good_spec.1 G).1⟩

set_option maxHeartbeats 1000000 in
set_option maxRecDepth 100000 in
theorem specOK_any (n₀ : Nat) (d : PDoc) (s : Value) (w : World) (hN : NodesAt n₀ w s d.nodes) (hn : n₀ ≤ w.heap.size) (hl : d.nodes.length ≤ 1048576) (hkl : ∀ x ∈ d.nodes, x.kids.length ≤ 1048576) (r : Bool) (hr : r = true ↔ Good d) :
    Calls Try.prog 32 #[.agg #[.int .i64 d.root, .int .i64 d.next, s]] w fun e w' => e = .returned (.bool r) ∧ Below w.heap.size w w' := by
  have HKL := hide hkl
  have HR := hide hr
  clear hkl hr
  have hN' := hN
  obtain ⟨a, cap, rfl, -⟩ := hN
  cases hA : inB (d.nodes.length : Int) 1 40 with
  | false =>
    have hf : Hid (r = false) := not_true HR.out (fun G => by have := inB_iff.2 ⟨show (1 : Int) ≤ d.nodes.length by have := G.n1; omega, show (d.nodes.length : Int) ≤ 40 by have := G.n40; omega⟩; rw [hA] at this; cases this)
    go_enter Try.func32, Try.ntmps32
    go_wp2_with (go_at_call 55; refine (specIn_any _ _ _ _).mono ?_; rintro e w' ⟨rfl, rfl⟩)
    go_ret
    exact ⟨ret_bool hf.out.symm, (Below.refl _ _).alloc (Nat.le_refl _) _⟩
  | true =>
    cases hB : inB d.next 2 999999 with
    | false =>
      have hf : Hid (r = false) := not_true HR.out (fun G => by have := inB_iff.2 ⟨G.nx2, G.nxm⟩; rw [hB] at this; cases this)
      go_enter Try.func32, Try.ntmps32
      go_wp2_with (go_at_call 55; refine (specIn_any _ _ _ _).mono ?_; rintro e w' ⟨rfl, rfl⟩)
      go_ret
      exact ⟨ret_bool hf.out.symm, (Below.refl _ _).alloc (Nat.le_refl _) _⟩
    | true =>
      have hA' := inB_iff.1 hA
      have hB' := inB_iff.1 hB
      have hW := (Below.refl w.heap.size w).alloc (Nat.le_refl _) (.cells #[.int .i64 d.root, .int .i64 d.next, .slice a d.nodes.length cap] 31)
      obtain ⟨r1, hr1⟩ : ∃ r1 : Bool, r1 = true ↔ NodesFine d := by classical exact ⟨decide (NodesFine d), by simp⟩
      have HNodes : Hid (Calls Try.prog 56 #[.agg #[.int .i64 d.root, .int .i64 d.next, .slice a d.nodes.length cap]] (w.alloc (.cells #[.int .i64 d.root, .int .i64 d.next, .slice a d.nodes.length cap] 31)) fun e w' => e = .returned (.bool r1) ∧ Below (w.heap.size + 1) (w.alloc (.cells #[.int .i64 d.root, .int .i64 d.next, .slice a d.nodes.length cap] 31)) w') := by
        have := specNodes_any n₀ d _ (w.alloc (.cells #[.int .i64 d.root, .int .i64 d.next, .slice a d.nodes.length cap] 31)) (by omega) (by omega) hB'.1 hB'.2 (hN'.below (Nat.le_refl _) (hW.mono hn)) (by simp; omega) HKL.out r1 hr1
        unfold Hid; simpa using this
      cases r1 with
      | false =>
        have hf : Hid (r = false) := not_true HR.out (fun G => by have := hr1.2 G.nodesFine; cases this)
        clear hr1 hA' hB'
        go_enter Try.func32, Try.ntmps32
        go_wp2_with (first | (go_at_call 55; refine (specIn_any _ _ _ _).mono ?_; rintro e w' ⟨rfl, rfl⟩) | (go_at_call 56; refine HNodes.out.mono ?_; rintro e w1 ⟨rfl, hb1⟩))
        go_ret
        exact ⟨ret_bool hf.out.symm, hW.trans (hb1.mono (by omega))⟩
      | true =>
        obtain ⟨F, hlen⟩ := hr1.1 rfl
        obtain ⟨r2, hr2⟩ : ∃ r2 : Bool, r2 = true ↔ ∀ i ∈ idsOf d.nodes, ∃ q, Dep d.nodes d.root q i := by classical exact ⟨decide (∀ i ∈ idsOf d.nodes, ∃ q, Dep d.nodes d.root q i), by simp⟩
        have HReach : Hid (∀ w1, Below (w.heap.size + 1) (w.alloc (.cells #[.int .i64 d.root, .int .i64 d.next, .slice a d.nodes.length cap] 31)) w1 → Calls Try.prog 57 #[.agg #[.int .i64 d.root, .int .i64 d.next, .slice a d.nodes.length cap]] w1 fun e w' => e = .returned (.bool r2) ∧ Below (w.heap.size + 1) (w.alloc (.cells #[.int .i64 d.root, .int .i64 d.next, .slice a d.nodes.length cap] 31)) w') := fun w1 hb1 => by
          have hs := hb1.size
          simp only [World.size_alloc] at hs
          exact (specReach_any n₀ d _ w1 F (hN'.below (Nat.le_refl _) ((hW.trans (hb1.mono (by omega))).mono hn)) (by omega) r2 hr2).mono fun e w' ⟨he, hb⟩ => ⟨he, hb1.trans (hb.mono hs)⟩
        have HDeep : Hid (∀ w1, Below (w.heap.size + 1) (w.alloc (.cells #[.int .i64 d.root, .int .i64 d.next, .slice a d.nodes.length cap] 31)) w1 → Calls Try.prog 58 #[.agg #[.int .i64 d.root, .int .i64 d.next, .slice a d.nodes.length cap], .int .i64 d.root, .int .i64 6] w1 fun e w' => e = .returned (.int .i64 (deep d.nodes 6 d.root)) ∧ Below (w.heap.size + 1) (w.alloc (.cells #[.int .i64 d.root, .int .i64 d.next, .slice a d.nodes.length cap] 31)) w') := fun w1 hb1 => by
          have hs := hb1.size
          simp only [World.size_alloc] at hs
          exact (specDeep_any n₀ d.root d.next _ d.nodes hl HKL.out F.there 6 d.root 6 w1 (by omega) (rfl : (6 : Int) = ((6 : Nat) : Int)) (hN'.below (Nat.le_refl _) ((hW.trans (hb1.mono (by omega))).mono hn)) (by omega) F.rootIn).mono fun e w' ⟨he, hb⟩ => ⟨he, hb1.trans (hb.mono hs)⟩
        have HG : Hid (r = true ↔ (r2 = true ∧ deep d.nodes 6 d.root ≤ 6)) := by
          refine HR.out.trans (F.good_spec.trans ?_)
          rw [hr2]
          exact ⟨fun h => h.2, fun h => ⟨hlen, h⟩⟩
        generalize deep d.nodes 6 d.root = dp at *
        clear hr1 hr2 F hlen hA' hB' HR
        cases r2 with
        | false =>
          have hf : Hid (r = false) := not_true HG.out (fun h => by cases h.1)
          go_enter Try.func32, Try.ntmps32
          go_wp2_with (first | (go_at_call 55; refine (specIn_any _ _ _ _).mono ?_; rintro e w' ⟨rfl, rfl⟩) | (go_at_call 56; refine HNodes.out.mono ?_; rintro e w1 ⟨rfl, hb1⟩; obtain ⟨hcx, hfx⟩ := bcell (W := w.alloc _) (by simpa using hb1)) | (go_at_call 57; refine (HReach.out _ hb1).mono ?_; rintro e w2 ⟨rfl, hb2⟩; clear hcx hfx; obtain ⟨hcx, hfx⟩ := bcell (W := w.alloc _) (by simpa using hb2)))
          go_ret
          exact ⟨ret_bool hf.out.symm, hW.trans (hb2.mono (by omega))⟩
        | true =>
          go_enter Try.func32, Try.ntmps32
          go_wp2_with (first | (go_at_call 55; refine (specIn_any _ _ _ _).mono ?_; rintro e w' ⟨rfl, rfl⟩) | (go_at_call 56; refine HNodes.out.mono ?_; rintro e w1 ⟨rfl, hb1⟩; obtain ⟨hcx, hfx⟩ := bcell (W := w.alloc _) (by simpa using hb1)) | (go_at_call 57; refine (HReach.out _ hb1).mono ?_; rintro e w2 ⟨rfl, hb2⟩; clear hcx hfx; obtain ⟨hcx, hfx⟩ := bcell (W := w.alloc _) (by simpa using hb2)) | (go_at_call 58; refine (HDeep.out _ hb2).mono ?_; rintro e w3 ⟨rfl, hb3⟩))
          go_ret
          refine ⟨ret_bool ?_, hW.trans (hb3.mono (by omega))⟩
          rw [Bool.eq_iff_iff, HG.out]
          simp only [decide_eq_true_eq, true_and]
          omega
end Go.Proofs.Ytfjhpfgffbghdaa
