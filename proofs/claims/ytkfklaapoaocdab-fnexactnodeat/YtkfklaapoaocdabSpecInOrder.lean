/-
  InOrder: what the specification answers.
-/
import Derived.Test.YtkfklaapoaocdabSpecOrder
namespace Go.Proofs.Ytkfklaapoaocdab
open Go.RowKit

theorem askOf_zero {d : PDoc} {id : Int} (h : askOf d id = 0) : Good d ∧ id ∈ idsOf d.nodes := by
  by_cases hg : Good d
  · by_cases hi : id ∈ idsOf d.nodes
    · exact ⟨hg, hi⟩
    · rw [askOf_none hg hi] at h; cases h
  · rw [askOf_bad hg] at h; cases h

theorem orderAns_len (d : PDoc) (id : Int) : (orderAns d id).length ≤ 1048576 := by
  by_cases h : askOf d id = 0
  · rw [orderAns_ok h]
    obtain ⟨G, hi⟩ := askOf_zero h
    have := G.orderLen hi
    omega
  · rw [orderAns_no h]; simp

theorem row_none (w : World) (base : Nat) (hb : base ≤ w.heap.size) : (w.alloc (.cells #[] 3)).ownsRow base 3 1 (.slice (some ⟨w.heap.size, 0, none⟩) 0 0) 0 [] :=
  World.ownsRow_made w #[] 0 hb (Nat.zero_le _) rfl

set_option maxHeartbeats 1000000 in
set_option maxRecDepth 100000 in
theorem specInOrder_any (n₀ : Nat) (d : PDoc) (s : Value) (id : Int) (w : World) (hN : NodesAt n₀ w s d.nodes) (hn : n₀ ≤ w.heap.size) (hl : d.nodes.length ≤ 1048576) (hkl : ∀ x ∈ d.nodes, x.kids.length ≤ 1048576) (c : Int) (ks : List Int) (hc : c = askOf d id) (hks : ks = orderAns d id) :
    Calls Try.prog 21 #[.agg #[.int .i64 d.root, .int .i64 d.next, s], .int .i64 id] w (ListPost w ks c) := by
  have hW := (Below.refl w.heap.size w).alloc (Nat.le_refl _) (.cells #[.int .i64 d.root, .int .i64 d.next, s] 33)
  have HA := hide (specAsk_any n₀ d s id _ (hN.below (Nat.le_refl _) (hW.mono hn)) (by simp; omega) hl hkl c hc)
  have HO : Hid (c = 0 → ∀ wx, Below w.heap.size w wx → Calls Try.prog 40 #[.agg #[.int .i64 d.root, .int .i64 d.next, s], .int .i64 id] wx (OrdPost wx ks)) := fun h0 wx hb => by
    have ha : askOf d id = 0 := hc.symm.trans h0
    obtain ⟨G, hin⟩ := askOf_zero ha
    rw [hks, orderAns_ok ha]
    exact specOrder_any d.nodes n₀ d.root d.next hl hkl (fun i _ k hk => G.there k (kidsAt_all hk)) d.nodes.length id s wx (hN.below (Nat.le_refl _) (hb.mono hn)) (by have := hb.size; omega) hin (G.lowAt hin) (by have := G.orderLen hin; omega)
  have HNo : Hid (c ≠ 0 → ks = []) := fun h => by rw [hks]; exact orderAns_no (by rw [← hc]; exact h)
  obtain ⟨a, cap, rfl, -⟩ := hN
  clear hc hks hkl
  by_cases h0 : c = 0
  · have HO2 := hide (HO.out h0)
    have h00 : (c != 0) = false := by simp [h0]
    have HZ := hide h0
    clear h0 HO HNo
    go_enter Try.func21, Try.ntmps21
    go_wp2_with fail
    refine HA.out.mono ?_
    rintro e w1 ⟨rfl, hb1⟩
    simp only [World.size_alloc] at hb1
    have hs1 := hb1.size
    simp only [World.size_alloc] at hs1
    obtain ⟨x0, x1, x2⟩ := box_doc' hb1
    have hb1' := hW.trans (hb1.mono (by omega))
    have hlt : w.heap.size < w1.heap.size := by omega
    go_wp2_with fail
    refine (HO2.out _ hb1').mono ?_
    rintro e w2 ⟨g, cc, rfl, hrow, hb2⟩
    have HRow := hide hrow
    clear hrow
    go_wp2_with fail
    go_ret2
    exact ⟨_, ret_vc HZ.out.symm, ownsRow_base HRow.out (by omega), hb1'.trans (hb2.mono (by omega))⟩
  · have h00 : (c != 0) = true := by simp [h0]
    have HKs := hide (HNo.out h0)
    clear h0 HO HNo
    go_enter Try.func21, Try.ntmps21
    go_wp2_with fail
    refine HA.out.mono ?_
    rintro e w1 ⟨rfl, hb1⟩
    simp only [World.size_alloc] at hb1
    have hs1 := hb1.size
    simp only [World.size_alloc] at hs1
    have hb1' := hW.trans (hb1.mono (by omega))
    have HR := hide (row_none w1 w.heap.size (by omega))
    go_wp2_with fail
    go_ret2
    exact ⟨_, rfl, by rw [HKs.out]; exact HR.out, hb1'.alloc (by omega) _⟩
end Go.Proofs.Ytkfklaapoaocdab
