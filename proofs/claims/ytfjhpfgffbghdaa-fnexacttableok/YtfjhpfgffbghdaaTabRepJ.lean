/-
  Tables of locks and waits: how one lies as a value and in memory, to be read and as one's own; the law package's copies of them.
-/
import Derived.Test.YtfjhpfgffbghdaaHoldToJ
namespace Go.Proofs.Ytfjhpfgffbghdaa
open Go.RowKit

structure PTab where
  holds : List PHold
  waits : List PHold

/-- The value is a table, its lists in blocks below n₀. -/
def TabAt (n₀ : Nat) (w : World) (v : Value) (t : PTab) : Prop :=
  ∃ a b, v = .agg #[a, b] ∧ HoldsAt n₀ w a t.holds ∧ HoldsAt n₀ w b t.waits

theorem TabAt.below {n₀ n₁ : Nat} {w w' : World} {v : Value} {t : PTab} (h : TabAt n₀ w v t) (hn : n₀ ≤ n₁) (hb : Below n₀ w w') : TabAt n₁ w' v t := by
  obtain ⟨a, b, rfl, h1, h2⟩ := h
  exact ⟨a, b, rfl, h1.below hn hb, h2.below hn hb⟩
theorem TabAt.wide {n₀ n₁ : Nat} {w : World} {v : Value} {t : PTab} (h : TabAt n₀ w v t) (hn : n₀ ≤ n₁) : TabAt n₁ w v t := h.below hn (Below.refl _ _)
theorem TabAt.form {n₀ : Nat} {w : World} {v : Value} {t : PTab} (h : TabAt n₀ w v t) : ∃ a c b e, v = .agg #[.slice a t.holds.length c, .slice b t.waits.length e] := by
  obtain ⟨a, b, rfl, h1, h2⟩ := h
  obtain ⟨a1, c1, rfl⟩ := h1.form
  obtain ⟨a2, c2, rfl⟩ := h2.form
  exact ⟨a1, c1, a2, c2, rfl⟩
theorem TabAt.parts {n₀ : Nat} {w : World} {a b : Value} {t : PTab} (h : TabAt n₀ w (.agg #[a, b]) t) : HoldsAt n₀ w a t.holds ∧ HoldsAt n₀ w b t.waits := by
  obtain ⟨a1, b1, e, h1, h2⟩ := h
  simp only [Value.agg.injEq, Array.mk.injEq, List.cons.injEq, and_true] at e
  obtain ⟨rfl, rfl⟩ := e
  exact ⟨h1, h2⟩

/-- The value is a table in memory of its own. -/
def TabOwn (lo hi : Nat) (w : World) (v : Value) (t : PTab) : Prop :=
  ∃ a b, v = .agg #[a, b] ∧ HoldsOwn lo hi w a t.holds ∧ HoldsOwn lo hi w b t.waits

theorem TabOwn.at {lo hi : Nat} {w : World} {v : Value} {t : PTab} (h : TabOwn lo hi w v t) : TabAt hi w v t := by
  obtain ⟨a, b, rfl, h1, h2⟩ := h
  exact ⟨a, b, rfl, h1.at, h2.at⟩
theorem TabOwn.below {lo hi : Nat} {w w' : World} {v : Value} {t : PTab} (h : TabOwn lo hi w v t) (hb : Below hi w w') : TabOwn lo hi w' v t := by
  obtain ⟨a, b, rfl, h1, h2⟩ := h
  exact ⟨a, b, rfl, h1.below hb, h2.below hb⟩

/-- Small enough for the laws. -/
def SmallT (t : PTab) : Prop := t.holds.length ≤ 1048576 ∧ t.waits.length ≤ 1048576
def FitsT (t : PTab) : Prop := t.holds.length ≤ 9223372036854775807 ∧ t.waits.length ≤ 9223372036854775807

set_option maxHeartbeats 1000000 in
set_option maxRecDepth 100000 in
theorem toTable_any (n₀ : Nat) (v : Value) (t : PTab) (w : World) (h : TabAt n₀ w v t) (hn : n₀ ≤ w.heap.size) (S : SmallT t) :
    Calls Try.prog 26 #[v] w fun e w' => ∃ u, e = .returned u ∧ TabOwn w.heap.size w'.heap.size w' u t ∧ Below w.heap.size w w' := by
  obtain ⟨v1, v2, rfl, h1, h2⟩ := h
  have HT1 : Hid (∀ wx, Below w.heap.size w wx → Calls Try.prog 12 #[v1] wx fun e w' => ∃ u, e = .returned u ∧ HoldsOwn wx.heap.size w'.heap.size w' u t.holds ∧ Below wx.heap.size wx w') := fun wx hb =>
    toHolds_any n₀ v1 t.holds wx (h1.below (Nat.le_refl _) (hb.mono hn)) (by have := hb.size; omega) S.1
  have HT2 : Hid (∀ wx, Below w.heap.size w wx → Calls Try.prog 12 #[v2] wx fun e w' => ∃ u, e = .returned u ∧ HoldsOwn wx.heap.size w'.heap.size w' u t.waits ∧ Below wx.heap.size wx w') := fun wx hb =>
    toHolds_any n₀ v2 t.waits wx (h2.below (Nat.le_refl _) (hb.mono hn)) (by have := hb.size; omega) S.2
  obtain ⟨a1, c1, rfl⟩ := h1.form
  obtain ⟨a2, c2, rfl⟩ := h2.form
  clear S h1 h2
  obtain ⟨W0, hW0⟩ : ∃ W0, W0 = ((w.alloc (.cells #[.slice a1 t.holds.length c1, .slice a2 t.waits.length c2] 50)).alloc (.cells #[.slice none 0 0, .slice none 0 0] 54)).alloc (.cells #[.slice none 0 0, .slice none 0 0] 54) := ⟨_, rfl⟩
  have hw0 : Below w.heap.size w W0 := by rw [hW0]; exact (((Below.refl w.heap.size w).alloc (Nat.le_refl _) _).alloc (by simp) _).alloc (by simp; omega) _
  have hs0 : W0.heap.size = w.heap.size + 1 + 1 + 1 := by rw [hW0]; simp
  have hh0 : W0.heap[w.heap.size]? = some (.cells #[.slice a1 t.holds.length c1, .slice a2 t.waits.length c2] 50 (0, 0)) := by
    rw [hW0, Below.heap_alloc _ _ _ (by simp; omega), Below.heap_alloc _ _ _ (by simp)]; exact alloc_new w _
  have hh1 : W0.heap[w.heap.size + 1]? = some (.cells #[.slice none 0 0, .slice none 0 0] 54 (0, 0)) := by
    rw [hW0, Below.heap_alloc _ _ _ (by simp)]
    have := alloc_new (w.alloc (.cells #[.slice a1 t.holds.length c1, .slice a2 t.waits.length c2] 50)) (.cells #[.slice none 0 0, .slice none 0 0] 54)
    simpa using this
  have hh2 : W0.heap[w.heap.size + 1 + 1]? = some (.cells #[.slice none 0 0, .slice none 0 0] 54 (0, 0)) := by
    rw [hW0]
    have := alloc_new ((w.alloc (.cells #[.slice a1 t.holds.length c1, .slice a2 t.waits.length c2] 50)).alloc (.cells #[.slice none 0 0, .slice none 0 0] 54)) (.cells #[.slice none 0 0, .slice none 0 0] 54)
    simpa using this
  have HW0 := hide hw0
  have hT1 := HT1.out W0 hw0
  have HT1' := hide hT1
  clear hw0 HT1 hT1
  go_enter Try.func26, Try.ntmps26
  go_wp2_with fail
  rw [← hW0]
  clear hW0
  refine HT1'.out.mono ?_
  rintro e w1 ⟨u1, rfl, ho1, hb1⟩
  have hs1 := hb1.size
  have j0 := (hb1.block w.heap.size (by omega)).trans hh0
  have j1 := (hb1.block (w.heap.size + 1) (by omega)).trans hh1
  have j2 := (hb1.block (w.heap.size + 1 + 1) (by omega)).trans hh2
  have x0 := cell_of_heap j0 0
  have x1 := cell_of_heap j0 1
  have z0 := cell_of_heap j2 0
  have z1 := cell_of_heap j2 1
  simp only [List.getElem?_toArray, List.getElem?_cons_succ, List.getElem?_cons_zero] at x0 x1 z0 z1
  have hf2 : ∀ j, w1.frozen? ⟨w.heap.size + 1 + 1, j, none⟩ = false := fun j => frozen_of_heap j2 j
  have hz : w.heap.size < w1.heap.size := by omega
  have hz2 : w.heap.size + 1 + 1 < w1.heap.size := by omega
  obtain ⟨W1, hW1⟩ : ∃ W1, W1 = w1.setCell ⟨w.heap.size + 1 + 1, 0, none⟩ u1 := ⟨_, rfl⟩
  have hb1w := (HW0.out.trans (hb1.mono (by omega))).setCell (p := ⟨w.heap.size + 1 + 1, 0, none⟩) (by simp; omega) u1
  rw [← hW1] at hb1w
  have HT2' := hide (HT2.out W1 hb1w)
  have HB1 := hide hb1w
  have k0 : W1.heap[w.heap.size]? = some (.cells #[.slice a1 t.holds.length c1, .slice a2 t.waits.length c2] 50 (0, 0)) := by rw [hW1, heap_setCell_other _ _ _ _ (by simp; omega)]; exact j0
  have k1 : W1.heap[w.heap.size + 1]? = some (.cells #[.slice none 0 0, .slice none 0 0] 54 (0, 0)) := by rw [hW1, heap_setCell_other _ _ _ _ (by simp)]; exact j1
  have k2 : W1.heap[w.heap.size + 1 + 1]? = some (.cells #[u1, .slice none 0 0] 54 (0, 0)) := by rw [hW1, heap_setCell_same _ _ _ _ _ _ j2]; rfl
  have hsW : W1.heap.size = w1.heap.size := by rw [hW1]; simp
  have HO1 : Hid (HoldsOwn W0.heap.size W1.heap.size W1 u1 t.holds) := ho1.heap (Nat.le_refl _) (by omega) (fun b h1 _ => by rw [hW1, heap_setCell_other _ _ _ _ (by simp; omega)])
  have y0 := cell_of_heap k0 1
  simp only [List.getElem?_toArray, List.getElem?_cons_succ, List.getElem?_cons_zero] at y0
  have hzW : w.heap.size < W1.heap.size := by omega
  have HU1 := hide ho1.form
  obtain ⟨ua1, uc1, rfl⟩ := ho1.form
  clear HT2 hb1w ho1 j0 j1 j2
  go_wp2_with fail
  rw [← hW1]
  clear hW1
  refine HT2'.out.mono ?_
  rintro e w2 ⟨u2, rfl, ho2, hb2⟩
  have hs2 := hb2.size
  have m1 := (hb2.block (w.heap.size + 1) (by omega)).trans k1
  have m2 := (hb2.block (w.heap.size + 1 + 1) (by omega)).trans k2
  have n0 := cell_of_heap m1 0
  have n1 := cell_of_heap m1 1
  have n2 := cell_of_heap m2 0
  have n3 := cell_of_heap m2 1
  simp only [List.getElem?_toArray, List.getElem?_cons_succ, List.getElem?_cons_zero] at n0 n1 n2 n3
  have hg1 : ∀ j, w2.frozen? ⟨w.heap.size + 1, j, none⟩ = false := fun j => frozen_of_heap m1 j
  have hg2 : ∀ j, w2.frozen? ⟨w.heap.size + 1 + 1, j, none⟩ = false := fun j => frozen_of_heap m2 j
  have hz3 : w.heap.size + 1 < w2.heap.size := by omega
  have hz4 : w.heap.size + 1 + 1 < w2.heap.size := by omega
  obtain ⟨ua2, uc2, rfl⟩ := ho2.form
  have HO2 := hide ho2
  have HO1' := hide (HO1.out.below hb2)
  have HEnd : Hid (∀ w3 : World, (∀ k, w.heap.size + 1 + 1 < k → w3.heap[k]? = w2.heap[k]?) → w3.heap.size = w2.heap.size → TabOwn w.heap.size w3.heap.size w3 (.agg #[.slice ua1 t.holds.length uc1, .slice ua2 t.waits.length uc2]) t) := fun w3 h3 hs3 =>
    ⟨_, _, rfl, HO1'.out.heap (by omega) (by omega) (fun b h4 _ => h3 b (by omega)), HO2.out.heap (by omega) (by omega) (fun b h4 _ => h3 b (by omega))⟩
  have hbw := HB1.out.trans (hb2.mono (by omega))
  clear ho2 m1 m2 k0 k1 k2 hh0 hh1 hh2 HU1 HO1 HO2 HT2'
  go_wp2_with fail
  refine bodyPost_ret (v := .agg #[.slice ua1 t.holds.length uc1, .slice ua2 t.waits.length uc2]) (by simp [results, Try.results26, go_sem, n0, n1]) rfl ⟨_, rfl, HEnd.out _ ?_ (by simp), ?_⟩
  · intro k hk
    iterate 3 rw [heap_setCell_other _ _ _ _ (by show k ≠ _; simp; omega)]
  · exact ((hbw.setCell (p := ⟨w.heap.size + 1 + 1, 1, none⟩) (by simp; omega) _).setCell (p := ⟨w.heap.size + 1, 0, none⟩) (by simp) _).setCell (p := ⟨w.heap.size + 1, 1, none⟩) (by simp) _
end Go.Proofs.Ytfjhpfgffbghdaa
