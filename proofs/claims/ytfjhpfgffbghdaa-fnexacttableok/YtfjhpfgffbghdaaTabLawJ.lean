/-
  How the law package compares two tables, and asks whether one is small enough.
-/
import Derived.Test.YtfjhpfgffbghdaaTabRepJ
namespace Go.Proofs.Ytfjhpfgffbghdaa
open Go.RowKit

set_option maxHeartbeats 1000000 in
set_option maxRecDepth 100000 in
theorem eqTable_any (n₀ : Nat) (v v' : Value) (t : PTab) (w : World) (h : TabAt n₀ w v t) (h' : TabAt n₀ w v' t) (hn : n₀ ≤ w.heap.size) (S : SmallT t) :
    Calls Try.prog 28 #[v, v'] w fun e w' => e = .returned (.bool true) ∧ Below w.heap.size w w' := by
  obtain ⟨v1, v2, rfl, h1, h2⟩ := h
  obtain ⟨u1, u2, rfl, k1, k2⟩ := h'
  obtain ⟨W0, hW0⟩ : ∃ W0, W0 = (w.alloc (.cells #[v1, v2] 54)).alloc (.cells #[u1, u2] 54) := ⟨_, rfl⟩
  have hw0 : Below w.heap.size w W0 := by rw [hW0]; exact ((Below.refl w.heap.size w).alloc (Nat.le_refl _) _).alloc (by simp) _
  have hs0 : W0.heap.size = w.heap.size + 1 + 1 := by rw [hW0]; simp
  have hh0 : W0.heap[w.heap.size]? = some (.cells #[v1, v2] 54 (0, 0)) := by
    rw [hW0, Below.heap_alloc _ _ _ (by simp)]; exact alloc_new w _
  have hh1 : W0.heap[w.heap.size + 1]? = some (.cells #[u1, u2] 54 (0, 0)) := by
    rw [hW0]
    have := alloc_new (w.alloc (.cells #[v1, v2] 54)) (.cells #[u1, u2] 54)
    simpa using this
  have HE1 : Hid (∀ wx, Below w.heap.size w wx → Calls Try.prog 15 #[v1, u1] wx fun e w' => e = .returned (.bool true) ∧ Below wx.heap.size wx w') := fun wx hb =>
    eqHolds_any n₀ v1 u1 t.holds wx (h1.below (Nat.le_refl _) (hb.mono hn)) (k1.below (Nat.le_refl _) (hb.mono hn)) (by have := hb.size; omega) S.1
  have HE2 : Hid (∀ wx, Below w.heap.size w wx → Calls Try.prog 15 #[v2, u2] wx fun e w' => e = .returned (.bool true) ∧ Below wx.heap.size wx w') := fun wx hb =>
    eqHolds_any n₀ v2 u2 t.waits wx (h2.below (Nat.le_refl _) (hb.mono hn)) (k2.below (Nat.le_refl _) (hb.mono hn)) (by have := hb.size; omega) S.2
  have HB : Hid (∀ wx, Below W0.heap.size W0 wx → (wx.cell? ⟨w.heap.size, 0, none⟩ = some v1 ∧ wx.cell? ⟨w.heap.size, 1, none⟩ = some v2 ∧ wx.cell? ⟨w.heap.size + 1, 0, none⟩ = some u1 ∧ wx.cell? ⟨w.heap.size + 1, 1, none⟩ = some u2) ∧ Below w.heap.size w wx ∧ w.heap.size + 1 + 1 ≤ wx.heap.size) := fun wx hb => by
    have j0 := (hb.block w.heap.size (by omega)).trans hh0
    have j1 := (hb.block (w.heap.size + 1) (by omega)).trans hh1
    exact ⟨⟨cell_of_heap j0 0, cell_of_heap j0 1, cell_of_heap j1 0, cell_of_heap j1 1⟩, hw0.trans (hb.mono (by omega)), by have := hb.size; omega⟩
  obtain ⟨a1, c1, rfl⟩ := h1.form
  obtain ⟨a2, c2, rfl⟩ := h2.form
  obtain ⟨d1, e1, rfl⟩ := k1.form
  obtain ⟨d2, e2, rfl⟩ := k2.form
  have hb0 : Below W0.heap.size W0 W0 := Below.refl _ _
  clear S h1 h2 k1 k2 hw0 hs0 hh0 hh1
  go_enter Try.func28, Try.ntmps28
  go_wp2_with fail
  rw [← hW0]
  clear hW0
  refine (HE1.out W0 (HB.out _ hb0).2.1).mono ?_
  rintro e w1 ⟨rfl, hb1⟩
  obtain ⟨⟨x0, x1, x2, x3⟩, hbw1, hsz1⟩ := HB.out _ hb1
  have hz1 : w.heap.size < w1.heap.size := by omega
  have hz2 : w.heap.size + 1 < w1.heap.size := by omega
  go_wp2_with fail
  refine (HE2.out w1 hbw1).mono ?_
  rintro e w2 ⟨rfl, hb2⟩
  have hb3 := hbw1.trans (hb2.mono (by omega))
  go_wp2_with fail
  go_ret
  exact ⟨rfl, hb3⟩

set_option maxHeartbeats 1000000 in
theorem szTable_any (n₀ : Nat) (v : Value) (t : PTab) (c : Int) (w : World) (h : TabAt n₀ w v t) (h0 : 0 ≤ c) (h1 : c ≤ 1048576) (F : FitsT t) :
    Calls Try.prog 24 #[v, .int .i64 c] w fun e w' => ∃ r, e = .returned (.int .i64 r) ∧ -1 ≤ r ∧ r ≤ c ∧ Hid (0 ≤ r → SmallT t) ∧ Below w.heap.size w w' := by
  obtain ⟨a1, c1, a2, c2, rfl⟩ := h.form
  clear h
  have HS1 := hide (fun wx => szHolds_any a1 t.holds.length c1 c wx h0 h1 F.1)
  have HS2 : Hid (∀ wx q, 0 ≤ q → q ≤ 1048576 → Calls Try.prog 9 #[.slice a2 t.waits.length c2, .int .i64 q] wx fun e w' => ∃ r, e = .returned (.int .i64 r) ∧ -1 ≤ r ∧ r ≤ q ∧ (0 ≤ r → t.waits.length ≤ 1048576) ∧ w' = wx) := fun wx q q0 q1 => szHolds_any a2 t.waits.length c2 q wx q0 q1 F.2
  have hW := (Below.refl w.heap.size w).alloc (Nat.le_refl _) (.cells #[.slice a1 t.holds.length c1, .slice a2 t.waits.length c2] 50)
  clear F
  go_enter Try.func24, Try.ntmps24
  go_wp2_with fail
  refine (HS1.out _).mono ?_
  rintro e w1 ⟨r, rfl, hr1, hr2, hr3, rfl⟩
  by_cases hr : r < 0
  · clear hr3
    go_wp2_with fail
    go_ret
    exact ⟨_, rfl, by omega, by omega, fun h => by omega, hW⟩
  · have HS := hide (hr3 (by omega))
    clear hr3
    go_wp2_with fail
    refine (HS2.out _ r (by omega) (by omega)).mono ?_
    rintro e w2 ⟨r2, rfl, hr21, hr22, hr23, rfl⟩
    by_cases hr2 : r2 < 0
    · clear hr23
      go_wp2_with fail
      go_ret
      exact ⟨_, rfl, by omega, by omega, fun h => by omega, hW⟩
    · have HS' := hide (hr23 (by omega))
      clear hr23
      go_wp2_with fail
      go_ret
      exact ⟨_, rfl, by omega, by omega, fun _ => ⟨HS.out, HS'.out⟩, hW⟩
end Go.Proofs.Ytfjhpfgffbghdaa
