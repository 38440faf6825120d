/-
  TableOK: what the specification and the program answer.
-/
import Derived.Test.YtfjhpfgffbghdaaSpecTableJ
namespace Go.Proofs.Ytfjhpfgffbghdaa
open Go.RowKit

set_option maxHeartbeats 2000000 in
set_option maxRecDepth 100000 in
theorem specTableOK_any (n₀ : Nat) (d : PDoc) (s v : Value) (t : PTab) (w : World) (hN : NodesAt n₀ w s d.nodes) (hV : TabAt n₀ w v t) (hn : n₀ ≤ w.heap.size) (hl : d.nodes.length ≤ 1048576) (hkl : ∀ x ∈ d.nodes, x.kids.length ≤ 1048576) (S : SmallT t) (r : Bool) (hr : r = true ↔ TabP d t) :
    Calls Try.prog 25 #[.agg #[.int .i64 d.root, .int .i64 d.next, s], v] w fun e w' => e = .returned (.bool r) ∧ Below w.heap.size w w' := by
  obtain ⟨vh, vw, rfl, hVh, hVw⟩ := hV
  obtain ⟨W0, hW0⟩ : ∃ W0, W0 = (w.alloc (.cells #[.int .i64 d.root, .int .i64 d.next, s] 31)).alloc (.cells #[vh, vw] 54) := ⟨_, rfl⟩
  have hw0 : Below w.heap.size w W0 := by rw [hW0]; exact ((Below.refl w.heap.size w).alloc (Nat.le_refl _) _).alloc (by simp) _
  have hs0 : W0.heap.size = w.heap.size + 1 + 1 := by rw [hW0]; simp
  have hh0 : W0.heap[w.heap.size]? = some (.cells #[.int .i64 d.root, .int .i64 d.next, s] 31 (0, 0)) := by
    rw [hW0, Below.heap_alloc _ _ _ (by simp)]; exact alloc_new w _
  have hh1 : W0.heap[w.heap.size + 1]? = some (.cells #[vh, vw] 54 (0, 0)) := by
    rw [hW0]
    have := alloc_new (w.alloc (.cells #[.int .i64 d.root, .int .i64 d.next, s] 31)) (.cells #[vh, vw] 54)
    simpa using this
  have HB : Hid (∀ wx, Below W0.heap.size W0 wx → (wx.cell? ⟨w.heap.size, 0, none⟩ = some (.int .i64 d.root) ∧ wx.cell? ⟨w.heap.size, 1, none⟩ = some (.int .i64 d.next) ∧ wx.cell? ⟨w.heap.size, 2, none⟩ = some s) ∧ (wx.cell? ⟨w.heap.size + 1, 0, none⟩ = some vh ∧ wx.cell? ⟨w.heap.size + 1, 1, none⟩ = some vw) ∧ Below w.heap.size w wx ∧ w.heap.size + 1 + 1 ≤ wx.heap.size) := fun wx hb => by
    have j0 := (hb.block w.heap.size (by omega)).trans hh0
    have j1 := (hb.block (w.heap.size + 1) (by omega)).trans hh1
    exact ⟨⟨cell_of_heap j0 0, cell_of_heap j0 1, cell_of_heap j0 2⟩, ⟨cell_of_heap j1 0, cell_of_heap j1 1⟩, hw0.trans (hb.mono (by omega)), by have := hb.size; omega⟩
  obtain ⟨g, hg⟩ : ∃ g : Bool, g = true ↔ LocksP d t.holds := ⟨dec _, dec_iff _⟩
  obtain ⟨q, hq⟩ : ∃ q : Bool, q = true ↔ WaitsP d t.waits := ⟨dec _, dec_iff _⟩
  have HO := hide (specHoldsOK_any n₀ d s vh t.holds W0 (hN.below (Nat.le_refl _) (hw0.mono hn)) (hVh.below (Nat.le_refl _) (hw0.mono hn)) (by omega) hl hkl S.1 g hg)
  have HS : Hid (∀ wx, Below w.heap.size w wx → Calls Try.prog 50 #[.agg #[.int .i64 d.root, .int .i64 d.next, s], vw] wx fun e w' => e = .returned (.bool q) ∧ Below wx.heap.size wx w') := fun wx hb =>
    specWaits_any n₀ d s vw t.waits wx (hN.below (Nat.le_refl _) (hb.mono hn)) (hVw.below (Nat.le_refl _) (hb.mono hn)) (by have := hb.size; omega) hl S.2 q hq
  have HG := hide hg
  have HQ := hide hq
  have HR := hide hr
  obtain ⟨ha, hcap, rfl⟩ := hVh.form
  obtain ⟨wa, wcap, rfl⟩ := hVw.form
  obtain ⟨sa, sc, rfl, -⟩ := hN
  clear hr hg hq hkl hVh hVw hs0 hh0 hh1 hw0 S
  go_enter Try.func25, Try.ntmps25
  go_wp2_with fail
  rw [← hW0]
  clear hW0
  refine HO.out.mono ?_
  rintro e w1 ⟨rfl, hb1⟩
  obtain ⟨⟨x0, x1, x2⟩, ⟨y0, y1⟩, hbw, hbs⟩ := HB.out _ hb1
  have hz1 : w.heap.size < w1.heap.size := by omega
  have hz2 : w.heap.size + 1 < w1.heap.size := by omega
  cases g
  · have HF : Hid (r = false) := no_of HR.out fun h => by have := HG.out.2 h.locks; cases this
    go_wp2_with fail
    go_ret
    exact ⟨ret_bool HF.out.symm, hbw⟩
  · have HRQ : Hid (r = q) := by
      rw [Hid, Bool.eq_iff_iff, HR.out, HQ.out]
      exact ⟨fun h => h.waits, fun h => ⟨HG.out.1 rfl, h⟩⟩
    have HS1 := hide (HS.out w1 hbw)
    go_wp2_with (go_at_call 50; refine HS1.out.mono ?_; rintro e w2 ⟨rfl, hb2⟩)
    go_ret
    exact ⟨ret_bool HRQ.out.symm, hbw.trans (hb2.mono (by omega))⟩

set_option maxHeartbeats 1000000 in
set_option maxRecDepth 100000 in
theorem implTableOK_any (n₀ : Nat) (d : PDoc) (s v : Value) (t : PTab) (w : World) (hN : NodesAt n₀ w s d.nodes) (hV : TabAt n₀ w v t) (hn : n₀ ≤ w.heap.size) (hl : d.nodes.length ≤ 1048576) (hwf : WfDoc d) (S : SmallT t) (r : Bool) (hr : r = true ↔ TabP d t) :
    Calls Try.prog 27 #[.agg #[.int .i64 d.root, .int .i64 d.next, s], v] w fun e w' => e = .returned (.bool r) ∧ Below w.heap.size w w' := by
  have HR := hide hr
  have hV' := hV
  obtain ⟨vh, vw, rfl, -, -⟩ := hV'
  obtain ⟨W0, hW0⟩ : ∃ W0, W0 = (w.alloc (.cells #[.int .i64 d.root, .int .i64 d.next, s] 31)).alloc (.cells #[vh, vw] 54) := ⟨_, rfl⟩
  have hw0 : Below w.heap.size w W0 := by rw [hW0]; exact ((Below.refl w.heap.size w).alloc (Nat.le_refl _) _).alloc (by simp) _
  have hs0 : w.heap.size ≤ W0.heap.size := by rw [hW0]; simp; omega
  have HTo := hide (tableOf_any n₀ d s _ t W0 (hN.below (Nat.le_refl _) (hw0.mono hn)) (hV.below (Nat.le_refl _) (hw0.mono hn)) (by omega) hl hwf S)
  obtain ⟨ha, hcap, wa, wcap, e⟩ := hV.form
  simp only [Value.agg.injEq, Array.mk.injEq, List.cons.injEq, and_true] at e
  obtain ⟨rfl, rfl⟩ := e
  obtain ⟨sa, sc, rfl, -⟩ := hN
  clear hr hwf hV S
  go_enter Try.func27, Try.ntmps27
  go_wp2_with fail
  rw [← hW0]
  clear hW0
  refine HTo.out.mono ?_
  rintro e w1 (⟨rfl, hno, hb1⟩ | ⟨fb, lb, tb, ad, up, kv, rfl, hok, -, -, -, -, hb1⟩)
  · have HF : Hid (r = false) := no_of HR.out hno.out
    have hbw := hw0.trans (hb1.mono hs0)
    go_wp2_with fail
    go_ret
    exact ⟨ret_bool HF.out.symm, hbw⟩
  · have HF : Hid (r = true) := HR.out.2 hok.out
    have hbw := hw0.trans (hb1.mono hs0)
    go_wp2_with fail
    go_ret
    exact ⟨ret_bool HF.out.symm, hbw⟩
end Go.Proofs.Ytfjhpfgffbghdaa
