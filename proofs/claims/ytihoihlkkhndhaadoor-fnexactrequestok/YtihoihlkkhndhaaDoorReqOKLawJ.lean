/-
  The law on RequestOK answers true at every request that a program can hold.
-/
import Derived.Test.YtihoihlkkhndhaaDoorReqSpecJ
import Derived.Test.YtihoihlkkhndhaaDoorReqImplJ
import Derived.Deep.RegionWith
namespace Go.Proofs.YtihoihlkkhndhaaDoor
open Go.RowKit

set_option maxHeartbeats 2000000 in
set_option maxRecDepth 100000 in
theorem requestOKLaw (x : PReq) (w : World) (hA : ReqAt w) (hE : EditAt w) (hf : x.edit.text.size ≤ 9223372036854775807) :
    Calls Tryd.prog 3 #[reqVal x] w fun e w' => e = .returned (.bool true) ∧ Below w.heap.size w w' := by
  obtain ⟨W0, hW0⟩ : ∃ W0, W0 = w.alloc (.cells #[.int .i64 x.kind, .int .i64 x.session, .int .i64 x.node, .int .i64 x.a, .int .i64 x.edit.kind, .int .i64 x.edit.node, .int .i64 x.edit.a, .int .i64 x.edit.b, .string x.edit.text] 25) := ⟨_, rfl⟩
  have hb0 : Below w.heap.size w W0 := by rw [hW0]; exact (Below.refl w.heap.size w).alloc (Nat.le_refl _) _
  have hh0 : W0.heap[w.heap.size]? = some (.cells #[.int .i64 x.kind, .int .i64 x.session, .int .i64 x.node, .int .i64 x.a, .int .i64 x.edit.kind, .int .i64 x.edit.node, .int .i64 x.edit.a, .int .i64 x.edit.b, .string x.edit.text] 25 (0, 0)) := by rw [hW0]; exact alloc_new w _
  have hz0 : w.heap.size < W0.heap.size := (Array.getElem?_eq_some_iff.1 hh0).1
  have HSz := hide (szRequest_any x 1048576 W0 (by omega) (by omega) hf)
  have HC : Hid (∀ wx, Below W0.heap.size W0 wx → (wx.cell? ⟨w.heap.size, 0, none⟩ = some (.int .i64 x.kind) ∧ wx.cell? ⟨w.heap.size, 1, none⟩ = some (.int .i64 x.session) ∧ wx.cell? ⟨w.heap.size, 2, none⟩ = some (.int .i64 x.node) ∧ wx.cell? ⟨w.heap.size, 3, none⟩ = some (.int .i64 x.a) ∧ wx.cell? ⟨w.heap.size, 4, none⟩ = some (.int .i64 x.edit.kind) ∧ wx.cell? ⟨w.heap.size, 5, none⟩ = some (.int .i64 x.edit.node) ∧ wx.cell? ⟨w.heap.size, 6, none⟩ = some (.int .i64 x.edit.a) ∧ wx.cell? ⟨w.heap.size, 7, none⟩ = some (.int .i64 x.edit.b) ∧ wx.cell? ⟨w.heap.size, 8, none⟩ = some (.string x.edit.text)) ∧ w.heap.size < wx.heap.size) := fun wx hb =>
    ⟨nine_cells ((hb.block w.heap.size hz0).trans hh0), by have := hb.size; omega⟩
  have HOld : Hid (∀ wx, Below W0.heap.size W0 wx → Below w.heap.size w wx) := fun wx hb => hb0.trans (hb.mono (by omega))
  have HAt := hide hA
  have HEt := hide hE
  obtain ⟨⟨c0, c1, c2, c3, c4, c5, c6, c7, c8⟩, hz1⟩ := HC.out W0 (Below.refl _ _)
  clear hA hE hf hh0 hz0 hb0
  go_enter Tryd.func3, Tryd.ntmps3
  go_wp2_with fail
  rw [← hW0]
  clear hW0
  refine HSz.out.mono ?_
  rintro e w1 ⟨q, rfl, hq1, hq2, hq3, hb1⟩
  have HQ := hide hq3
  clear hq3 c0 c1 c2 c3 c4 c5 c6 c7 c8
  obtain ⟨⟨c0, c1, c2, c3, c4, c5, c6, c7, c8⟩, hz2⟩ := HC.out w1 hb1
  by_cases hq : q < 0
  · have hbw := HOld.out w1 hb1
    go_wp2_with fail
    go_ret
    exact ⟨rfl, hbw⟩
  · have hS := HQ.out (by omega)
    go_wp2_with fail
    refine (toRequest_any x w1).mono ?_
    rintro e w2 ⟨rfl, hb2⟩
    have hb12 := hb1.trans (hb2.mono hb1.size)
    clear c0 c1 c2 c3 c4 c5 c6 c7 c8
    go_wp2_with fail
    refine (specRequestOK_any x w2 hS).mono ?_
    rintro e w3 ⟨r1, rfl, hr1, hb3⟩
    have hb13 := hb12.trans (hb3.mono hb12.size)
    have HR1 := hide hr1
    clear hr1
    obtain ⟨⟨c0, c1, c2, c3, c4, c5, c6, c7, c8⟩, hz3⟩ := HC.out w3 hb13
    go_wp2_with fail
    refine (toRequest_any x w3).mono ?_
    rintro e w4 ⟨rfl, hb4⟩
    have hb14 := hb13.trans (hb4.mono hb13.size)
    have hw4 := HOld.out w4 hb14
    clear c0 c1 c2 c3 c4 c5 c6 c7 c8
    go_wp2_with fail
    refine (implRequestOK_any x w4 (HAt.out.below hw4) (HEt.out.below hw4) hS).mono ?_
    rintro e w5 ⟨r2, rfl, hr2, hb5⟩
    have hb15 := HOld.out w5 (hb14.trans (hb5.mono hb14.size))
    obtain rfl : r1 = r2 := by rw [Bool.eq_iff_iff, HR1.out, hr2]
    clear hr2
    cases r1
    all_goals
      go_wp2_with fail
      go_ret
      exact ⟨rfl, hb15⟩
end Go.Proofs.YtihoihlkkhndhaaDoor
