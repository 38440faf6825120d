/-
  Peace among locks, as the program asks it: node by node, in order.
-/
import Derived.Test.YtfjhpfgffbghdaaDoorPeaceAtImplJ
import Derived.RegionIn
import Derived.Sort.QuietIn
namespace Go.Proofs.YtfjhpfgffbghdaaDoor
open Go.RowKit Go.Shelf

attribute [local go_sem] Oper.semAt_some

theorem keeps_of_below {W W' : World} (h : Below W.heap.size W W') : KeepsOthers W W' := ⟨h.size, fun k _ hk _ => (h.block k (Array.getElem?_eq_some_iff.1 hk).1).trans hk⟩

set_option maxRecDepth 100000 in
set_option maxHeartbeats 4000000 in
theorem peaceful_any (d : PDoc) (G : Good d) (n₀ n₁ lb tb : Nat) (ad : Int → Nat) (up : Int → Option Int) (kv : Int → Value) (L : List PHold) (hL : HoldsP d L) (w : World) (hgr : Grown n₀ w d tb ad up kv) (hlk : LocksAt n₁ w lb tb ad L) (hn : n₁ ≤ w.heap.size) (hF : FitsAt w) (hI : IntentsAt w) (r : Bool) (hr : r = true ↔ PeaceP d L) :
    Calls Tryd.prog 40 #[.pointer (some ⟨lb, 0, none⟩)] w fun e w' => e = .returned (.bool r) ∧ Below w.heap.size w w' := by
  obtain ⟨W0, hW0⟩ : ∃ W0, W0 = (w.alloc (.cells #[.pointer (some ⟨lb, 0, none⟩)] 57)).alloc (.cells #[.bool false] 4) := ⟨_, rfl⟩
  have hs0 : W0.heap.size = w.heap.size + 1 + 1 := by rw [hW0]; simp
  have hw0 : Below w.heap.size w W0 := by rw [hW0]; exact ((Below.refl _ _).alloc (Nat.le_refl _) _).alloc (by simp) _
  have hb0 : W0.heap[w.heap.size]? = some (.cells #[.pointer (some ⟨lb, 0, none⟩)] 57 (0, 0)) := by
    rw [hW0, Below.heap_alloc _ _ _ (by simp)]; exact alloc_new w _
  have hb1 : W0.heap[w.heap.size + 1]? = some (.cells #[.bool false] 4 (0, 0)) := by
    rw [hW0]
    have := alloc_new (w.alloc (.cells #[.pointer (some ⟨lb, 0, none⟩)] 57)) (.cells #[.bool false] 4)
    simpa using this
  have HOld : Hid (∀ wx, Below (w.heap.size + 1 + 1) W0 wx → Below w.heap.size w wx ∧ w.heap.size + 1 + 1 ≤ wx.heap.size) := fun wx hb => ⟨hw0.trans (hb.mono (by omega)), by have := hb.size; omega⟩
  have HB : Hid (∀ wx, Below (w.heap.size + 1 + 1) W0 wx → wx.cell? ⟨w.heap.size, 0, none⟩ = some (.pointer (some ⟨lb, 0, none⟩)) ∧ wx.cell? ⟨w.heap.size + 1, 0, none⟩ = some (.bool false) ∧ wx.frozen? ⟨w.heap.size + 1, 0, none⟩ = false) := fun wx hb => by
    have j0 := (hb.block w.heap.size (by omega)).trans hb0
    have j1 := (hb.block (w.heap.size + 1) (by omega)).trans hb1
    exact ⟨cell_of_heap j0 0, cell_of_heap j1 0, frozen_of_heap j1 0⟩
  have hl30 := hL.len
  have HSe := hide (sessions_any n₁ lb tb ad L W0 (hlk.below (Nat.le_refl _) (hw0.mono hn)) (by omega) hl30)
  have HR : Hid (r = true ↔ ∀ i ∈ idsOf d.nodes, PeaceAt d L i) := hr
  have HGr := hide hgr
  have HLk := hide hlk
  have HF := hide hF
  have HI := hide hI
  have HG := hide G
  have F := G.toFlat
  have htop : w.cell? ⟨tb, 0, none⟩ = some (.pointer (some ⟨ad d.root, 0, none⟩)) := by simpa using cell_of_heap hgr.top 0
  have htb : tb < w.heap.size := (Array.getElem?_eq_some_iff.1 hgr.top).1
  obtain ⟨hlb, hc0, -⟩ := hlk
  have hlb2 : lb < w.heap.size := by omega
  have hb00 : Below (w.heap.size + 1 + 1) W0 W0 := Below.refl _ _
  obtain ⟨x0, -, -⟩ := HB.out _ hb00
  have hz0 := (HOld.out _ hb00).2
  clear hr hgr hF hI hb0 hb1 G
  refine (callsIn_wide (n := 3)).1 ?_
  refine callsIn_of_wp_marks Tryd.func40 rfl trivial ?_ wideRound
  simp only [Tryd.ntmps40, List.size_toArray, List.length_cons, List.length_nil, Nat.reduceAdd, Nat.reduceSub, Array.replicate_succ, Array.replicate_zero, List.push_toArray, List.append_toArray, List.nil_append, List.cons_append]
  gi_wp2_with fail
  rw [← hW0]
  clear hW0
  refine ⟨trivial, (callsIn_wide.2 HSe.out).mono ?_⟩
  rintro e w1 ⟨ua, uc, rfl, hS, hb1'⟩
  rw [hs0] at hb1'
  have hb1 : Below (w.heap.size + 1 + 1) W0 w1 := hb1'
  obtain ⟨x1, -, -⟩ := HB.out _ hb1
  obtain ⟨hw1, hz1⟩ := HOld.out _ hb1
  have t0 := (hw1.cell (p := ⟨lb, 0, none⟩) hlb2).trans hc0
  have t1 := (hw1.cell (p := ⟨tb, 0, none⟩) htb).trans htop
  have hlb3 : lb < w1.heap.size := by omega
  have htb3 : tb < w1.heap.size := by omega
  have hz1' : w.heap.size < w1.heap.size := by omega
  clear hb1' x0 hc0 htop HSe
  obtain ⟨W2, hW2⟩ : ∃ W2, W2 = w1.alloc (.cells #[.slice ua (sessP L).length uc] 44) := ⟨_, rfl⟩
  have hs2 : W2.heap.size = w1.heap.size + 1 := by rw [hW2]; simp
  have hc2 : Below w1.heap.size w1 W2 := by rw [hW2]; exact (Below.refl _ _).alloc (Nat.le_refl _) _
  have hb2 : Below (w.heap.size + 1 + 1) W0 W2 := hb1.trans (hc2.mono hz1)
  have hbox2 : W2.heap[w1.heap.size]? = some (.cells #[.slice ua (sessP L).length uc] 44 (0, 0)) := by rw [hW2]; exact alloc_new w1 _
  have hgr2 := HGr.out.below (hw1.trans (hc2.mono (by omega)))
  have hT2 := hgr2.tree HG.out
  have HS2 : Hid (IntsAt W2.heap.size W2 (.slice ua (sessP L).length uc) (sessP L)) := hS.below (by omega) hc2
  clear hgr2 hS
  gi_wp2_with (refine ⟨trivial, ?_⟩; gi_at_call 68; refine (inOrder_in _ _ _).mono ?_; rintro e w' ⟨rfl, rfl⟩)
  rw [← hW2]
  have c0 := new_cell W2 (.pointer (some ⟨ad d.root, 0, none⟩)) 58
  have hB0 : Below W2.heap.size W2 (W2.alloc (.cells #[.pointer (some ⟨ad d.root, 0, none⟩)] 58)) := (Below.refl _ _).alloc (Nat.le_refl _) _
  have hs2' : w1.heap.size + 1 = W2.heap.size := hs2.symm
  simp only [hs2']
  have hs2a : W2.heap.size ≤ w1.heap.size + 1 := by omega
  have hs2b : w1.heap.size < W2.heap.size := by omega
  have hz2 := (HOld.out _ hb2).2
  clear hs2 hs2' hW2 hs0
  refine wpIn_rangeFunc_ownF (α := IdOf d.nodes) wideRound (by omega) (gf := 92) (lb := #[.pointer (some ⟨W2.heap.size, 0, none⟩)]) rfl trivial (enters_of Tryd.func92 (by kernel_rfl) rfl)
    (inOrder_stops d.nodes ad up F.walkable _ W2.heap.size W2.heap.size d.nodes.length d.root F.rootIn F.low _ (by simp) (by simp) c0.1 (hT2.below (Nat.le_refl _) hB0)) belowK_t (belowK_b (by simp)) (Below.refl _ _) (fun _ => rfl)
    (fun pre W => (∀ y ∈ vals pre, PeaceAt d L y) ∧ Below W2.heap.size W2 W)
    (fun c pre W => (c = .ret ∧ (∃ y ∈ vals pre, ¬ PeaceAt d L y) ∧ W.cell? ⟨w.heap.size + 1, 0, none⟩ = some (.bool false)) ∧ Below w.heap.size w W)
    (OwnFrom.and (Own.from (fun s A B row hs hg hr => hs) _) (ownFrom_below (Nat.le_refl _) (by simp)))
    (fun c => OwnFrom.and (Own.from (fun s A B row hs hg hr => ⟨hs.1, hs.2.1, cell_kept hs.2.2 hg hr⟩) _) (ownFrom_below (Nat.le_refl _) (by have := hb2.size; simp; omega)))
    ⟨by simp [vals], hB0⟩
    (fun x => { tmps := #[.pointer (some ⟨lb, 0, none⟩), .pointer (some ⟨w.heap.size, 0, none⟩), .pointer (some ⟨w.heap.size + 1, 0, none⟩), .pointer (some ⟨w1.heap.size, 0, none⟩), .pointer (some ⟨ad x.1, 0, none⟩), .pointer (some ⟨lb, 0, none⟩), .slice ua (sessP L).length uc, .pointer (some ⟨lb, 0, none⟩), .pointer (some ⟨lb, 0, none⟩), .pointer (some ⟨lb, 0, none⟩), .pointer (some ⟨tb, 0, none⟩), .pointer (some ⟨tb, 0, none⟩), .pointer (some ⟨tb, 0, none⟩), .pointer (some ⟨ad d.root, 0, none⟩), .func (.func 92) #[] #[.pointer (some ⟨W2.heap.size, 0, none⟩)], .pointer (some ⟨ad x.1, 0, none⟩), undef, undef, undef, undef, undef], defers := [] }) ?assign ?body ?done ?stop
  case assign =>
    intro lr x W K hK
    gi_wp2
    simpa using hK
  case body =>
    rintro lr pre x W ⟨hok, hB⟩ _
    obtain ⟨xi, hxi⟩ := x
    have hzW := hB.size
    have hBW := hb2.trans (hB.mono hz2)
    obtain ⟨hWw, hWz⟩ := HOld.out _ hBW
    obtain ⟨x0, x1, x2⟩ := HB.out _ hBW
    obtain ⟨q, hq⟩ : ∃ q : Bool, q = true ↔ PeaceAt d L xi := ⟨dec _, dec_iff _⟩
    have HPe := hide (peacefulAt_any d HG.out n₀ n₁ W2.heap.size lb tb ad up kv L hL xi hxi W (HGr.out.below hWw) (HLk.out.below (Nat.le_refl _) (hWw.mono hn)) (by omega) ua uc (HS2.out.below (Nat.le_refl _) hB) hzW (HF.out.below hWw HF.out.lt) (HI.out.below hWw HI.out.lt) q hq)
    have hbox := (hB.block w1.heap.size hs2b).trans hbox2
    have y0 := cell_of_heap hbox 0
    simp only [List.getElem?_toArray, List.getElem?_cons_zero] at y0
    have HOk := hide hok
    have HQ := hide hq
    have HBW := hide hWw
    have hwW : w1.heap.size < W.heap.size := by omega
    have hw0W : w.heap.size < W.heap.size := by omega
    have hw1W : w.heap.size + 1 < W.heap.size := by omega
    clear hok hq hT2 hbox hWw
    cases q
    · have hno : ¬ PeaceAt d L xi := fun h => by have := HQ.out.2 h; cases this
      have HNo := hide hno
      clear hno
      gi_wp2_with fail
      refine ⟨trivial, (callsIn_wide.2 HPe.out).mono ?_⟩
      rintro e W1 ⟨rfl, hc1⟩
      have hz1' := hc1.size
      have y4 := (hc1.cell (p := ⟨w.heap.size + 1, 0, none⟩) hw1W).trans x1
      have y5 := (hc1.frozen (p := ⟨w.heap.size + 1, 0, none⟩) hw1W).trans x2
      gi_wp2_with fail
      have HB2 := HBW.out.trans (hc1.mono (by omega))
      refine ⟨(keeps_of_below hc1).trans (KeepsOthers.setCell _ _ _), ⟨rfl, ⟨xi, by rw [vals_append]; simp [vals], HNo.out⟩, ?_⟩, HB2.setCell (p := ⟨w.heap.size + 1, 0, none⟩) (by simp) _⟩
      exact World.cell?_setCell_same' W1 ⟨w.heap.size + 1, 0, none⟩ _ (by rw [y4]; rfl)
    · have HYes := hide (HQ.out.1 rfl)
      gi_wp2_with fail
      refine ⟨trivial, (callsIn_wide.2 HPe.out).mono ?_⟩
      rintro e W1 ⟨rfl, hc1⟩
      gi_wp2_with fail
      exact ⟨keeps_of_below hc1, hc1.mono hzW, ⟨fun z hz => by
        rw [vals_append] at hz
        exact (List.mem_append.1 hz).elim (HOk.out z) (fun e => by simp [vals] at e; rw [e]; exact HYes.out), hB.trans (hc1.mono hzW)⟩⟩
  case done =>
    rintro D ys W hD hys ⟨hok, hB⟩ hK
    have hBW := hb2.trans (hB.mono hz2)
    obtain ⟨x0, x1, x2⟩ := HB.out _ hBW
    have HBW := hide (HOld.out _ hBW).1
    have HX : Hid (r = true) := HR.out.2 fun i hi => hok i (by rw [hys]; exact (HG.out.order_iff i).2 hi)
    clear hok hT2 F
    gi_wp2
    have hK' := (KeepsOthers.setCell W ⟨w.heap.size + 1, 0, none⟩ (.bool true)).same D _ hK rfl
    refine ⟨by simp, .inl ⟨_, _, rfl, run_takeDeferred hK', ?_⟩⟩
    have e4 : (W.setCell ⟨w.heap.size + 1, 0, none⟩ (.bool true)).cell? ⟨w.heap.size + 1, 0, none⟩ = some (.bool true) := World.cell?_setCell_same' W ⟨w.heap.size + 1, 0, none⟩ _ (by rw [x1]; rfl)
    have f4 := cell_kept e4 (grownBy_putObj' _ D (.deferred none)) (fun r e => by cases e; exact ⟨_, hK', rfl⟩)
    refine ⟨.bool true, ?_, by rw [HX.out], (HBW.out.setCell (p := ⟨w.heap.size + 1, 0, none⟩) (by simp) _).trans (belowK_b (w := w) (Nat.le_refl _) _ D _ _ (by simp at hD; omega) hK' rfl rfl)⟩
    simp [results, Tryd.results40, go_sem, f4]
  case stop =>
    rintro D c pre W hD hpre ⟨⟨rfl, ⟨y, hy, hyn⟩, hc4⟩, hB⟩ hK
    have HX : Hid (r = false) := no_of HR.out fun h => by
      obtain ⟨rest, hrest⟩ := hpre
      refine hyn (h y ((HG.out.order_iff y).1 ?_))
      rw [← hrest]; exact List.mem_append.2 (.inl hy)
    have HBW := hide hB
    clear hy hyn hT2 F hpre
    gi_wp2
    refine ⟨by simp, .inl ⟨_, _, rfl, run_takeDeferred hK, ?_⟩⟩
    have f4 := cell_kept hc4 (grownBy_putObj' _ D (.deferred none)) (fun r e => by cases e; exact ⟨_, hK, rfl⟩)
    refine ⟨.bool false, ?_, by rw [HX.out], HBW.out.trans (belowK_b (w := w) (Nat.le_refl _) W D _ _ (by simp at hD; omega) hK rfl rfl)⟩
    simp [results, Tryd.results40, go_sem, f4]
end Go.Proofs.YtfjhpfgffbghdaaDoor
