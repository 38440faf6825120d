/-
  What the program's calls on locks and a hold ask first.
-/
import Derived.Test.YtfjhpfgffbghdaaLocksOfJ
import Derived.Deep.RegionHeld3
namespace Go.Proofs.Ytfjhpfgffbghdaa
open Go.RowKit

def ForLocksPost (w : World) (d : PDoc) (L : List PHold) (x : PHold) (e : Ending) (w' : World) : Prop :=
  (∃ (p : Option Addr) (c : Int), e = .returned (.tuple #[.pointer p, .agg #[.int .i64 0, .int .i64 0, .pointer none], .int .i64 c]) ∧ Hid (c ≠ 0 ∧ c = holdAsk d L x) ∧ (c != 0) = true ∧ Below w.heap.size w w') ∨
  (∃ (lb tb : Nat) (ad : Int → Nat) (up : Int → Option Int) (kv : Int → Value), e = .returned (.tuple #[.pointer (some ⟨lb, 0, none⟩), lockVal ad x, .int .i64 0]) ∧ Hid (holdAsk d L x = 0) ∧ GrownIn w.heap.size lb w' d tb ad up kv ∧ LocksOwn w.heap.size w' lb tb ad L ∧ Below w.heap.size w w')

theorem three_cell (w : World) (b : Nat) (c0 c1 c2 : Value) (m o : Nat) (h : m ≠ b) : (((w.setCell ⟨b, 0, none⟩ c0).setCell ⟨b, 1, none⟩ c1).setCell ⟨b, 2, none⟩ c2).cell? ⟨m, o, none⟩ = w.cell? ⟨m, o, none⟩ := by
  rw [World.cell?_setCell_far _ _ _ _ (by exact h.symm), World.cell?_setCell_far _ _ _ _ (by exact h.symm), World.cell?_setCell_far _ _ _ _ (by exact h.symm)]

theorem three_heap (w : World) (b : Nat) (c0 c1 c2 a0 a1 a2 : Value) (T : TypeId) (h : w.heap[b]? = some (.cells #[a0, a1, a2] T (0, 0))) : (((w.setCell ⟨b, 0, none⟩ c0).setCell ⟨b, 1, none⟩ c1).setCell ⟨b, 2, none⟩ c2).heap[b]? = some (.cells #[c0, c1, c2] T (0, 0)) := by
  have := heap_setCell_same _ b 2 _ _ c2 (heap_setCell_same _ b 1 _ _ c1 (heap_setCell_same w b 0 _ _ c0 h))
  simpa using this

theorem three_other (w : World) (b : Nat) (c0 c1 c2 : Value) (m : Nat) (h : m ≠ b) : (((w.setCell ⟨b, 0, none⟩ c0).setCell ⟨b, 1, none⟩ c1).setCell ⟨b, 2, none⟩ c2).heap[m]? = w.heap[m]? := by
  iterate 3 rw [heap_setCell_other _ _ _ _ (by exact h)]

set_option maxHeartbeats 4000000 in
set_option maxRecDepth 100000 in
theorem locksFor_any (n₀ : Nat) (d : PDoc) (s v : Value) (L : List PHold) (x : PHold) (w : World) (hN : NodesAt n₀ w s d.nodes) (hV : HoldsAt n₀ w v L) (hn : n₀ ≤ w.heap.size) (hl : d.nodes.length ≤ 1048576) (hwf : WfDoc d) (hL : L.length ≤ 1048576) :
    Calls Try.prog 41 #[.agg #[.int .i64 d.root, .int .i64 d.next, s], v, holdVal x] w (ForLocksPost w d L x) := by
  obtain ⟨W0, hW0⟩ : ∃ W0, W0 = ((w.alloc (.cells #[.int .i64 d.root, .int .i64 d.next, s] 31)).alloc (.cells #[.int .i64 x.session, .int .i64 x.node, .int .i64 x.mode] 42)).alloc (.cells #[.int .i64 0, .int .i64 0, .pointer none] 72) := ⟨_, rfl⟩
  have hw0 : Below w.heap.size w W0 := by rw [hW0]; exact (((Below.refl w.heap.size w).alloc (Nat.le_refl _) _).alloc (by simp) _).alloc (by simp; omega) _
  have hs0 : W0.heap.size = w.heap.size + 1 + 1 + 1 := by rw [hW0]; simp
  have hh0 : W0.heap[w.heap.size]? = some (.cells #[.int .i64 d.root, .int .i64 d.next, s] 31 (0, 0)) := by
    rw [hW0, Below.heap_alloc _ _ _ (by simp; omega), Below.heap_alloc _ _ _ (by simp)]; exact alloc_new w _
  have hh1 : W0.heap[w.heap.size + 1]? = some (.cells #[.int .i64 x.session, .int .i64 x.node, .int .i64 x.mode] 42 (0, 0)) := by
    rw [hW0, Below.heap_alloc _ _ _ (by simp)]
    have := alloc_new (w.alloc (.cells #[.int .i64 d.root, .int .i64 d.next, s] 31)) (.cells #[.int .i64 x.session, .int .i64 x.node, .int .i64 x.mode] 42)
    simpa using this
  have hh2 : W0.heap[w.heap.size + 1 + 1]? = some (.cells #[.int .i64 0, .int .i64 0, .pointer none] 72 (0, 0)) := by
    rw [hW0]
    have := alloc_new ((w.alloc (.cells #[.int .i64 d.root, .int .i64 d.next, s] 31)).alloc (.cells #[.int .i64 x.session, .int .i64 x.node, .int .i64 x.mode] 42)) (.cells #[.int .i64 0, .int .i64 0, .pointer none] 72)
    simpa using this
  have HOld : Hid (∀ wx, Below W0.heap.size W0 wx → Below w.heap.size w wx ∧ w.heap.size + 1 + 1 + 1 ≤ wx.heap.size) := fun wx hb => ⟨hw0.trans (hb.mono (by omega)), by have := hb.size; omega⟩
  have HB : Hid (∀ wx, Below W0.heap.size W0 wx → (wx.cell? ⟨w.heap.size + 1, 0, none⟩ = some (.int .i64 x.session) ∧ wx.cell? ⟨w.heap.size + 1, 1, none⟩ = some (.int .i64 x.node) ∧ wx.cell? ⟨w.heap.size + 1, 2, none⟩ = some (.int .i64 x.mode)) ∧ (wx.cell? ⟨w.heap.size + 1 + 1, 0, none⟩ = some (.int .i64 0) ∧ wx.cell? ⟨w.heap.size + 1 + 1, 1, none⟩ = some (.int .i64 0) ∧ wx.cell? ⟨w.heap.size + 1 + 1, 2, none⟩ = some (.pointer none)) ∧ (∀ j, wx.frozen? ⟨w.heap.size + 1 + 1, j, none⟩ = false)) := fun wx hb => by
    have j1 := (hb.block (w.heap.size + 1) (by omega)).trans hh1
    have j2 := (hb.block (w.heap.size + 1 + 1) (by omega)).trans hh2
    exact ⟨⟨cell_of_heap j1 0, cell_of_heap j1 1, cell_of_heap j1 2⟩, ⟨cell_of_heap j2 0, cell_of_heap j2 1, cell_of_heap j2 2⟩, fun j => frozen_of_heap j2 j⟩
  have HB2 : Hid (∀ wx, Below W0.heap.size W0 wx → wx.heap[w.heap.size + 1 + 1]? = some (.cells #[.int .i64 0, .int .i64 0, .pointer none] 72 (0, 0))) := fun wx hb => (hb.block (w.heap.size + 1 + 1) (by omega)).trans hh2
  have HLo : Hid (Calls Try.prog 35 #[.agg #[.int .i64 d.root, .int .i64 d.next, s], v] W0 (LocksPost W0 d L)) :=
    locksOf_any n₀ d s v L W0 (hN.below (Nat.le_refl _) (hw0.mono hn)) (hV.below (Nat.le_refl _) (hw0.mono hn)) (by omega) hl hwf hL
  obtain ⟨a, cap, rfl⟩ := hV.form
  obtain ⟨sa, sc, rfl, -⟩ := hN
  clear hwf hV hw0 hs0 hh0 hh1 hh2
  go_enter Try.func41, Try.ntmps41
  go_wp2_with fail
  rw [← hW0]
  clear hW0
  refine HLo.out.mono ?_
  rintro e w1 (⟨c, rfl, hc, hc1, hb1⟩ | ⟨lb, tb, ad, up, kv, rfl, hok, hgr, hlk, hb1⟩)
  · have HX : Hid (c ≠ 0 ∧ c = holdAsk d L x) := by
      have h1 : lockAsk d L x.session x.node = c := by rw [lockAsk_bad (by rw [← hc.out.2]; exact hc.out.1)]; exact hc.out.2.symm
      exact ⟨hc.out.1, by rw [holdAsk_bad (by rw [h1]; exact hc.out.1)]; exact h1.symm⟩
    obtain ⟨-, ⟨z0, z1, z2⟩, zf⟩ := HB.out _ hb1
    obtain ⟨hw1, hws⟩ := HOld.out _ hb1
    have hz2 : w.heap.size + 1 + 1 < w1.heap.size := by omega
    go_wp2_with fail
    refine bodyPost_ret (v := .tuple #[.pointer none, .agg #[.int .i64 0, .int .i64 0, .pointer none], .int .i64 c]) (by simp [results, Try.results41, go_sem, z0, z1, z2]) rfl ?_
    exact .inl ⟨_, c, rfl, HX, hc1, ((hw1.setCell (p := ⟨w.heap.size + 1 + 1, 0, none⟩) (by simp; omega) _).setCell (p := ⟨w.heap.size + 1 + 1, 1, none⟩) (by simp; omega) _).setCell (p := ⟨w.heap.size + 1 + 1, 2, none⟩) (by simp; omega) _⟩
  · have HH := hide (heldAsk_ok hok.out)
    obtain ⟨hw1, hws⟩ := HOld.out _ hb1
    obtain ⟨c2, hc2⟩ : ∃ c2, c2 = ofCode d x := ⟨_, rfl⟩
    obtain ⟨r, hr⟩ : ∃ r, r = decide (c2 = 0) := ⟨_, rfl⟩
    have HGr := hide hgr
    have HLk := hide hlk
    have HC2 : Hid (c2 = holdAsk d L x) := hc2.trans (holdAsk_of HH.out).symm
    have HR := hide hr
    have HLf : Hid (∀ wx, Below w1.heap.size w1 wx → Calls Try.prog 63 #[.pointer (some ⟨tb, 0, none⟩), holdVal x] wx fun e w' => e = .returned (.tuple #[lockRes ad x r, .int .i64 c2]) ∧ Below w1.heap.size w1 w' ∧ Below wx.heap.size wx w') := fun wx hb =>
      (lockOf_any d hok.out.good _ tb ad up kv wx (hgr.out.below hb) x c2 hc2 r hr).mono fun e w' ⟨he, hb'⟩ => ⟨he, hb.trans (hb'.mono hb.size), hb'⟩
    obtain ⟨hlb, l0, -⟩ := hlk.at
    have HB1 : Hid (∀ wx, Below w1.heap.size w1 wx → Below W0.heap.size W0 wx) := fun wx hb => hb1.trans (hb.mono hb1.size)
    have HS : Hid (∀ wx, Below w1.heap.size w1 wx → (wx.cell? ⟨lb, 0, none⟩ = some (.pointer (some ⟨tb, 0, none⟩))) ∧ wx.cell? ⟨w.heap.size + 1, 0, none⟩ = some (.int .i64 x.session) ∧ wx.cell? ⟨w.heap.size + 1, 1, none⟩ = some (.int .i64 x.node) ∧ wx.cell? ⟨w.heap.size + 1, 2, none⟩ = some (.int .i64 x.mode)) := fun wx hb =>
      ⟨(hb.cell (p := ⟨lb, 0, none⟩) hlb).trans l0, (HB.out _ (HB1.out _ hb)).1⟩
    clear hgr hc2 hr
    have hd1 : Below w1.heap.size w1 w1.drew := (Below.refl _ _).drew
    cases r
    · have hc20 : c2 ≠ 0 := by have := HR.out; intro h; rw [h] at this; revert this; decide
      have hc21 : (c2 != 0) = true := by simp [hc20]
      have HX : Hid (c2 ≠ 0 ∧ c2 = holdAsk d L x) := ⟨hc20, HC2.out⟩
      clear hc20
      go_wp2_with fail
      go_cut [10, 11] (fun v10 v11 wc => ∃ b, v10 = .int .i64 c2 ∧ v11 = .pointer (some ⟨b, 0, none⟩) ∧ Hid (wc.heap[b]? = some (.cells #[.int .i64 0, .int .i64 0, .pointer none] 72 (0, 0))) ∧ w1.heap.size ≤ b ∧ Below w1.heap.size w1 wc)
      case first =>
        go_region_held3 (fun wx => (wx.cell? ⟨lb, 0, none⟩ = some (.pointer (some ⟨tb, 0, none⟩))) ∧ wx.cell? ⟨w.heap.size + 1, 0, none⟩ = some (.int .i64 x.session) ∧ wx.cell? ⟨w.heap.size + 1, 1, none⟩ = some (.int .i64 x.node) ∧ wx.cell? ⟨w.heap.size + 1, 2, none⟩ = some (.int .i64 x.mode)) (first | exact HS.out _ (by assumption) | exact HS.out _ (hb2.alloc hb2.size _) | exact HS.out _ (((hb2.setCell (p := ⟨w1.heap.size, 0, none⟩) (Nat.le_refl _) _).setCell (p := ⟨w1.heap.size, 1, none⟩) (Nat.le_refl _) _).setCell (p := ⟨w1.heap.size, 2, none⟩) (Nat.le_refl _) _) | exact HS.out _ (((Below.refl w1.heap.size w1).alloc (Nat.le_refl _) _).drew) | exact HS.out _ ((Below.refl w1.heap.size w1).alloc (Nat.le_refl _) _) | go_keep)
          (first
            | (go_at_call 63; refine (HLf.out _ (by first | assumption | exact ((Below.refl _ _).alloc (Nat.le_refl _) _).drew | exact (Below.refl _ _).alloc (Nat.le_refl _) _)).mono ?_; rintro e w2 ⟨rfl, hb2, hc2⟩; first | (have hq : w2.heap[w1.heap.size]? = some (.cells #[.int .i64 0, .int .i64 0, .pointer none] 72 (0, 0)) := (hc2.block w1.heap.size (by simp)).trans (alloc_new w1 _); have q0 := cell_of_heap hq 0; have q1 := cell_of_heap hq 1; have q2 := cell_of_heap hq 2; simp only [List.getElem?_toArray, List.getElem?_cons_succ, List.getElem?_cons_zero] at q0 q1 q2; have qf := fun j => frozen_of_heap hq j; have hwq : w1.heap.size < w2.heap.size := (Array.getElem?_eq_some_iff.1 hq).1) | skip))
        all_goals
          go_wp2_with fail
          go_meet
          first
            | exact ⟨_, rfl, rfl, three_heap w2 w1.heap.size _ _ _ _ _ _ _ hq, Nat.le_refl _, ((hb2.setCell (p := ⟨w1.heap.size, 0, none⟩) (Nat.le_refl _) _).setCell (p := ⟨w1.heap.size, 1, none⟩) (Nat.le_refl _) _).setCell (p := ⟨w1.heap.size, 2, none⟩) (Nat.le_refl _) _⟩
            | exact ⟨_, rfl, rfl, alloc_new w2 _, hb2.size, hb2.alloc hb2.size _⟩
      case rest =>
        obtain ⟨b, rfl, rfl, hbx, hbb, hbc⟩ := hcut
        have g0 := cell_of_heap hbx.out 0
        have g1 := cell_of_heap hbx.out 1
        have g2 := cell_of_heap hbx.out 2
        simp only [List.getElem?_toArray, List.getElem?_cons_succ, List.getElem?_cons_zero] at g0 g1 g2
        have hbz : b < wc.heap.size := (Array.getElem?_eq_some_iff.1 hbx.out).1
        obtain ⟨-, ⟨z0, z1, z2⟩, zf⟩ := HB.out _ (HB1.out _ hbc)
        have hsc := hbc.size
        have hz2 : w.heap.size + 1 + 1 < wc.heap.size := by omega
        have hnb : w.heap.size + 1 + 1 ≠ b := by omega
        have hnb2 : b ≠ w.heap.size + 1 + 1 := by omega
        have hdc : Below wc.heap.size wc wc.drew := (Below.refl _ _).drew
        go_wp2_with fail
        go_region_held3 (fun wx => wx.cell? ⟨b, 0, none⟩ = some (.int .i64 0) ∧ wx.cell? ⟨b, 1, none⟩ = some (.int .i64 0) ∧ wx.cell? ⟨b, 2, none⟩ = some (.pointer none)) (go_keep) (fail)
        go_wp2_with fail
        have hbw := (((HOld.out _ (HB1.out _ hbc)).1.setCell (p := ⟨w.heap.size + 1 + 1, 0, none⟩) (by simp; omega) (.int .i64 0)).setCell (p := ⟨w.heap.size + 1 + 1, 1, none⟩) (by simp; omega) (.int .i64 0)).setCell (p := ⟨w.heap.size + 1 + 1, 2, none⟩) (by simp; omega) (.pointer none)
        refine bodyPost_ret (v := .tuple #[.pointer (some ⟨lb, 0, none⟩), .agg #[.int .i64 0, .int .i64 0, .pointer none], .int .i64 c2]) (by simp [results, Try.results41, go_sem, z0, z1, z2]) rfl ?_
        exact .inl ⟨_, c2, rfl, HX, hc21, hbw.drew⟩
    · have hc20 : c2 = 0 := by have := HR.out; simpa using this.symm
      subst hc20
      go_wp2_with fail
      go_cut [10, 11] (fun v10 v11 wc => ∃ b, v10 = .int .i64 0 ∧ v11 = .pointer (some ⟨b, 0, none⟩) ∧ Hid (wc.heap[b]? = some (.cells #[.int .i64 x.session, .int .i64 x.mode, .pointer (some ⟨ad x.node, 0, none⟩)] 72 (0, 0))) ∧ w1.heap.size ≤ b ∧ Below w1.heap.size w1 wc)
      case first =>
        go_region_held3 (fun wx => (wx.cell? ⟨lb, 0, none⟩ = some (.pointer (some ⟨tb, 0, none⟩))) ∧ wx.cell? ⟨w.heap.size + 1, 0, none⟩ = some (.int .i64 x.session) ∧ wx.cell? ⟨w.heap.size + 1, 1, none⟩ = some (.int .i64 x.node) ∧ wx.cell? ⟨w.heap.size + 1, 2, none⟩ = some (.int .i64 x.mode)) (first | exact HS.out _ (by assumption) | exact HS.out _ (hb2.alloc hb2.size _) | exact HS.out _ (((hb2.setCell (p := ⟨w1.heap.size, 0, none⟩) (Nat.le_refl _) _).setCell (p := ⟨w1.heap.size, 1, none⟩) (Nat.le_refl _) _).setCell (p := ⟨w1.heap.size, 2, none⟩) (Nat.le_refl _) _) | exact HS.out _ (((Below.refl w1.heap.size w1).alloc (Nat.le_refl _) _).drew) | exact HS.out _ ((Below.refl w1.heap.size w1).alloc (Nat.le_refl _) _) | go_keep)
          (first
            | (go_at_call 63; refine (HLf.out _ (by first | assumption | exact ((Below.refl _ _).alloc (Nat.le_refl _) _).drew | exact (Below.refl _ _).alloc (Nat.le_refl _) _)).mono ?_; rintro e w2 ⟨rfl, hb2, hc2⟩; first | (have hq : w2.heap[w1.heap.size]? = some (.cells #[.int .i64 0, .int .i64 0, .pointer none] 72 (0, 0)) := (hc2.block w1.heap.size (by simp)).trans (alloc_new w1 _); have q0 := cell_of_heap hq 0; have q1 := cell_of_heap hq 1; have q2 := cell_of_heap hq 2; simp only [List.getElem?_toArray, List.getElem?_cons_succ, List.getElem?_cons_zero] at q0 q1 q2; have qf := fun j => frozen_of_heap hq j; have hwq : w1.heap.size < w2.heap.size := (Array.getElem?_eq_some_iff.1 hq).1) | skip))
        all_goals
          go_wp2_with fail
          go_meet
          first
            | exact ⟨_, rfl, rfl, three_heap w2 w1.heap.size _ _ _ _ _ _ _ hq, Nat.le_refl _, ((hb2.setCell (p := ⟨w1.heap.size, 0, none⟩) (Nat.le_refl _) _).setCell (p := ⟨w1.heap.size, 1, none⟩) (Nat.le_refl _) _).setCell (p := ⟨w1.heap.size, 2, none⟩) (Nat.le_refl _) _⟩
            | exact ⟨_, rfl, rfl, alloc_new w2 _, hb2.size, hb2.alloc hb2.size _⟩
      case rest =>
        obtain ⟨b, rfl, rfl, hbx, hbb, hbc⟩ := hcut
        have g0 := cell_of_heap hbx.out 0
        have g1 := cell_of_heap hbx.out 1
        have g2 := cell_of_heap hbx.out 2
        simp only [List.getElem?_toArray, List.getElem?_cons_succ, List.getElem?_cons_zero] at g0 g1 g2
        have hbz : b < wc.heap.size := (Array.getElem?_eq_some_iff.1 hbx.out).1
        obtain ⟨-, ⟨z0, z1, z2⟩, zf⟩ := HB.out _ (HB1.out _ hbc)
        have hsc := hbc.size
        have hz2 : w.heap.size + 1 + 1 < wc.heap.size := by omega
        have hnb : w.heap.size + 1 + 1 ≠ b := by omega
        have hnb2 : b ≠ w.heap.size + 1 + 1 := by omega
        have hdc : Below wc.heap.size wc wc.drew := (Below.refl _ _).drew
        go_wp2_with fail
        go_region_held3 (fun wx => wx.cell? ⟨b, 0, none⟩ = some (.int .i64 x.session) ∧ wx.cell? ⟨b, 1, none⟩ = some (.int .i64 x.mode) ∧ wx.cell? ⟨b, 2, none⟩ = some (.pointer (some ⟨ad x.node, 0, none⟩))) (go_keep) (fail)
        go_wp2_with fail
        have hbw := (((HOld.out _ (HB1.out _ hbc)).1.setCell (p := ⟨w.heap.size + 1 + 1, 0, none⟩) (by simp; omega) (.int .i64 x.session)).setCell (p := ⟨w.heap.size + 1 + 1, 1, none⟩) (by simp; omega) (.int .i64 x.mode)).setCell (p := ⟨w.heap.size + 1 + 1, 2, none⟩) (by simp; omega) (.pointer (some ⟨ad x.node, 0, none⟩))
        refine bodyPost_ret (v := .tuple #[.pointer (some ⟨lb, 0, none⟩), .agg #[.int .i64 x.session, .int .i64 x.mode, .pointer (some ⟨ad x.node, 0, none⟩)], .int .i64 0]) (by simp [results, Try.results41, go_sem, z0, z1, z2]) rfl ?_
        have hgc := HGr.out.below (Nat.le_refl _) (hbc.mono (Nat.le_of_lt HLk.out.lt.2))
        have hlc := HLk.out.below (Nat.le_refl _) hbc
        have hcb := (hbc.trans (Below.refl _ _))
        refine .inr ⟨lb, tb, ad, up, kv, rfl, HC2.out.symm, ?_, ?_, hbw.drew⟩
        · have := hgc.kept (w' := (((wc.setCell ⟨w.heap.size + 1 + 1, 0, none⟩ (.int .i64 x.session)).setCell ⟨w.heap.size + 1 + 1, 1, none⟩ (.int .i64 x.mode)).setCell ⟨w.heap.size + 1 + 1, 2, none⟩ (.pointer (some ⟨ad x.node, 0, none⟩))).drew) (fun b h1 _ => three_other wc (w.heap.size + 1 + 1) (.int .i64 x.session) (.int .i64 x.mode) (.pointer (some ⟨ad x.node, 0, none⟩)) b (by have := (HOld.out W0 (Below.refl _ _)).2; omega))
          exact this.below (by have := (HOld.out W0 (Below.refl _ _)).2; omega) (Below.refl _ _)
        · have := hlc.aside (b := w.heap.size + 1 + 1) (w' := (((wc.setCell ⟨w.heap.size + 1 + 1, 0, none⟩ (.int .i64 x.session)).setCell ⟨w.heap.size + 1 + 1, 1, none⟩ (.int .i64 x.mode)).setCell ⟨w.heap.size + 1 + 1, 2, none⟩ (.pointer (some ⟨ad x.node, 0, none⟩))).drew) (by have := (HOld.out W0 (Below.refl _ _)).2; omega) (three_other wc (w.heap.size + 1 + 1) (.int .i64 x.session) (.int .i64 x.mode) (.pointer (some ⟨ad x.node, 0, none⟩)))
          exact ⟨by have := this.1; have := (HOld.out W0 (Below.refl _ _)).2; omega, this.2⟩
end Go.Proofs.Ytfjhpfgffbghdaa
