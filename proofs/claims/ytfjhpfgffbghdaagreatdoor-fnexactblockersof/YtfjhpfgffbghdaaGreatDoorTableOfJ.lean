/-
  What the program's tableOf answers: the locks and the waits of a right table in memory, or that it is not right.
-/
import Derived.Test.YtfjhpfgffbghdaaGreatDoorJoinH
import Derived.Test.YtfjhpfgffbghdaaGreatDoorJoinG
import Derived.Deep.RegionHeld3
namespace Go.Proofs.YtfjhpfgffbghdaaGreatDoor
open Go.RowKit Go.Shelf

/-- The box of a table, and its list of waits, which is its own. -/
def WaitsOwn (w : World) (fb lb : Nat) (ad : Int → Nat) (W : List PHold) : Prop :=
  lb < fb ∧ ∃ u, w.heap[fb]? = some (.cells #[.pointer (some ⟨lb, 0, none⟩), u] 98 (0, 0)) ∧ w.ownsRow (fb + 1) 109 3 u W.length (lockVals ad W)

def TabPost (w : World) (d : PDoc) (t : PTab) (e : Ending) (w' : World) : Prop :=
  (e = .returned (.tuple #[.pointer none, .bool false]) ∧ Hid (¬ TabP d t) ∧ Below w.heap.size w w') ∨
  (∃ (fb lb tb : Nat) (ad : Int → Nat) (up : Int → Option Int) (kv : Int → Value), e = .returned (.tuple #[.pointer (some ⟨fb, 0, none⟩), .bool true]) ∧ Hid (TabP d t) ∧ GrownIn w.heap.size lb w' d tb ad up kv ∧ LocksOwn w.heap.size w' lb tb ad t.holds ∧ (∃ m, LocksOwn w.heap.size m lb tb ad t.holds ∧ m.heap.size ≤ fb ∧ Below fb m w') ∧ WaitsOwn w' fb lb ad t.waits ∧ Below w.heap.size w w')

theorem own_far {w : World} {B : Nat} {e : TypeId} {size : Nat} {v : Value} {n : Nat} {xs : List Value} {mb m : Nat} {S : List Int} (h : w.ownsRow B e size v n xs) (hs : IntSet w mb m S) : v.ownBlock ≠ some mb := by
  obtain ⟨_, ⟨rfl, _⟩ | ⟨g, cap, cur, rfl, _, hh, _⟩⟩ := h
  · simp [Value.ownBlock]
  · intro e
    simp only [Value.ownBlock, Option.some.injEq] at e
    exact hs.far hh e

set_option maxHeartbeats 8000000 in
set_option maxRecDepth 100000 in
theorem tableOf_any (n₀ : Nat) (d : PDoc) (s v : Value) (t : PTab) (w : World) (hN : NodesAt n₀ w s d.nodes) (hV : TabAt n₀ w v t) (hn : n₀ ≤ w.heap.size) (hl : d.nodes.length ≤ 1048576) (hwf : WfDoc d) (S : SmallT t) :
    Calls Tryz.prog 56 #[.agg #[.int .i64 d.root, .int .i64 d.next, s], v] w (TabPost w d t) := by
  obtain ⟨i0, hinf, hq0, hq1, hq2⟩ := info_parts lockInfo
  obtain ⟨vh, vw, rfl, hVh, hVw⟩ := hV
  obtain ⟨W0, hW0⟩ : ∃ W0, W0 = (w.alloc (.cells #[.int .i64 d.root, .int .i64 d.next, s] 38)).alloc (.cells #[vh, vw] 32) := ⟨_, rfl⟩
  have hw0 : Below w.heap.size w W0 := by rw [hW0]; exact ((Below.refl w.heap.size w).alloc (Nat.le_refl _) _).alloc (by simp) _
  have hs0 : W0.heap.size = w.heap.size + 1 + 1 := by rw [hW0]; simp
  have hh1 : W0.heap[w.heap.size + 1]? = some (.cells #[vh, vw] 32 (0, 0)) := by
    rw [hW0]
    have := alloc_new (w.alloc (.cells #[.int .i64 d.root, .int .i64 d.next, s] 38)) (.cells #[vh, vw] 32)
    simpa using this
  have HOld : Hid (∀ wx, Below W0.heap.size W0 wx → Below w.heap.size w wx ∧ w.heap.size + 1 + 1 ≤ wx.heap.size) := fun wx hb => ⟨hw0.trans (hb.mono (by omega)), by have := hb.size; omega⟩
  have HB : Hid (∀ wx, Below W0.heap.size W0 wx → wx.cell? ⟨w.heap.size + 1, 0, none⟩ = some vh ∧ wx.cell? ⟨w.heap.size + 1, 1, none⟩ = some vw) := fun wx hb => by
    have j1 := (hb.block (w.heap.size + 1) (by omega)).trans hh1
    exact ⟨cell_of_heap j1 0, cell_of_heap j1 1⟩
  have HLo := hide (locksOf_any n₀ d s vh t.holds W0 (hN.below (Nat.le_refl _) (hw0.mono hn)) (hVh.below (Nat.le_refl _) (hw0.mono hn)) (by omega) hl hwf S.1)
  have hVw0 := hVw.below (n₁ := W0.heap.size) (by omega) (hw0.mono hn)
  obtain ⟨ha, hcap, rfl⟩ := hVh.form
  obtain ⟨wa, wcap, rfl, hk⟩ := hVw0
  obtain ⟨sa, sc, rfl, -⟩ := hN
  have HW0s := hide hs0
  have hSw := S.2
  clear hwf hVh hVw hh1 hw0 S hs0
  go_enter Tryz.func56, Tryz.ntmps56
  go_wp2_with fail
  rw [← hW0]
  clear hW0
  refine HLo.out.mono ?_
  rintro e w1 (⟨c, rfl, hc, hc1, hb1⟩ | ⟨lb, tb, ad, up, kv, rfl, hok, hgr, hlk, hb1⟩)
  · have HE : Hid (¬ TabP d t) := fun h => hc.out.1 (hc.out.2.trans (heldAsk_ok h.locks))
    obtain ⟨hbw, -⟩ := HOld.out _ hb1
    go_wp2_with fail
    go_ret2
    exact .inl ⟨rfl, HE, hbw⟩
  · obtain ⟨hbw, hbs⟩ := HOld.out _ hb1
    obtain ⟨x0, x1⟩ := HB.out _ hb1
    have hz1 : w.heap.size + 1 < w1.heap.size := by omega
    have hsz01 := hb1.size
    have HGr := hide hgr
    have HLk := hide hlk
    have hltb := hlk.lt
    have htc : w1.cell? ⟨lb, 0, none⟩ = some (.pointer (some ⟨tb, 0, none⟩)) := hlk.at.2.1
    clear hgr hlk
    by_cases h6 : (6 : Int) < (t.waits.length : Int)
    · have HE : Hid (¬ TabP d t) := fun h => by have := h.waits.len; omega
      go_wp2_with fail
      go_ret2
      exact .inl ⟨rfl, HE, hbw⟩
    · obtain ⟨fb, hfb⟩ : ∃ fb, fb = w1.heap.size := ⟨_, rfl⟩
      obtain ⟨W2, hW2⟩ : ∃ W2, W2 = w1.alloc (.cells #[.pointer (some ⟨lb, 0, none⟩), .slice none 0 0] 98) := ⟨_, rfl⟩
      have H2 : Hid (W2.heap[fb]? = some (.cells #[.pointer (some ⟨lb, 0, none⟩), .slice none 0 0] 98 (0, 0))) := by rw [hfb, hW2]; exact alloc_new w1 _
      have hB2 : Below fb w1 W2 := by rw [hfb, hW2]; exact (Below.refl _ _).alloc (Nat.le_refl _) _
      have hs2 : fb < W2.heap.size := (Array.getElem?_eq_some_iff.1 H2.out).1
      have hfb1 : fb ≤ w1.heap.size := by omega
      have hfb2 : w1.heap.size ≤ fb := by omega
      have HSo := hide (setOf_none W2)
      go_wp2_with fail
      rw [← hW2]
      rw [← hfb]
      clear hW2 hfb
      refine HSo.out.mono ?_
      rintro e w3 ⟨rfl, hset, hb3⟩
      have hs3 := hb3.size
      obtain ⟨mb, hmb⟩ : ∃ mb, mb = W2.heap.size := ⟨_, rfl⟩
      rw [← hmb] at hset
      have H3 : Hid (w3.heap[fb]? = some (.cells #[.pointer (some ⟨lb, 0, none⟩), .slice none 0 0] 98 (0, 0))) := (hb3.block fb hs2).trans H2.out
      have hB3 : Below fb w1 w3 := hB2.trans (hb3.mono (by omega))
      have HNone := hide (World.ownsRow_nil w3 (fb + 1) 109 3)
      have HSet := hide hset
      have HOld1 : Hid (∀ wx, Below fb w1 wx → Below W0.heap.size W0 wx) := fun wx hb => hb1.trans (hb.mono (by omega))
      have hfm : fb < mb := by omega
      have hmz : mb < w3.heap.size := hset.lt
      obtain ⟨x2, x3⟩ := HB.out _ (HOld1.out _ hB3)
      have hz3 : w.heap.size + 1 < w3.heap.size := by omega
      rw [← hmb]
      clear hset hmb x0 x1
      go_wp2_with fail
      clear x2 x3
      go_loopw [36] (fun i wr => ∃ (k n : Nat) (u : Value), k ≤ t.waits.length ∧ n ≤ k ∧ i = .int .i64 k ∧ Hid (∀ j, j < k → WaitAt d t.waits j) ∧ Hid (wr.heap[fb]? = some (.cells #[.pointer (some ⟨lb, 0, none⟩), u] 98 (0, 0))) ∧ Hid (wr.ownsRow (fb + 1) 109 3 u k (lockVals ad (t.waits.take k))) ∧ Hid (∃ S, IntSet wr mb n S ∧ ∀ q, q ∈ S ↔ q ∈ sessOf (t.waits.take k)) ∧ Below fb w1 wr ∧ fb < wr.heap.size ∧ mb < wr.heap.size) (fun i _ => t.waits.length - (intOf i).toNat)
      case atStart => exact ⟨0, 0, .slice none 0 0, Nat.zero_le _, Nat.le_refl _, rfl, fun j hj => absurd hj (by omega), H3, HNone, ⟨[], HSet.out, fun q => by simp [sessOf]⟩, hB3, by omega, hmz⟩
      case round =>
        obtain ⟨k, n, u, hkl, hnk, rfl, hall, hbox, hrow, hset, hbr, hfr, hmr⟩ := hrel
        have hb0r := HOld1.out _ hbr
        by_cases hlt : k < t.waits.length
        · obtain ⟨b, off, rfl, hb, hcc⟩ := hk.resolve_left (by intro e; simp [e] at hlt)
          have hA := (hcc k hlt).below hb hb0r
          have g0 := hA.c0
          have g1 := hA.c1
          have g2 := hA.c2
          have hlt1 : (k : Int) < (t.waits.length : Int) := by omega
          have hbl : b < wr.heap.size := by have := hb0r.size; omega
          obtain ⟨W3, hW3⟩ : ∃ W3, W3 = wr.alloc (.cells #[.int .i64 (t.waits[k]?.getD holdNil).session, .int .i64 (t.waits[k]?.getD holdNil).node, .int .i64 (t.waits[k]?.getD holdNil).mode] 86) := ⟨_, rfl⟩
          have hb3 : Below wr.heap.size wr W3 := by rw [hW3]; exact (Below.refl _ _).alloc (Nat.le_refl _) _
          have hh3 : W3.heap[wr.heap.size]? = some (.cells #[.int .i64 (t.waits[k]?.getD holdNil).session, .int .i64 (t.waits[k]?.getD holdNil).node, .int .i64 (t.waits[k]?.getD holdNil).mode] 86 (0, 0)) := by rw [hW3]; exact alloc_new wr _
          have hz3 : wr.heap.size < W3.heap.size := (Array.getElem?_eq_some_iff.1 hh3).1
          obtain ⟨c, hcc2⟩ : ∃ c, c = ofCode d (t.waits[k]?.getD holdNil) := ⟨_, rfl⟩
          obtain ⟨r, hr⟩ : ∃ r, r = decide (c = 0) := ⟨_, rfl⟩
          have hbr3 : Below fb w1 W3 := hbr.trans (hb3.mono (by omega))
          have HGr3 := hide (HGr.out.below (Nat.le_refl _) (hbr3.mono (by omega)))
          have HLf : Hid (∀ wx, Below W3.heap.size W3 wx → Calls Tryz.prog 88 #[.pointer (some ⟨tb, 0, none⟩), holdVal (t.waits[k]?.getD holdNil)] wx fun e w' => e = .returned (.tuple #[lockRes ad (t.waits[k]?.getD holdNil) r, .int .i64 c]) ∧ Below W3.heap.size W3 w' ∧ Below wx.heap.size wx w') := fun wx hbx =>
            (lockOf_any d hok.out.good _ tb ad up kv wx (HGr3.out.out.below hbx) (t.waits[k]?.getD holdNil) c hcc2 r hr).mono fun e w' ⟨he, hb'⟩ => ⟨he, hbx.trans (hb'.mono hbx.size), hb'⟩
          have HCc := hide hcc2
          have HRr := hide hr
          have HSk := hide (sessOf_take hlt)
          have HMem := hide (fun s => @mem_sess t.waits k s (by omega))
          have HWa : Hid (WaitAt d t.waits k ↔ HoldP d (t.waits[k]?.getD holdNil) ∧ (t.waits[k]?.getD holdNil).session ∉ sessOf (t.waits.take k)) := Iff.rfl
          have HTk : Hid (lockVals ad (t.waits.take (k + 1)) = lockVals ad (t.waits.take k) ++ lockCells ad (t.waits[k]?.getD holdNil)) := by
            rw [Hid, List.take_succ_eq_append_getElem hlt, lockVals_snoc, List.getElem?_eq_getElem hlt, Option.getD_some]
          clear hcc2 hr hA hcc
          generalize t.waits[k]?.getD holdNil = x at *
          have htc3 := ((hbr3.cell (p := ⟨lb, 0, none⟩) (by show lb < fb; omega)).trans htc)
          have HS : Hid (∀ wx, Below W3.heap.size W3 wx → wx.cell? ⟨lb, 0, none⟩ = some (.pointer (some ⟨tb, 0, none⟩)) ∧ wx.cell? ⟨wr.heap.size, 0, none⟩ = some (.int .i64 x.session) ∧ wx.cell? ⟨wr.heap.size, 1, none⟩ = some (.int .i64 x.node) ∧ wx.cell? ⟨wr.heap.size, 2, none⟩ = some (.int .i64 x.mode)) := fun wx hbx => by
            have j := (hbx.block wr.heap.size hz3).trans hh3
            exact ⟨(hbx.cell (p := ⟨lb, 0, none⟩) (by show lb < W3.heap.size; omega)).trans htc3, cell_of_heap j 0, cell_of_heap j 1, cell_of_heap j 2⟩
          have hd3 : Below W3.heap.size W3 W3.drew := (Below.refl _ _).drew
          go_wp2_with fail
          rw [← hW3]
          clear hW3
          cases r
          · have hc20 : c ≠ 0 := by have := HRr.out; intro h; rw [h] at this; revert this; decide
            have hc21 : (c != 0) = true := by simp [hc20]
            have HE : Hid (¬ TabP d t) := fun h => by
              have := (HWa.out.1 (h.waits.ok k hlt)).1
              exact hc20 (HCc.out.trans (ofCode_zero.2 this))
            clear hc20
            go_cut [12, 13] (fun v12 v13 wc => ∃ b, v12 = .pointer (some ⟨b, 0, none⟩) ∧ v13 = .int .i64 c ∧ Hid (wc.heap[b]? = some (.cells #[.int .i64 0, .int .i64 0, .pointer none] 109 (0, 0))) ∧ W3.heap.size ≤ b ∧ Below W3.heap.size W3 wc)
            case first =>
              go_region_held3 (fun wx => wx.cell? ⟨lb, 0, none⟩ = some (.pointer (some ⟨tb, 0, none⟩)) ∧ wx.cell? ⟨wr.heap.size, 0, none⟩ = some (.int .i64 x.session) ∧ wx.cell? ⟨wr.heap.size, 1, none⟩ = some (.int .i64 x.node) ∧ wx.cell? ⟨wr.heap.size, 2, none⟩ = some (.int .i64 x.mode)) (first | exact HS.out _ (by assumption) | exact HS.out _ (hb2.alloc hb2.size _) | exact HS.out _ (((hb2.setCell (p := ⟨W3.heap.size, 0, none⟩) (Nat.le_refl _) _).setCell (p := ⟨W3.heap.size, 1, none⟩) (Nat.le_refl _) _).setCell (p := ⟨W3.heap.size, 2, none⟩) (Nat.le_refl _) _) | exact HS.out _ (((Below.refl W3.heap.size W3).alloc (Nat.le_refl _) _).drew) | exact HS.out _ ((Below.refl W3.heap.size W3).alloc (Nat.le_refl _) _) | go_keep)
                (first
                  | (go_at_call 88; refine (HLf.out _ (by first | assumption | exact ((Below.refl _ _).alloc (Nat.le_refl _) _).drew | exact (Below.refl _ _).alloc (Nat.le_refl _) _)).mono ?_; rintro e w2 ⟨rfl, hb2, hc2⟩; first | (have hq : w2.heap[W3.heap.size]? = some (.cells #[.int .i64 0, .int .i64 0, .pointer none] 109 (0, 0)) := (hc2.block W3.heap.size (by simp)).trans (alloc_new W3 _); have q0 := cell_of_heap hq 0; have q1 := cell_of_heap hq 1; have q2 := cell_of_heap hq 2; simp only [List.getElem?_toArray, List.getElem?_cons_succ, List.getElem?_cons_zero] at q0 q1 q2; have qf := fun j => frozen_of_heap hq j; have hwq : W3.heap.size < w2.heap.size := (Array.getElem?_eq_some_iff.1 hq).1) | skip))
              all_goals
                go_wp2_with fail
                go_meet
                first
                  | exact ⟨_, rfl, rfl, three_heap w2 W3.heap.size _ _ _ _ _ _ _ hq, Nat.le_refl _, ((hb2.setCell (p := ⟨W3.heap.size, 0, none⟩) (Nat.le_refl _) _).setCell (p := ⟨W3.heap.size, 1, none⟩) (Nat.le_refl _) _).setCell (p := ⟨W3.heap.size, 2, none⟩) (Nat.le_refl _) _⟩
                  | exact ⟨_, rfl, rfl, alloc_new w2 _, hb2.size, hb2.alloc hb2.size _⟩
            case rest =>
              obtain ⟨kb, rfl, rfl, hkb, hkz, hbc⟩ := hcut
              obtain ⟨hbw2, -⟩ := HOld.out _ (HOld1.out _ (hbr3.trans (hbc.mono (by omega))))
              go_wp2_with fail
              go_ret2
              exact .inl ⟨rfl, HE, hbw2⟩
          · have hc20 : c = 0 := by have := HRr.out; simpa using this.symm
            have HP := hide (ofCode_zero.1 (HCc.out.symm.trans hc20))
            subst hc20
            go_cut [12, 13] (fun v12 v13 wc => ∃ b, v12 = .pointer (some ⟨b, 0, none⟩) ∧ v13 = .int .i64 0 ∧ Hid (wc.heap[b]? = some (.cells #[.int .i64 x.session, .int .i64 x.mode, .pointer (some ⟨ad x.node, 0, none⟩)] 109 (0, 0))) ∧ W3.heap.size ≤ b ∧ Below W3.heap.size W3 wc)
            case first =>
              go_region_held3 (fun wx => wx.cell? ⟨lb, 0, none⟩ = some (.pointer (some ⟨tb, 0, none⟩)) ∧ wx.cell? ⟨wr.heap.size, 0, none⟩ = some (.int .i64 x.session) ∧ wx.cell? ⟨wr.heap.size, 1, none⟩ = some (.int .i64 x.node) ∧ wx.cell? ⟨wr.heap.size, 2, none⟩ = some (.int .i64 x.mode)) (first | exact HS.out _ (by assumption) | exact HS.out _ (hb2.alloc hb2.size _) | exact HS.out _ (((hb2.setCell (p := ⟨W3.heap.size, 0, none⟩) (Nat.le_refl _) _).setCell (p := ⟨W3.heap.size, 1, none⟩) (Nat.le_refl _) _).setCell (p := ⟨W3.heap.size, 2, none⟩) (Nat.le_refl _) _) | exact HS.out _ (((Below.refl W3.heap.size W3).alloc (Nat.le_refl _) _).drew) | exact HS.out _ ((Below.refl W3.heap.size W3).alloc (Nat.le_refl _) _) | go_keep)
                (first
                  | (go_at_call 88; refine (HLf.out _ (by first | assumption | exact ((Below.refl _ _).alloc (Nat.le_refl _) _).drew | exact (Below.refl _ _).alloc (Nat.le_refl _) _)).mono ?_; rintro e w2 ⟨rfl, hb2, hc2⟩; first | (have hq : w2.heap[W3.heap.size]? = some (.cells #[.int .i64 0, .int .i64 0, .pointer none] 109 (0, 0)) := (hc2.block W3.heap.size (by simp)).trans (alloc_new W3 _); have q0 := cell_of_heap hq 0; have q1 := cell_of_heap hq 1; have q2 := cell_of_heap hq 2; simp only [List.getElem?_toArray, List.getElem?_cons_succ, List.getElem?_cons_zero] at q0 q1 q2; have qf := fun j => frozen_of_heap hq j; have hwq : W3.heap.size < w2.heap.size := (Array.getElem?_eq_some_iff.1 hq).1) | skip))
              all_goals
                go_wp2_with fail
                go_meet
                first
                  | exact ⟨_, rfl, rfl, three_heap w2 W3.heap.size _ _ _ _ _ _ _ hq, Nat.le_refl _, ((hb2.setCell (p := ⟨W3.heap.size, 0, none⟩) (Nat.le_refl _) _).setCell (p := ⟨W3.heap.size, 1, none⟩) (Nat.le_refl _) _).setCell (p := ⟨W3.heap.size, 2, none⟩) (Nat.le_refl _) _⟩
                  | exact ⟨_, rfl, rfl, alloc_new w2 _, hb2.size, hb2.alloc hb2.size _⟩
            case rest =>
              obtain ⟨kb, rfl, rfl, hkb, hkz, hbc⟩ := hcut
              obtain ⟨w4, hw4⟩ : ∃ w4, w4 = wc := ⟨_, rfl⟩
              rw [← hw4] at hkb hbc ⊢
              clear hw4
              have hz4 := hbc.size
              have hbr4 : Below wr.heap.size wr w4 := hb3.trans (hbc.mono (by omega))
              have hb14 : Below fb w1 w4 := hbr.trans (hbr4.mono (by omega))
              obtain ⟨S, hS, hSi⟩ := hset.out
              have HSi := hide hSi
              have HS4 := hide (hS.below hbr4)
              have HRow4 := hide (ownsRow_below hrow.out hbr4)
              have HBox4 := hide ((hbr4.block fb hfr).trans hbox.out)
              obtain ⟨-, y0, y1, y2⟩ := HS.out _ hbc
              have hzx : wr.heap.size < w4.heap.size := by omega
              obtain ⟨q, hq⟩ : ∃ q, q = decide (x.session ∈ S) := ⟨_, rfl⟩
              have HQ := hide hq
              have HHas := hide (has_any mb n S x.session w4 HS4.out (wf64_of (by have := HP.out.1; omega) (by have := HP.out.1; omega)) q hq)
              have hzk : kb < w4.heap.size := (Array.getElem?_eq_some_iff.1 hkb.out).1
              clear hS hSi hset hq HS
              cases q
              · have HNew : Hid (x.session ∉ sessOf (t.waits.take k)) := fun h => by
                  have := HQ.out; rw [eq_comm, decide_eq_false_iff_not] at this; exact this ((HSi.out _).2 h)
                go_wp2_with fail
                refine HHas.out.mono ?_
                rintro e w5 ⟨rfl, hb5⟩
                have hz5 := hb5.size
                have HAdd := hide (add_any mb n S x.session w5 (HS4.out.below hb5) (by omega) (wf64_of (by have := HP.out.1; omega) (by have := HP.out.1; omega)))
                have h5x := (hb5.cell (p := ⟨wr.heap.size, 0, none⟩) hzx).trans y0
                have hzx5 : wr.heap.size < w5.heap.size := by omega
                have HS5 := hide (HS4.out.below hb5)
                have HRow5 := hide (ownsRow_below HRow4.out hb5)
                have HBox5 := hide ((hb5.block fb (by omega)).trans HBox4.out)
                have hkb5 := hide ((hb5.block kb hzk).trans hkb.out)
                have hb15 : Below fb w1 w5 := hb14.trans (hb5.mono (by omega))
                clear y0 y1 y2
                go_wp2_with fail
                refine HAdd.out.mono ?_
                rintro e w6 ⟨rfl, hS6, hgr6⟩
                have hz6 := hgr6.size
                have hfarR : u.ownBlock ≠ some mb := own_far HRow5.out HS5.out
                have HRow6 := hide (HRow5.out.kept hgr6 (Or.inr hfarR))
                have HBox6 : Hid (w6.heap[fb]? = some (.cells #[.pointer (some ⟨lb, 0, none⟩), u] 98 (0, 0))) := (hgr6.block fb (by omega) (by intro e; simp at e; omega)).trans HBox5.out
                have hkb6 : w6.heap[kb]? = some (.cells #[.int .i64 x.session, .int .i64 x.mode, .pointer (some ⟨ad x.node, 0, none⟩)] 109 (0, 0)) := (hgr6.block kb (by omega) (by intro e; simp at e; omega)).trans hkb5.out
                have hb16 : Below fb w1 w6 := hb15.grown hgr6 (by omega) (fun g hg => by simp at hg; omega)
                have HS6 := hide hS6
                have q0 := cell_of_heap hkb6 0
                have q1 := cell_of_heap hkb6 1
                have q2 := cell_of_heap hkb6 2
                have b1 := cell_of_heap HBox6.out 1
                simp only [List.getElem?_toArray, List.getElem?_cons_succ, List.getElem?_cons_zero] at q0 q1 q2 b1
                have hfz : fb < w6.heap.size := by omega
                have hkz6 : kb < w6.heap.size := by omega
                have hmz6 : mb < w6.heap.size := by omega
                have hk6 : k ≤ 6 := by omega
                have HRowd : Hid (w6.drew.ownsRow (fb + 1) 109 3 u k (lockVals ad (t.waits.take k))) := HRow6.out
                have HA2 : Hid (∀ j, j < k + 1 → WaitAt d t.waits j) := fun j hj => by
                  by_cases e : j = k
                  · subst e; exact HWa.out.2 ⟨HP.out, HNew.out⟩
                  · exact hall.out j (by omega)
                have HSi2 : Hid (∀ q, q ∈ x.session :: S ↔ q ∈ sessOf (t.waits.take (k + 1))) := fun q => by
                  rw [HSk.out, List.mem_append, List.mem_cons, List.mem_singleton, HSi.out, or_comm]
                clear hS6 hgr6 hkb6 h5x
                go_wp2_with fail
                go_region_law (refine step_append_lies _ rfl (.tmp 65) (.tmp 67) 96 rfl (fb + 1) 109 i0 (.agg #[.int .i64 0, .int .i64 0, .pointer none]) 3 24 Tryz.underlying96 hinf hq0 hq1 hq2 rfl (by decide) _ _ _ rfl (HRowd.out.alloc _) ⟨w6.heap.size, 0, none⟩ 1 1 (lockCells ad x) rfl rfl (World.news_of_block (alloc_new w6.drew _)) (lockCells_one ad x) (by decide) (by unfold maxLen; omega) (by omega) (by simp; omega) _ rfl ?_; intro g7 c7 w7 hown7 hgrow7 hgg7 hlt7; have HBx7 := hide (box_grow (HRowd.out.alloc _) hgrow7 (by decide) ((Below.heap_alloc w6.drew _ fb hfz).trans HBox6.out)); have d0 := cell_of_heap HBx7.out 1; have d1 := frozen_of_heap HBx7.out 1)
                all_goals
                  have hb7 : Below fb w1 w7 := (hb16.drew.alloc (by simp; omega) _).grown hgrow7 (by simp; omega) (fun g' hg' => by have := (HRowd.out.lt g' hg').1; omega)
                  have HB8 := hide (hb7.setCell (p := ⟨fb, 1, none⟩) (Nat.le_refl _) (.slice (some ⟨g7, 0, none⟩) (k + 1) c7))
                  have HX8 : Hid ((w7.setCell ⟨fb, 1, none⟩ (.slice (some ⟨g7, 0, none⟩) (k + 1) c7)).heap[fb]? = some (.cells #[.pointer (some ⟨lb, 0, none⟩), .slice (some ⟨g7, 0, none⟩) (k + 1) c7] 98 (0, 0))) := by
                    rw [Hid, heap_setCell_same _ _ _ _ _ _ HBx7.out]; rfl
                  have HR8 : Hid ((w7.setCell ⟨fb, 1, none⟩ (.slice (some ⟨g7, 0, none⟩) (k + 1) c7)).ownsRow (fb + 1) 109 3 (.slice (some ⟨g7, 0, none⟩) (k + 1) c7) (k + 1) (lockVals ad (t.waits.take (k + 1)))) := by
                    rw [Hid, HTk.out]; exact ownsRow_setCell_other hown7 (own_other hown7 HBx7.out (by decide)) _
                  have HZ8 : Hid (fb < (w7.setCell ⟨fb, 1, none⟩ (.slice (some ⟨g7, 0, none⟩) (k + 1) c7)).heap.size) := (Array.getElem?_eq_some_iff.1 HX8.out).1
                  have HS8 : Hid (∃ S', IntSet (w7.setCell ⟨fb, 1, none⟩ (.slice (some ⟨g7, 0, none⟩) (k + 1) c7)) mb (n + 1) S' ∧ ∀ q, q ∈ S' ↔ q ∈ sessOf (t.waits.take (k + 1))) := by
                    refine ⟨_, HS6.out.heap ?_, HSi2.out⟩
                    rw [heap_setCell_other _ _ _ _ (by show mb ≠ fb; omega), hgrow7.block mb (by simp; omega) (by intro e; exact hfarR e.symm)]
                    exact Below.heap_alloc w6 _ mb hmz6
                  have HZm : Hid (mb < (w7.setCell ⟨fb, 1, none⟩ (.slice (some ⟨g7, 0, none⟩) (k + 1) c7)).heap.size) := by obtain ⟨_, h, _⟩ := HS8.out; exact h.lt
                  clear hown7 hgrow7 hgg7 hb7 d0 d1 q0 q1 q2 b1
                  go_wp2_with fail
                  exact ⟨⟨k + 1, n + 1, _, by omega, by omega, by go_num, HA2, HX8, HR8, HS8, HB8.out, HZ8.out, HZm.out⟩, by simp [intOf]; omega⟩
              · have HE : Hid (¬ TabP d t) := fun h => by
                  have hw := (HWa.out.1 (h.waits.ok k hlt)).2
                  have := HQ.out; rw [eq_comm, decide_eq_true_eq] at this
                  exact hw ((HSi.out _).1 this)
                go_wp2_with fail
                refine HHas.out.mono ?_
                rintro e w5 ⟨rfl, hb5⟩
                obtain ⟨hbw2, -⟩ := HOld.out _ (HOld1.out _ (hb14.trans (hb5.mono (by omega))))
                go_wp2_with fail
                go_ret2
                exact .inl ⟨rfl, HE, hbw2⟩
        · have hkL : k = t.waits.length := by omega
          have HTk : Hid (t.waits.take k = t.waits) := by rw [Hid, hkL, List.take_length]
          have HOK : Hid (TabP d t) := ⟨hok.out, by omega, fun i hi => hall.out i (by omega)⟩
          have HLk2 : Hid (LocksOwn w.heap.size wr lb tb ad t.holds) := HLk.out.below (by have := HW0s.out; omega) (hbr.mono hfb2)
          have HGr2 : Hid (GrownIn w.heap.size lb wr d tb ad up kv) := HGr.out.below (by have := HW0s.out; omega) (hbr.mono (by omega))
          have HM : Hid (∃ m, LocksOwn w.heap.size m lb tb ad t.holds ∧ m.heap.size ≤ fb ∧ Below fb m wr) := ⟨w1, HLk.out.below (by have := HW0s.out; omega) (Below.refl _ _), hfb2, hbr⟩
          have HWo : Hid (WaitsOwn wr fb lb ad t.waits) := by
            have hr := hrow.out
            rw [HTk.out, hkL] at hr
            exact ⟨by omega, u, hbox.out, hr⟩
          have hbw3 := (HOld.out _ hb0r).1
          clear hkL hk
          go_wp2_with fail
          go_ret2
          exact .inr ⟨fb, lb, tb, ad, up, kv, rfl, HOK, HGr2.out, HLk2.out, HM.out, HWo.out, hbw3⟩
end Go.Proofs.YtfjhpfgffbghdaaGreatDoor
