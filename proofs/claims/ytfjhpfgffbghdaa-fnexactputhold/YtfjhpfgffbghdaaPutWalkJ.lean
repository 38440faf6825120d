/-
  A lock laid into the box of locks: the program's walk; whether there is room for one.
-/
import Derived.Test.YtfjhpfgffbghdaaPutImplJ
namespace Go.Proofs.Ytfjhpfgffbghdaa
open Go.RowKit

theorem lockVals_set {ad : Int → Nat} {L : List PHold} {x : PHold} {p : Nat} (hp : p < L.length) (hat : isAt x.session x.node (L[p]?.getD holdNil) = true) :
    (lockVals ad L).set (p * 3 + 1) (.int .i64 (joinI (L[p]?.getD holdNil).mode x.mode)) = lockVals ad (joinP L x p true) := by
  obtain ⟨hs, hn⟩ := isAt_iff.1 hat
  have e : L = L.take p ++ (L[p]?.getD holdNil :: L.drop (p + 1)) := by
    rw [List.getElem?_eq_getElem hp, Option.getD_some, ← List.drop_eq_getElem_cons hp, List.take_append_drop]
  have hl : (lockVals ad (L.take p)).length = p * 3 := by rw [lockVals_len, List.length_take]; omega
  have h1 : lockVals ad L = lockVals ad (L.take p) ++ (lockCells ad (L[p]?.getD holdNil) ++ lockVals ad (L.drop (p + 1))) := by
    rw [← lockVals_cons, ← lockVals_app, ← e]
  unfold joinP
  rw [h1]
  generalize L[p]?.getD holdNil = y at *
  rw [List.set_append_right _ _ (by omega), hl, show p * 3 + 1 - p * 3 = 1 by omega]
  simp [lockVals_app, lockVals_cons, lockCells, hs, hn]

set_option maxHeartbeats 2000000 in
set_option maxRecDepth 100000 in
theorem hasRoomFor_any (lo n₁ lb tb : Nat) (d : PDoc) (ad : Int → Nat) (up : Int → Option Int) (kv : Int → Value) (L : List PHold) (x : PHold) (w : World) (hown : LocksOwn lo w lb tb ad L) (hgr : Grown n₁ w d tb ad up kv) (hin : ∀ j, j < L.length → (L[j]?.getD holdNil).node ∈ idsOf d.nodes) (hi : x.node ∈ idsOf d.nodes) (hL : L.length ≤ 1048576) (hs : SortedH L) (r : Bool) (hr : r = true ↔ HasAt L x.session x.node ∨ L.length < 30) :
    Calls Try.prog 42 #[.pointer (some ⟨lb, 0, none⟩), lockVal ad x] w fun e w' => e = .returned (.bool r) ∧ Below w.heap.size w w' := by
  have hb0 := (Below.refl w.heap.size w).alloc (Nat.le_refl _) (.cells #[.int .i64 x.session, .int .i64 x.mode, .pointer (some ⟨ad x.node, 0, none⟩)] 72)
  have HPl := hide (placeOf_any lo n₁ lb tb d ad up kv L x.session x.node _ (hown.below (Nat.le_refl _) hb0) (hgr.below hb0) hin hi hL hs)
  have HOwn := hide hown
  have HS := hide hs
  have HR := hide hr
  clear hown hgr hin hi hs hr
  go_enter Try.func42, Try.ntmps42
  go_wp2_with fail
  refine HPl.out.mono ?_
  rintro e w1 ⟨p, q, rfl, hp, hb1⟩
  have hs1 := hb1.size
  simp only [World.size_alloc] at hs1 hb1
  have HHas := hide (place_has HS.out hp.out.1)
  have hbw1 : Below w.heap.size w w1 := hb0.trans (hb1.mono (by omega))
  cases q
  · have HNo : Hid (¬ HasAt L x.session x.node) := fun h => by have := hp.out.2.2 (HHas.out.2 h); cases this
    obtain ⟨_, u, hbox, hrow⟩ := HOwn.out.below (Nat.le_refl _) hbw1
    obtain ⟨a, cap, rfl⟩ := slice_form hrow
    have b1 := cell_of_heap hbox 1
    simp only [List.getElem?_toArray, List.getElem?_cons_succ, List.getElem?_cons_zero] at b1
    have hlb : lb < w1.heap.size := (Array.getElem?_eq_some_iff.1 hbox).1
    have HE : Hid (r = decide ((L.length : Int) < 30)) := by
      rw [Hid, Bool.eq_iff_iff, HR.out, decide_eq_true_eq]
      exact ⟨fun h => by rcases h with h | h; exact absurd h HNo.out; omega, fun h => .inr (by omega)⟩
    clear hbox hrow hp
    go_wp2_with fail
    go_ret
    exact ⟨ret_bool HE.out.symm, hbw1⟩
  · have HE : Hid (r = true) := HR.out.2 (.inl (HHas.out.1 (hp.out.2.1 rfl)))
    clear hp
    go_wp2_with fail
    go_ret
    exact ⟨ret_bool HE.out.symm, hbw1⟩

set_option maxHeartbeats 4000000 in
set_option maxRecDepth 100000 in
theorem put_any (lo lb tb : Nat) (d : PDoc) (ad : Int → Nat) (up : Int → Option Int) (kv : Int → Value) (L : List PHold) (x : PHold) (w : World) (hown : LocksOwn lo w lb tb ad L) (hgr : GrownIn lo lb w d tb ad up kv) (hin : ∀ j, j < L.length → (L[j]?.getD holdNil).node ∈ idsOf d.nodes) (hi : x.node ∈ idsOf d.nodes) (hmx : ModeP x.mode) (hmode : ∀ j, j < L.length → ModeP (L[j]?.getD holdNil).mode) (hL : L.length ≤ 1048575) (hs : SortedH L) :
    Calls Try.prog 43 #[.pointer (some ⟨lb, 0, none⟩), lockVal ad x] w fun e w' => e = .returned (.tuple #[]) ∧ LocksOwn lo w' lb tb ad (putL L x) ∧ Below lb w w' := by
  have hlt := hown.lt
  obtain ⟨W0, hW0⟩ : ∃ W0, W0 = w.alloc (.cells #[.int .i64 x.session, .int .i64 x.mode, .pointer (some ⟨ad x.node, 0, none⟩)] 72) := ⟨_, rfl⟩
  have hb0 : Below w.heap.size w W0 := by rw [hW0]; exact (Below.refl w.heap.size w).alloc (Nat.le_refl _) _
  have hh0 : W0.heap[w.heap.size]? = some (.cells #[.int .i64 x.session, .int .i64 x.mode, .pointer (some ⟨ad x.node, 0, none⟩)] 72 (0, 0)) := by rw [hW0]; exact alloc_new w _
  have hz0 : w.heap.size < W0.heap.size := (Array.getElem?_eq_some_iff.1 hh0).1
  have HPl := hide (placeOf_any lo lo lb tb d ad up kv L x.session x.node W0 (hown.below (Nat.le_refl _) hb0) (hgr.out.below hb0) hin hi (by omega) hs)
  have HO0 := hide (hown.below (Nat.le_refl _) hb0)
  have HS := hide hs
  clear hown hgr hin hi hs
  go_enter Try.func43, Try.ntmps43
  go_wp2_with fail
  rw [← hW0]
  clear hW0
  refine HPl.out.mono ?_
  rintro e w1 ⟨p, r, rfl, hp, hb1⟩
  have hs1 := hb1.size
  have HO1 := hide (HO0.out.below (Nat.le_refl _) hb1)
  have hbw1 : Below lb w w1 := (hb0.mono (by omega)).trans (hb1.mono (by omega))
  have HEq : Hid (putL L x = joinP L x p r) := joinP_eq HS.out hmx.1 hp.out.1 hp.out.2
  have hhk := (hb1.block w.heap.size hz0).trans hh0
  have k0 := cell_of_heap hhk 0
  have k1 := cell_of_heap hhk 1
  have k2 := cell_of_heap hhk 2
  simp only [List.getElem?_toArray, List.getElem?_cons_succ, List.getElem?_cons_zero] at k0 k1 k2
  have hzk : w.heap.size < w1.heap.size := by omega
  obtain ⟨hl, u, hbox, hrow⟩ := HO1.out
  have b1 := cell_of_heap hbox 1
  have bf := fun o => frozen_of_heap hbox o
  simp only [List.getElem?_toArray, List.getElem?_cons_succ, List.getElem?_cons_zero] at b1
  have hzb : lb < w1.heap.size := by omega
  have HBox := hide hbox
  have HRow := hide hrow
  cases r
  · have hpl : p ≤ L.length := hp.out.1.1
    obtain ⟨a, cap, rfl⟩ := slice_form hrow
    have hob : (Value.slice a L.length cap).ownBlock ≠ some (w1.drew.heap.size) := fun e => by have := (hrow.lt _ e).2; simp at this
    have HIns : Hid (Calls Try.prog 70 #[.slice a L.length cap, .int .i64 p, .slice (some ⟨w1.heap.size, 0, none⟩) 1 1] (w1.alloc (.cells #[.int .i64 x.session, .int .i64 x.mode, .pointer (some ⟨ad x.node, 0, none⟩)] 72)).drew fun e w' => ∃ v', e = .returned v' ∧ w'.ownsRow (lb + 1) 72 3 v' (L.length + 1) (lockVals ad (L.take p ++ x :: L.drop p)) ∧ Below (lb + 1) w1 w') :=
      (insertLock_any ad (lb + 1) w1.heap.size p _ L x _ (hrow.drew.alloc _) (alloc_new w1.drew _) hob hpl (by omega) (by simp; omega)).mono fun e w' ⟨v', he, h1, h2⟩ => ⟨v', he, h1, ((Below.refl (lb + 1) w1).drew.alloc (by simp; omega) _).trans h2⟩
    clear hp hrow hbox hhk
    go_wp2_with fail
    go_region_law (go_simp; refine HIns.out.mono ?_; rintro e w3 ⟨v', rfl, hr3, hb3⟩; obtain ⟨a3, c3, rfl⟩ := slice_form hr3; have hbx3 := (hb3.block lb (by omega)).trans HBox.out; have c1 := cell_of_heap hbx3 1; simp only [List.getElem?_toArray, List.getElem?_cons_succ, List.getElem?_cons_zero] at c1; have cf := fun o => frozen_of_heap hbx3 o; have hz3 : lb < w3.heap.size := (Array.getElem?_eq_some_iff.1 hbx3).1)
    all_goals
      have HEnd : Hid (LocksOwn lo (w3.setCell ⟨lb, 1, none⟩ (.slice a3 (L.length + 1) c3)) lb tb ad (putL L x)) := by
        rw [Hid, HEq.out]
        refine LocksOwn.put (K := joinP L x p false) hl HBox.out hb3 ?_
        have e : (joinP L x p false).length = L.length + 1 := by simp [joinP]; omega
        rw [e]; exact hr3
      have HB3 : Hid (Below lb w (w3.setCell ⟨lb, 1, none⟩ (.slice a3 (L.length + 1) c3))) := (hbw1.trans (hb3.mono (by omega))).setCell (p := ⟨lb, 1, none⟩) (Nat.le_refl _) _
      clear hr3 hbx3
      exact bodyPost_end (v := .tuple #[]) (results_none rfl _ _ _) rfl ⟨rfl, HEnd.out, HB3.out⟩
  · obtain ⟨hpl, hat⟩ := hp.out.2.1 rfl
    obtain ⟨g, cap, rfl, hgz, hgb⟩ := row_block hrow (by omega)
    have hA := row_lockAt hrow hpl
    have g1 := hA.c1
    have gf := fun o => hrow.frozenAt o
    have HSt := hide (hrow.stored (p * 3 + 1) (.int .i64 (joinI (L[p]?.getD holdNil).mode x.mode))).1
    have HSe := hide (@lockVals_set ad L x p hpl hat)
    have HJ : Hid (∀ wx, Calls Try.prog 69 #[.int .i64 (L[p]?.getD holdNil).mode, .int .i64 x.mode] wx fun e w' => e = .returned (.int .i64 (joinI (L[p]?.getD holdNil).mode x.mode)) ∧ w' = wx) := fun wx => implJoin_any _ _ (hmode p hpl) hmx wx
    have hplc : p < cap := by
      obtain ⟨_, ⟨e, h0⟩ | ⟨g', c, cur, e, _, _, h1, _⟩⟩ := hrow
      · cases e
      · simp only [Value.slice.injEq, Option.some.injEq, Addr.mk.injEq, and_true, true_and] at e; omega
    have hpl1 : (p : Int) < (L.length : Int) := by omega
    have HLen : Hid ((joinP L x p true).length = L.length) := by simp [Hid, joinP]; omega
    have hgne : g ≠ lb := by omega
    clear hp hrow hbox hhk hA hat
    generalize (L[p]?.getD holdNil).mode = m0 at *
    go_wp2_with fail
    go_region_law (go_simp; refine (HJ.out _).mono ?_; rintro e w3 ⟨rfl, rfl⟩)
    all_goals
      refine bodyPost_end (v := .tuple #[]) (results_none rfl _ _ _) rfl ⟨rfl, ?_, ?_⟩
      · rw [HEq.out]
        have hst := HSt.out
        rw [HSe.out] at hst
        exact ⟨hl, .slice (some ⟨g, 0, none⟩) L.length cap, (heap_setCell_other _ _ _ _ (by exact hgne.symm)).trans HBox.out, by rw [HLen.out]; exact hst⟩
      · exact (hbw1.setCell (p := ⟨g, p * 3 + 1, none⟩) (by simp; omega) _).drew
end Go.Proofs.Ytfjhpfgffbghdaa
