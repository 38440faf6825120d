/-
  What the program's locksOf answers: a tree and its locks in memory of what is right; a code of all else.
-/
import Derived.Test.YtfjhpfgffbghdaaJoinG
import Derived.Test.YtfjhpfgffbghdaaHoldCmpJ
import Derived.Test.YtfjhpfgffbghdaaCalmJ
import Derived.Deep.RegionLaw
namespace Go.Proofs.Ytfjhpfgffbghdaa
open Go.RowKit Go.Shelf

def LocksPost (w : World) (d : PDoc) (L : List PHold) (e : Ending) (w' : World) : Prop :=
  (∃ c : Int, e = .returned (.tuple #[.pointer none, .int .i64 c]) ∧ Hid (c ≠ 0 ∧ c = heldAsk d L) ∧ (c != 0) = true ∧ Below w.heap.size w w') ∨
  (∃ (lb tb : Nat) (ad : Int → Nat) (up : Int → Option Int) (kv : Int → Value), e = .returned (.tuple #[.pointer (some ⟨lb, 0, none⟩), .int .i64 0]) ∧ Hid (LocksP d L) ∧ GrownIn w.heap.size lb w' d tb ad up kv ∧ LocksOwn w.heap.size w' lb tb ad L ∧ Below w.heap.size w w')

theorem lockInfo : (Try.prog.info? 72).map (fun i => (i.zero, i.size, i.bytes)) = some (some (.agg #[.int .i64 0, .int .i64 0, .pointer none]), 3, 24) := by kernel_rfl

theorem lock_one (ad : Int → Nat) (x : PHold) : ∀ u ∈ lockCells ad x, u.oneCell' = true := by
  intro u hu
  simp only [lockCells, List.mem_cons, List.not_mem_nil, or_false] at hu
  rcases hu with rfl | rfl | rfl <;> rfl

theorem box_grow {w w' : World} {B : Nat} {e T : TypeId} {size : Nat} {v : Value} {n : Nat} {xs : List Value} {b : Nat} {cs : Array Value} (h : w.ownsRow B e size v n xs) (hg : w.grownBy w' v.ownBlock) (hT : T ≠ e) (hb : w.heap[b]? = some (.cells cs T (0, 0))) : w'.heap[b]? = some (.cells cs T (0, 0)) :=
  (hg.block b (Array.getElem?_eq_some_iff.1 hb).1 (fun e => own_other h hb hT e.symm)).trans hb

set_option maxHeartbeats 4000000 in
set_option maxRecDepth 100000 in
theorem locksOf_any (n₀ : Nat) (d : PDoc) (s v : Value) (L : List PHold) (w : World) (hN : NodesAt n₀ w s d.nodes) (hV : HoldsAt n₀ w v L) (hn : n₀ ≤ w.heap.size) (hl : d.nodes.length ≤ 1048576) (hwf : WfDoc d) (hL : L.length ≤ 1048576) :
    Calls Try.prog 35 #[.agg #[.int .i64 d.root, .int .i64 d.next, s], v] w (LocksPost w d L) := by
  obtain ⟨i0, hinf, hq0, hq1, hq2⟩ := info_parts lockInfo
  have hW := (Below.refl w.heap.size w).alloc (Nat.le_refl _) (.cells #[.int .i64 d.root, .int .i64 d.next, s] 31)
  have HT : Hid (Calls Try.prog 62 #[.agg #[.int .i64 d.root, .int .i64 d.next, s]] (w.alloc (.cells #[.int .i64 d.root, .int .i64 d.next, s] 31)) (TreePost (w.alloc (.cells #[.int .i64 d.root, .int .i64 d.next, s] 31)) d)) :=
    treeOf_any n₀ d s _ (hN.below (Nat.le_refl _) (hW.mono hn)) (by simp; omega) hl hwf
  obtain ⟨a, cap, rfl, hk⟩ := hV
  obtain ⟨sa, sc, rfl, -⟩ := hN
  clear hwf
  by_cases hlong : (4096 : Int) < (L.length : Int)
  · have HE : Hid ((2 : Int) ≠ 0 ∧ (2 : Int) = heldAsk d L) := ⟨by decide, (heldAsk_long (by omega)).symm⟩
    go_enter Try.func35, Try.ntmps35
    go_wp2_with fail
    go_ret2
    exact .inl ⟨2, rfl, HE, rfl, hW⟩
  have HBad : Hid (¬ LocksP d L → (1 : Int) ≠ 0 ∧ (1 : Int) = heldAsk d L) := fun h => ⟨by decide, (heldAsk_bad (by omega) h).symm⟩
  go_enter Try.func35, Try.ntmps35
  go_wp2_with fail
  refine HT.out.mono ?_
  rintro e w1 (⟨tb, ad, up, kv, rfl, hg, hgr, htb, hb1⟩ | ⟨rfl, hno, hb1⟩)
  · simp only [World.size_alloc] at hb1 hgr htb
    have hs1 := hb1.size
    simp only [World.size_alloc] at hs1
    have hw1 := hW.trans (hb1.mono (by omega))
    have HGr := hide hgr
    have HG := hide hg
    clear hgr hg HT
    by_cases h30 : (30 : Int) < (L.length : Int)
    · have HE := hide (HBad.out fun h => by have := h.holds.len; omega)
      clear hk
      go_wp2_with fail
      go_ret2
      exact .inl ⟨1, rfl, HE.out, rfl, hw1⟩
    · obtain ⟨lb, hlb⟩ : ∃ lb, lb = w1.heap.size := ⟨_, rfl⟩
      obtain ⟨W2, hW2⟩ : ∃ W2, W2 = w1.alloc (.cells #[.pointer (some ⟨tb, 0, none⟩), .slice none 0 0] 81) := ⟨_, rfl⟩
      have H2 : Hid (W2.heap[lb]? = some (.cells #[.pointer (some ⟨tb, 0, none⟩), .slice none 0 0] 81 (0, 0))) := by rw [hlb, hW2]; exact alloc_new w1 _
      have hB2 : Below lb w1 W2 := by rw [hlb, hW2]; exact (Below.refl _ _).alloc (Nat.le_refl _) _
      have hs2 : lb < W2.heap.size := (Array.getElem?_eq_some_iff.1 H2.out).1
      go_wp2_with fail
      rw [← hW2]
      rw [← hlb]
      have HNone := hide (World.ownsRow_nil W2 (lb + 1) 72 3)
      have HLb := hide hlb
      have hlb1 : lb ≤ w1.heap.size := by omega
      have hlb2 : w1.heap.size ≤ lb := by omega
      clear hW2 hlb
      go_loopw [33] (fun i wr => ∃ (k : Nat) (u : Value), k ≤ L.length ∧ i = .int .i64 k ∧ Hid (∀ j, j < k → OkAt d L j) ∧ Hid (wr.heap[lb]? = some (.cells #[.pointer (some ⟨tb, 0, none⟩), u] 81 (0, 0))) ∧ Hid (wr.ownsRow (lb + 1) 72 3 u k (lockVals ad (L.take k))) ∧ Below lb w1 wr ∧ lb < wr.heap.size) (fun i _ => L.length - (intOf i).toNat)
      case atStart => exact ⟨0, .slice none 0 0, Nat.zero_le _, rfl, fun j hj => absurd hj (by omega), H2, HNone, hB2, hs2⟩
      case round =>
        obtain ⟨k, u, hkl, rfl, hall, hbox, hrow, hbr, hlr⟩ := hrel
        have hwr := hw1.trans (hbr.mono (by omega))
        have HGr1 := hide (HGr.out.below (HLb.out ▸ hbr))
        by_cases hlt : k < L.length
        · obtain ⟨b, off, rfl, hb, hc⟩ := hk.resolve_left (by intro e; simp [e] at hlt)
          have hA := (hc k hlt).below hb (hwr.mono hn)
          have g0 := hA.c0
          have g1 := hA.c1
          have g2 := hA.c2
          have hlt1 : (k : Int) < (L.length : Int) := by omega
          have hbl : b < wr.heap.size := by have := hwr.size; omega
          obtain ⟨W3, hW3⟩ : ∃ W3, W3 = wr.alloc (.cells #[.int .i64 (L[k]?.getD holdNil).session, .int .i64 (L[k]?.getD holdNil).node, .int .i64 (L[k]?.getD holdNil).mode] 42) := ⟨_, rfl⟩
          have hb3 : Below wr.heap.size wr W3 := by rw [hW3]; exact (Below.refl _ _).alloc (Nat.le_refl _) _
          have hs3 : W3.heap.size = wr.heap.size + 1 := by rw [hW3]; simp
          have hh3 : W3.heap[wr.heap.size]? = some (.cells #[.int .i64 (L[k]?.getD holdNil).session, .int .i64 (L[k]?.getD holdNil).node, .int .i64 (L[k]?.getD holdNil).mode] 42 (0, 0)) := by rw [hW3]; exact alloc_new wr _
          obtain ⟨c, hcc⟩ : ∃ c, c = ofCode d (L[k]?.getD holdNil) := ⟨_, rfl⟩
          obtain ⟨r, hr⟩ : ∃ r, r = decide (c = 0) := ⟨_, rfl⟩
          have hs3a : W3.heap.size ≤ wr.heap.size + 1 := by omega
          have hs3b : wr.heap.size + 1 ≤ W3.heap.size := by omega
          clear hs3
          have HLo := hide (lockOf_any d HG.out _ tb ad up kv W3 (HGr1.out.below hb3) (L[k]?.getD holdNil) c hcc r hr)
          have j0 := cell_of_heap hh3 0
          have j1 := cell_of_heap hh3 1
          have j2 := cell_of_heap hh3 2
          simp only [List.getElem?_toArray, List.getElem?_cons_succ, List.getElem?_cons_zero] at j0 j1 j2
          have HCc := hide hcc
          have HRr := hide hr
          clear hcc hr hA
          have hZ : Hid (∀ t, Below wr.heap.size wr t → Below w.heap.size w t) := fun t ht => hwr.trans (ht.mono (by have := hwr.size; omega))
          generalize hx : L[k]?.getD holdNil = x at *
          have HX := hide hx
          clear hx
          go_wp2_with fail
          rw [← hW3]
          clear hW3
          refine HLo.out.mono ?_
          rintro e w4 ⟨rfl, hb4⟩
          have hs4 := hb4.size
          have hh4 := (hb4.block wr.heap.size (by omega)).trans hh3
          have y0 := cell_of_heap hh4 0
          have y1 := cell_of_heap hh4 1
          have y2 := cell_of_heap hh4 2
          simp only [List.getElem?_toArray, List.getElem?_cons_succ, List.getElem?_cons_zero] at y0 y1 y2
          have hb34 : Below wr.heap.size wr w4 := hb3.trans (hb4.mono (by omega))
          clear j0 j1 j2 HLo
          cases r
          · have hc0 : c ≠ 0 := by have := HRr.out; intro h; rw [h] at this; revert this; decide
            have hc1 : (c != 0) = true := by simp [hc0]
            have HE := hide (HBad.out fun h => by have := (h.holds.ok k hlt).1; rw [HX.out] at this; exact hc0 (HCc.out.trans (ofCode_zero.2 this)))
            clear hk hc hc0
            obtain ⟨W5, hW5⟩ : ∃ W5, W5 = w4.alloc (.cells #[.int .i64 0, .int .i64 0, .pointer none] 72) := ⟨_, rfl⟩
            have hb5 : Below w4.heap.size w4 W5 := by rw [hW5]; exact (Below.refl _ _).alloc (Nat.le_refl _) _
            go_wp2_with fail
            rw [← hW5]
            refine wp_region_calm (by kernel_rfl) (by kernel_rfl) ?_
            repeat (go_big_quiet_step (fail))
            refine wpQuiet_nil ?_
            rintro _ ⟨t, rfl⟩
            have ht := t.below
            go_wp2_with fail
            go_ret2
            exact .inl ⟨1, rfl, HE.out, rfl, hZ.out _ (hb34.trans ((hb5.mono (by omega)).trans (ht.mono (by have := hb5.size; omega))))⟩
          · have hc0 : c = 0 := by have := HRr.out; simpa using this.symm
            have HP := hide (ofCode_zero.1 (HCc.out.symm.trans hc0))
            subst hc0
            obtain ⟨W5, hW5⟩ : ∃ W5, W5 = w4.alloc (.cells #[.int .i64 x.session, .int .i64 x.mode, .pointer (some ⟨ad x.node, 0, none⟩)] 72) := ⟨_, rfl⟩
            have hb5 : Below w4.heap.size w4 W5 := by rw [hW5]; exact (Below.refl _ _).alloc (Nat.le_refl _) _
            have hs5 : W5.heap.size = w4.heap.size + 1 := by rw [hW5]; simp
            have hh5 : Hid (W5.heap[w4.heap.size]? = some (.cells #[.int .i64 x.session, .int .i64 x.mode, .pointer (some ⟨ad x.node, 0, none⟩)] 72 (0, 0))) := by rw [hW5]; exact alloc_new w4 _
            have hb35 : Below wr.heap.size wr W5 := hb34.trans (hb5.mono (by omega))
            obtain ⟨okb, hok⟩ : ∃ okb : Bool, okb = true ↔ (0 < k → lessB (L[k - 1]?.getD holdNil) (L[k]?.getD holdNil) = true) := ⟨dec _, dec_iff _⟩
            have HOk := hide hok
            have z0 := cell_of_heap hh5.out 0
            have z1 := cell_of_heap hh5.out 1
            have z2 := cell_of_heap hh5.out 2
            simp only [List.getElem?_toArray, List.getElem?_cons_succ, List.getElem?_cons_zero] at z0 z1 z2
            have hwz : w4.heap.size < W5.heap.size := by omega
            have hs5a : W5.heap.size ≤ w4.heap.size + 1 := by omega
            have hs5b : w4.heap.size + 1 ≤ W5.heap.size := by omega
            clear hs5
            clear hok y0 y1 y2
            go_wp2_with fail
            rw [← hW5]
            clear hW5
            go_cut [62] (fun v62 wc => v62 = .bool (!okb) ∧ Below W5.heap.size W5 wc)
            case first =>
              by_cases h0 : k = 0
              · subst h0
                have h1 : okb = true := HOk.out.2 (fun h => absurd h (by omega))
                subst h1
                clear hk hc
                refine wp_region_calm (by kernel_rfl) (by kernel_rfl) ?_
                repeat (go_big_quiet_step (fail))
                refine wpQuiet_nil ?_
                rintro _ ⟨t, rfl⟩
                have ht := t.below
                go_wp2_with fail
                go_meet
                exact ⟨rfl, ht⟩
              · have hk0 : (0 : Int) < (k : Int) := by omega
                obtain ⟨p, rfl⟩ : ∃ p, k = p + 1 := ⟨k - 1, by omega⟩
                obtain ⟨g, capu, rfl, hgz, hgb⟩ := row_block hrow.out (by omega)
                have hA' := (row_lockAt hrow.out (j := p) (by rw [List.length_take]; omega)).below hgz hb35
                have hpt : (L.take (p + 1))[p]? = L[p]? := by rw [List.getElem?_take, if_pos (by omega)]
                rw [hpt] at hA'
                have f0 := hA'.c0
                have f1 := hA'.c1
                have f2 := hA'.c2
                have b1 := cell_of_heap ((hb35.block lb hlr).trans hbox.out) 1
                simp only [List.getElem?_toArray, List.getElem?_cons_succ, List.getElem?_cons_zero] at b1
                have hbl5 : g < W5.heap.size := by omega
                have hlz5 : lb < W5.heap.size := by omega
                have hcal := calm_cell W5
                have HG5 := hide (HGr1.out.below hb35)
                have HPp : Hid ((L[p]?.getD holdNil).node ∈ idsOf d.nodes) := (hall.out p (by omega)).1.2.1
                have HCm : Hid (∀ t : Calm W5, Calls Try.prog 64 #[lockVal ad (L[p]?.getD holdNil), lockVal ad x] t.out fun e w' => e = .returned (.int .i64 (cmpH (L[p]?.getD holdNil) x)) ∧ Below t.out.heap.size t.out w') := fun t => by
                  have hgt := HG5.out.below t.below
                  obtain ⟨k1, k2⟩ := hgt.idCell HPp.out
                  obtain ⟨k3, k4⟩ := hgt.idCell HP.out.2.1
                  exact compareLocks_any ad _ _ t.out k1 k3 k2 k4
                have hlo := cmpH_less (x := L[p]?.getD holdNil) (y := x)
                have HO2 := HOk.out
                rw [Nat.add_sub_cancel, HX.out] at HO2
                clear hA' hk hc
                generalize L[p]?.getD holdNil = y at *
                generalize cmpH y x = z at *
                cases okb
                · have hz : 0 ≤ z := by
                    rcases Int.lt_or_le z 0 with h | h
                    · have := HO2.2 (fun _ => hlo.1 h); cases this
                    · exact h
                  clear HO2 hlo
                  refine wp_region_calm (by kernel_rfl) (by kernel_rfl) ?_
                  repeat (go_big_quiet_step ((go_at_call 64; exact calm_of (HCm.out _))))
                  refine wpQuiet_nil ?_
                  rintro _ ⟨t, rfl⟩
                  have ht := t.below
                  go_wp2_with fail
                  go_meet
                  exact ⟨rfl, ht⟩
                · have hz : z < 0 := hlo.2 (HO2.1 rfl (by omega))
                  clear HO2 hlo
                  refine wp_region_calm (by kernel_rfl) (by kernel_rfl) ?_
                  repeat (go_big_quiet_step ((go_at_call 64; exact calm_of (HCm.out _))))
                  refine wpQuiet_nil ?_
                  rintro _ ⟨t, rfl⟩
                  have ht := t.below
                  go_wp2_with fail
                  go_meet
                  exact ⟨by first | rfl | (simp; omega), ht⟩
            case rest =>
              obtain ⟨rfl, hbc⟩ := hcut
              have hsc := hbc.size
              cases okb
              · have HE := hide (HBad.out fun h => by have := HOk.out.2 (h.holds.ok k hlt).2; cases this)
                clear hk hc
                go_wp2_with fail
                go_ret2
                exact .inl ⟨1, rfl, HE.out, rfl, hZ.out _ (hb35.trans (hbc.mono (by omega)))⟩
              · have HA2 : Hid (∀ j, j < k + 1 → OkAt d L j) := fun j hj => by
                  by_cases e : j = k
                  · subst e; exact ⟨by rw [HX.out]; exact HP.out, HOk.out.1 rfl⟩
                  · exact hall.out j (by omega)
                have hbr4 : Below wr.heap.size wr wc := hb35.trans (hbc.mono (by omega))
                have hbr5 : Below wr.heap.size wr wc.drew := hbr4.drew
                have hh5c := (hbc.block w4.heap.size (by omega)).trans hh5.out
                have q0 := cell_of_heap hh5c 0
                have q1 := cell_of_heap hh5c 1
                have q2 := cell_of_heap hh5c 2
                simp only [List.getElem?_toArray, List.getElem?_cons_succ, List.getElem?_cons_zero] at q0 q1 q2
                have HBoxc := hide ((hbr5.block lb hlr).trans hbox.out)
                have HRowc := hide (ownsRow_below hrow.out hbr5)
                have b1 := cell_of_heap ((hbr4.block lb hlr).trans hbox.out) 1
                simp only [List.getElem?_toArray, List.getElem?_cons_succ, List.getElem?_cons_zero] at b1
                have hlz : lb < wc.heap.size := by omega
                have hwz4 : w4.heap.size < wc.heap.size := by omega
                have hkl30 : k ≤ 30 := by omega
                have HTk : Hid (lockVals ad (L.take (k + 1)) = lockVals ad (L.take k) ++ lockCells ad x) := by
                  rw [Hid, List.take_succ_eq_append_getElem hlt, lockVals_snoc]
                  have := HX.out
                  rw [List.getElem?_eq_getElem hlt, Option.getD_some] at this
                  rw [this]
                clear hk hc z0 z1 z2
                go_wp2_with fail
                go_region_law (refine step_append_lies _ rfl (.tmp 67) (.tmp 69) 79 rfl (lb + 1) 72 i0 (.agg #[.int .i64 0, .int .i64 0, .pointer none]) 3 24 Try.underlying79 hinf hq0 hq1 hq2 rfl (by decide) _ _ _ rfl (HRowc.out.alloc _) ⟨wc.heap.size, 0, none⟩ 1 1 (lockCells ad x) rfl rfl (World.news_of_block (alloc_new wc.drew _)) (lock_one ad x) (by decide) (by unfold maxLen; omega) (by omega) (by simp; omega) _ rfl ?_; intro g7 c7 w7 hown7 hgrow7 hgg7 hlt7; have HBx7 := hide (box_grow (HRowc.out.alloc _) hgrow7 (by decide) ((Below.heap_alloc wc.drew _ lb hlz).trans HBoxc.out)); have d0 := cell_of_heap HBx7.out 1; have d1 := frozen_of_heap HBx7.out 1)
                all_goals
                  have hb7 : Below lb w1 w7 := ((hbr.trans (hbr5.mono (by omega))).alloc (by simp; omega) _).grown hgrow7 (by simp; omega) (fun g' hg' => by have := (HRowc.out.lt g' hg').1; omega)
                  have HB8 := hide (hb7.setCell (p := ⟨lb, 1, none⟩) (Nat.le_refl _) (.slice (some ⟨g7, 0, none⟩) (k + 1) c7))
                  have HX8 : Hid ((w7.setCell ⟨lb, 1, none⟩ (.slice (some ⟨g7, 0, none⟩) (k + 1) c7)).heap[lb]? = some (.cells #[.pointer (some ⟨tb, 0, none⟩), .slice (some ⟨g7, 0, none⟩) (k + 1) c7] 81 (0, 0))) := by
                    rw [Hid, heap_setCell_same _ _ _ _ _ _ HBx7.out]; rfl
                  have HR8 : Hid ((w7.setCell ⟨lb, 1, none⟩ (.slice (some ⟨g7, 0, none⟩) (k + 1) c7)).ownsRow (lb + 1) 72 3 (.slice (some ⟨g7, 0, none⟩) (k + 1) c7) (k + 1) (lockVals ad (L.take (k + 1)))) := by
                    rw [Hid, HTk.out]; exact ownsRow_setCell_other hown7 (own_other hown7 HBx7.out (by decide)) _
                  have HZ8 : Hid (lb < (w7.setCell ⟨lb, 1, none⟩ (.slice (some ⟨g7, 0, none⟩) (k + 1) c7)).heap.size) := (Array.getElem?_eq_some_iff.1 HX8.out).1
                  clear hown7 hgrow7 hgg7 hb7 d0 d1 q0 q1 q2 b1
                  go_wp2_with fail
                  exact ⟨⟨k + 1, _, by omega, by go_num, HA2, HX8, HR8, HB8.out, HZ8.out⟩, by simp [intOf]; omega⟩
        · have hkL : k = L.length := by omega
          have HTk : Hid (L.take k = L) := by rw [Hid, hkL, List.take_length]
          have HOK : Hid (LocksP d L) := ⟨HG.out, by omega, fun i hi => hall.out i (by omega)⟩
          have HLk : Hid (LocksOwn w.heap.size wr lb tb ad L) := by
            have hr := hrow.out
            rw [HTk.out, hkL] at hr
            exact ⟨by have := HLb.out; omega, _, hbox.out, hr⟩
          have HGf : Hid (GrownIn w.heap.size lb wr d tb ad up kv) := ⟨w1, _, by omega, HGr.out, by have := HLb.out; omega, htb, fun b _ h2 => hbr.block b h2⟩
          clear hk hkL
          go_wp2_with fail
          go_ret2
          exact .inr ⟨lb, tb, ad, up, kv, rfl, HOK, HGf.out, HLk.out, hwr⟩
  · have HE := hide (HBad.out fun h => hno h.good)
    simp only [World.size_alloc] at hb1
    clear hno hk
    go_wp2_with fail
    go_ret2
    exact .inl ⟨1, rfl, HE.out, rfl, hW.trans (hb1.mono (by omega))⟩
end Go.Proofs.Ytfjhpfgffbghdaa
