/-
  The law package's marks on terms and rules: they are written into their own memory, and nowhere else.
-/
import Derived.Test.YtmcopoonnhcdjaaDoorMarkBig
import Derived.Test.YtmcopoonnhcdjaaDoorMarkKeeps
import Derived.Test.YtmcopoonnhcdjaaDoorSchSz
namespace Go.Proofs.YtmcopoonnhcdjaaDoor
open Go.RowKit

/-- Blocks of terms keep where their lists of kinds lie. -/
def KeepsKinds (w w' : World) : Prop := ∀ (m : Nat) (cs : Array Value), w.heap[m]? = some (Obj.cells cs 126 (0, 0)) → ∃ cs', w'.heap[m]? = some (Obj.cells cs' 126 (0, 0)) ∧ cs'.size = cs.size ∧ ∀ j, cs'[j * 2]? = cs[j * 2]?

theorem KeepsKinds.refl (w : World) : KeepsKinds w w := fun _ cs h => ⟨cs, h, rfl, fun _ => rfl⟩
theorem KeepsKinds.trans {A B C : World} (h : KeepsKinds A B) (k : KeepsKinds B C) : KeepsKinds A C := fun m cs hm => by
  obtain ⟨c1, h1, e1, f1⟩ := h m cs hm
  obtain ⟨c2, h2, e2, f2⟩ := k m c1 h1
  exact ⟨c2, h2, e2.trans e1, fun j => (f2 j).trans (f1 j)⟩
theorem kinds_below {A B : World} (hb : Below A.heap.size A B) : KeepsKinds A B := fun m cs hm => ⟨cs, (hb.block m (Array.getElem?_eq_some_iff.1 hm).1).trans hm, rfl, fun _ => rfl⟩
/-- A block of another type is written. -/
theorem kinds_other {A B : World} {b : Nat} {cs : Array Value} {T : TypeId} (h : A.heap[b]? = some (Obj.cells cs T (0, 0))) (hT : T ≠ 126) (ho : ∀ m, m ≠ b → B.heap[m]? = A.heap[m]?) : KeepsKinds A B := fun m c hm => by
  have : m ≠ b := fun e => by
    rw [e, h] at hm
    simp only [Option.some.injEq, Obj.cells.injEq] at hm
    exact hT hm.2.1
  exact ⟨c, (ho m this).trans hm, rfl, fun _ => rfl⟩

/-- A list of terms whose lists of kinds have room, as it is marked. -/
def TermsFit (lo hi : Nat) (w : World) (a : Option Addr) (ns : List Nat) : Prop :=
  ∃ b cs, a = some ⟨b, 0, none⟩ ∧ lo ≤ b ∧ b < hi ∧ w.heap[b]? = some (Obj.cells cs 126 (0, 0)) ∧
    ∀ j, j < ns.length → j * 2 + 1 < cs.size ∧ ∃ bk ck, cs[j * 2]? = some (.slice (some ⟨bk, 0, none⟩) (ns[j]?.getD 0) ck) ∧ lo ≤ bk ∧ bk < hi ∧ ∃ c5, w.heap[bk]? = some (Obj.cells c5 3 (0, 0)) ∧ ns[j]?.getD 0 ≤ c5.size

theorem TermsFit.kept {lo hi : Nat} {w w' : World} {a : Option Addr} {ns : List Nat} (h : TermsFit lo hi w a ns) (hk : KeepsKinds w w') (hs : KeepsSizes w w') : TermsFit lo hi w' a ns := by
  obtain ⟨b, cs, rfl, h1, h2, h3, h4⟩ := h
  obtain ⟨cs', g1, g2, g3⟩ := hk b cs h3
  refine ⟨b, cs', rfl, h1, h2, g1, fun j hj => ?_⟩
  obtain ⟨k0, bk, ck, k1, k2, k3, c5, k4, k5⟩ := h4 j hj
  obtain ⟨c6, l1, l2⟩ := hs bk c5 _ k4
  exact ⟨by omega, bk, ck, (g3 j).trans k1, k2, k3, c6, l1, by omega⟩

theorem TermsOwn.fit {lo hi : Nat} {w : World} {v : Value} {l : List PTerm} (h : TermsOwn lo hi w v l) : ∃ a cap, v = .slice a l.length cap ∧ TermsFit lo hi w a (l.map fun t => t.kinds.length) := by
  obtain ⟨b, cap, cs, rfl, _, h1, h2, h3, h4⟩ := h
  refine ⟨_, cap, rfl, b, cs, rfl, h1, h2, h3, fun j hj => ?_⟩
  simp only [List.length_map] at hj
  obtain ⟨kv, g0, g1, bk, ck, c5, rfl, k1, k2, k3, k4⟩ := h4 j hj
  refine ⟨(Array.getElem?_eq_some_iff.1 g1).1, bk, ck, ?_, by omega, k2, c5, k3, ?_⟩
  · rw [g0]; simp [hj]
  · have e : (l.map fun t => t.kinds.length)[j]?.getD 0 = (l[j]?.getD termNil).kinds.length := by simp [hj]
    rw [e]
    rcases Nat.lt_or_ge c5.size (l[j]?.getD termNil).kinds.length with h | h
    · have := k4 c5.size h
      simp at this
    · exact h

set_option maxHeartbeats 2000000 in
set_option maxRecDepth 100000 in
theorem markTerms_any (lo hi : Nat) (a : Option Addr) (cap : Nat) (ns : List Nat) (k : Int) (w : World) (h : TermsFit lo hi w a ns) (_hhi : hi ≤ w.heap.size) (hl : ns.length ≤ 1048576) (hnl : ∀ n ∈ ns, n ≤ 1048576) (hk0 : 0 ≤ k) (hk : k ≤ 1500000000000000000) :
    Calls Tryd.prog 55 #[.slice a ns.length cap, .int .i64 k] w fun e w' => ∃ r, e = .returned (.int .i64 r) ∧ 0 ≤ r ∧ r ≤ k + ns.length * 1048577 ∧ Within w w' lo hi ∧ KeepsSizes w w' ∧ KeepsKinds w w' := by
  have HF := hide h
  obtain ⟨b, cs, rfl, hlo, hbh, hh, -⟩ := h
  have hb0 := (Array.getElem?_eq_some_iff.1 hh).1
  have HNL := hide hnl
  clear hnl hh
  go_enter Tryd.func55, Tryd.ntmps55
  go_wp2_with fail
  go_loopw [1, 5] (fun kv i wr => ∃ (j : Nat) (y : Int), j ≤ ns.length ∧ kv = .int .i64 y ∧ 0 ≤ y ∧ y ≤ k + j * 1048577 ∧ i = .int .i64 j ∧ Hid (Within w wr lo hi) ∧ Hid (KeepsSizes w wr) ∧ Hid (KeepsKinds w wr)) (fun _ i _ => ns.length - (intOf i).toNat)
  case atStart => exact ⟨0, k, Nat.zero_le _, rfl, hk0, by omega, rfl, ⟨Below.refl _ _, fun _ _ _ => rfl⟩, fun _ _ _ h => ⟨_, h, rfl⟩, KeepsKinds.refl _⟩
  case round =>
    obtain ⟨j, y, hj, rfl, hy0, hy1, rfl, hwi, hks, hkk⟩ := hrel
    have hsw := hwi.out.below.size
    by_cases hlt : j < ns.length
    · obtain ⟨b1, cs1, e1, -, -, hh1, hrow⟩ := HF.out.kept hkk.out hks.out
      cases e1
      obtain ⟨hs5, bk, ck, g0, hbk, hbk2, c5, hc5, hn5⟩ := hrow j hlt
      have hkx : ns[j]?.getD 0 ≤ 1048576 := HNL.out _ (by simp [hlt])
      generalize ns[j]?.getD 0 = n at *
      have d0 : wr.cell? ⟨b, j * 2, none⟩ = some (.slice (some ⟨bk, 0, none⟩) n ck) := (cell_of_heap hh1 (j * 2)).trans g0
      have hbw : b < wr.heap.size := (Array.getElem?_eq_some_iff.1 hh1).1
      have hlt1 : (j : Int) < (ns.length : Int) := by omega
      have HRi : Hid (RowIn wr (some ⟨bk, 0, none⟩) n 3) := .inr ⟨bk, c5, rfl, hc5, hn5⟩
      have hne : b ≠ bk := fun e => by
        rw [e, hc5] at hh1
        simp only [Option.some.injEq, Obj.cells.injEq] at hh1
        exact absurd hh1.2.1 (by decide)
      have HC5 := hide hc5
      have HH1 := hide hh1
      clear hc5 hh1 hrow
      go_wp2_with fail
      refine (markInts_keeps (some ⟨bk, 0, none⟩) n ck _ _ HRi.out (by omega) (by omega) (by omega)).mono ?_
      rintro e w6 ⟨rfl, ho, hk6⟩
      have h6 : w6.heap[b]? = some (Obj.cells cs1 126 (0, 0)) := (ho.same b (fun b2 e2 => by cases e2; exact hne)).trans HH1.out
      have hc6 : ∃ u, w6.cell? ⟨b, j * 2 + 1, none⟩ = some u := by rw [cell_of_heap h6]; exact ⟨_, Array.getElem?_eq_getElem hs5⟩
      obtain ⟨u6, hc6⟩ := hc6
      have hf6 := frozen_of_heap h6 (j * 2 + 1)
      have hs6 := ho.size
      have HO : Hid (∀ m, m ≠ bk → w6.heap[m]? = wr.heap[m]?) := fun m hm => ho.same m (fun b2 e2 => by cases e2; exact hm)
      have HOB : Hid (Below lo wr w6) := ho.below lo (fun b2 e2 => by cases e2; exact hbk)
      have HK6 := hide hk6
      have H6 := hide h6
      clear ho hk6 h6
      go_wp2_with fail
      refine ⟨⟨j + 1, y + n + 1, by omega, by go_num, by omega, by omega, by go_num, ⟨(hwi.out.below.trans HOB.out).setCell (p := ⟨b, j * 2 + 1, none⟩) hlo _, fun m hm hmw => ?_⟩, (hks.out.trans HK6.out).trans keeps_set, ?_⟩, by simp [intOf]; omega⟩
      · rw [heap_setCell_other _ _ _ _ (by show m ≠ b; omega), HO.out m (by omega)]
        exact hwi.out.above m hm hmw
      · refine (hkk.out.trans (kinds_other HC5.out (by decide) HO.out)).trans fun m c hm => ?_
        by_cases e : m = b
        · subst e
          have e2 := H6.out.symm.trans hm
          simp only [Option.some.injEq, Obj.cells.injEq] at e2
          obtain ⟨rfl, -⟩ := e2
          refine ⟨_, heap_setCell_same _ _ _ _ _ _ hm, by simp, fun i => ?_⟩
          rw [Array.getElem?_setIfInBounds_ne (by omega)]
        · exact ⟨c, (heap_setCell_other _ _ _ _ (by exact e)).trans hm, rfl, fun _ => rfl⟩
    · go_wp2_with fail
      go_ret
      exact ⟨y, rfl, hy0, by have : (j : Int) = ns.length := by omega
                             omega, hwi.out, hks.out, hkk.out⟩

set_option maxHeartbeats 4000000 in
set_option maxRecDepth 100000 in
theorem markRules_any (lo hi : Nat) (v : Value) (l : List PRule) (w : World) (h : RulesOwn lo hi w v l) (hhi : hi ≤ w.heap.size) (hl : SmallRules l) :
    Calls Tryd.prog 21 #[v, .int .i64 1] w fun e w' => ∃ r, e = .returned (.int .i64 r) ∧ 0 ≤ r ∧ Within w w' lo hi := by
  obtain ⟨b, cap, cs, rfl, hcp, hlo, hbh, hh, hrow⟩ := h
  have HRow : Hid (∀ i, i < l.length → i * 3 + 2 < cs.size ∧ ∃ a ck, cs[i * 3 + 2]? = some (.slice a (l[i]?.getD ruleNil).terms.length ck) ∧ TermsFit (b + 1) hi w a ((l[i]?.getD ruleNil).terms.map fun t => t.kinds.length)) := fun i hi' => by
    obtain ⟨kv, -, -, g2, g5⟩ := hrow i hi'
    obtain ⟨a, ck, rfl, hf⟩ := g5.fit
    exact ⟨(Array.getElem?_eq_some_iff.1 g2).1, a, ck, g2, hf⟩
  have hl1 := hl.len
  have HKL := hide hl.rules
  have HH := hide hh
  have hb0 := (Array.getElem?_eq_some_iff.1 hh).1
  clear hrow hl hh
  go_enter Tryd.func21, Tryd.ntmps21
  go_wp2_with fail
  go_loopw [1, 5] (fun kv i wr => ∃ (j : Nat) (y : Int) (cs' : Array Value), j ≤ l.length ∧ kv = .int .i64 y ∧ 0 ≤ y ∧ y ≤ 1 + j * 1099512676355 ∧ i = .int .i64 j ∧ Hid (wr.heap[b]? = some (.cells cs' 72 (0, 0))) ∧ cs'.size = cs.size ∧ Hid (∀ i, cs'[i * 3 + 2]? = cs[i * 3 + 2]?) ∧ Hid (KeepsSizes w wr) ∧ Hid (KeepsKinds w wr) ∧ Hid (Within w wr lo hi)) (fun _ i _ => l.length - (intOf i).toNat)
  case atStart => exact ⟨0, 1, cs, Nat.zero_le _, rfl, by omega, by omega, rfl, HH, rfl, fun _ => rfl, fun _ _ _ h => ⟨_, h, rfl⟩, KeepsKinds.refl _, ⟨Below.refl _ _, fun _ _ _ => rfl⟩⟩
  case round =>
    obtain ⟨j, y, cs', hj, rfl, hy0, hy1, rfl, hbl, hcs, hk2, hks, hkk, hwi⟩ := hrel
    have hsw := hwi.out.below.size
    by_cases hlt : j < l.length
    · obtain ⟨hs3, at', ct, g2, hft⟩ := HRow.out j hlt
      have hsx := HKL.out (l[j]?.getD ruleNil) (by simp [hlt])
      have htl := hsx.terms.len
      have HTk : Hid (∀ n ∈ (l[j]?.getD ruleNil).terms.map (fun t => t.kinds.length), n ≤ 1048576) := fun n hn => by
        obtain ⟨t, ht, rfl⟩ := List.mem_map.1 hn
        exact hsx.terms.kinds t ht
      have htn : (l[j]?.getD ruleNil).terms.length = ((l[j]?.getD ruleNil).terms.map fun t => t.kinds.length).length := by simp
      rw [htn] at g2 htl
      have HFt := hide hft
      clear hsx htn hft
      generalize (l[j]?.getD ruleNil).terms.map (fun t => t.kinds.length) = ns at *
      have hbw : b < wr.heap.size := (Array.getElem?_eq_some_iff.1 hbl.out).1
      have hlt1 : (j : Int) < (l.length : Int) := by omega
      obtain ⟨kk, hkk1⟩ : ∃ kk : Nat, y = (kk : Int) := ⟨y.toNat, by omega⟩
      have HT := hide (markText_big kk y wr hkk1 (by omega) (by omega))
      clear hkk1
      generalize markOf kk = mk at *
      go_wp2_with fail
      refine HT.out.mono ?_
      rintro e w4 ⟨rfl, hb4⟩
      have hs4 := hb4.size
      have h4 := (hb4.block b hbw).trans hbl.out
      have hcell : ∀ o, o < 3 → ∃ u, w4.cell? ⟨b, j * 3 + o, none⟩ = some u := fun o ho => by
        rw [cell_of_heap h4 (j * 3 + o)]
        exact ⟨_, Array.getElem?_eq_getElem (by omega)⟩
      obtain ⟨v0, d0⟩ := hcell 0 (by omega)
      obtain ⟨v1, d1⟩ := hcell 1 (by omega)
      rw [Nat.add_zero] at d0
      have d2 : w4.cell? ⟨b, j * 3 + 2, none⟩ = some (.slice at' ns.length ct) := (cell_of_heap h4 (j * 3 + 2)).trans ((hk2.out j).trans g2)
      have z0 := frozen_of_heap h4 (j * 3)
      have z1 := frozen_of_heap h4 (j * 3 + 1)
      have hyp : (0 : Int) ≤ y + 1 := by omega
      have H4 := hide h4
      clear h4 hcell HT
      obtain ⟨W5, hW5⟩ : ∃ W5, W5 = (w4.setCell ⟨b, j * 3, none⟩ (.string mk)).setCell ⟨b, j * 3 + 1, none⟩ (.bool ((y + 1) % 3 == 0)) := ⟨_, rfl⟩
      have H5 : Hid (W5.heap[b]? = some (.cells ((cs'.setIfInBounds (j * 3) (.string mk)).setIfInBounds (j * 3 + 1) (.bool ((y + 1) % 3 == 0))) 72 (0, 0))) := by
        rw [hW5]; exact heap_setCell_same _ b _ _ _ _ (heap_setCell_same _ b _ _ _ _ H4.out)
      have HO5 : Hid (∀ m, m ≠ b → W5.heap[m]? = w4.heap[m]?) := fun m hm => by
        rw [hW5, heap_setCell_other _ _ _ _ (by exact hm), heap_setCell_other _ _ _ _ (by exact hm)]
      have HK5 : Hid (KeepsSizes w4 W5) := by rw [hW5]; exact keeps_set.trans keeps_set
      have HKk5 : Hid (KeepsKinds w4 W5) := kinds_other H4.out (by decide) HO5.out
      have HB5 : Hid (Below lo w4 W5) := by rw [hW5]; exact ((Below.refl lo w4).setCell (p := ⟨b, j * 3, none⟩) hlo _).setCell (p := ⟨b, j * 3 + 1, none⟩) hlo _
      have HS5 : Hid (W5.heap.size = w4.heap.size) := by rw [hW5]; simp [World.size_setCell, Hid]
      have hs5 := HS5.out
      have HKs := hide ((hks.out.trans (keeps_below hb4)).trans HK5.out)
      have HKk := hide ((hkk.out.trans (kinds_below hb4)).trans HKk5.out)
      have HMt := hide (markTerms_any (b + 1) hi at' ct ns (y + 1 + 1) W5 (HFt.out.kept HKk.out HKs.out) (by omega) htl HTk.out (by omega) (by omega))
      go_wp2_with fail
      rw [← hW5]
      clear hW5
      refine HMt.out.mono ?_
      rintro e w6 ⟨r, rfl, hr0, hr1, hwi6, hks6, hkk6⟩
      have HW6 := hide hwi6
      have HS6 := hide hks6
      have HKK6 := hide hkk6
      clear hwi6 hks6 hkk6 HMt
      have hs6 := HW6.out.below.size
      go_wp2_with fail
      refine ⟨⟨j + 1, r, ((cs'.setIfInBounds (j * 3) (.string mk)).setIfInBounds (j * 3 + 1) (.bool ((y + 1) % 3 == 0))), by omega, rfl, hr0, by omega, by go_num, ?_, by simp [hcs], fun i => ?_, HKs.out.trans HS6.out, HKk.out.trans HKK6.out, ⟨((hwi.out.below.trans (hb4.mono (by omega))).trans HB5.out).trans (HW6.out.below.mono (by omega)), fun m hm hmw => ?_⟩⟩, by simp [intOf]; omega⟩
      · exact (HW6.out.below.block b (by omega)).trans H5.out
      · rw [Array.getElem?_setIfInBounds_ne (by omega), Array.getElem?_setIfInBounds_ne (by omega)]
        exact hk2.out i
      · rw [HW6.out.above m hm (by omega), HO5.out m (by omega), hb4.block m (by omega)]
        exact hwi.out.above m hm hmw
    · clear hks hkk hk2
      go_wp2_with fail
      go_ret
      exact ⟨y, rfl, hy0, hwi.out⟩
end Go.Proofs.YtmcopoonnhcdjaaDoor
