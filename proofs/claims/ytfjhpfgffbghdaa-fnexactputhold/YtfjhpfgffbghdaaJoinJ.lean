/-
  The law package's marks on a whole document: where they write, and how far they count.
  The law package's marks on a list of holds: where they write.
-/
import Derived.Test.YtfjhpfgffbghdaaJoinI
import Derived.Test.YtfjhpfgffbghdaaJoinD
import Derived.Test.YtfjhpfgffbghdaaHoldToJ
namespace Go.Proofs.Ytfjhpfgffbghdaa
open Go.RowKit

set_option maxHeartbeats 2000000 in
set_option maxRecDepth 100000 in
theorem markNodes_upto (k0 : Int) (hk0 : 0 ≤ k0) (hk1 : k0 ≤ 1500000000000000000) (lo hi : Nat) (v : Value) (l : List PNode) (w : World) (h : NodesOwn lo hi w v l) (_hhi : hi ≤ w.heap.size) (hl : l.length ≤ 1048576) (hkl : ∀ x ∈ l, x.kids.length ≤ 1048576) :
    Calls Try.prog 45 #[v, .int .i64 k0] w fun e w' => ∃ r, e = .returned (.int .i64 r) ∧ 0 ≤ r ∧ r ≤ k0 + 1099515822080 ∧ Within w w' lo hi := by
  obtain ⟨b, cap, cs, rfl, hlo, hbh, hh, hrow⟩ := h
  have hrow2 : ∀ i, i < l.length → ∃ bk ck, cs[i * 5 + 4]? = some (.slice (some ⟨bk, 0, none⟩) (l[i]?.getD nodeNil).kids.length ck) ∧ b < bk ∧ bk < hi ∧ ∃ c5, w.heap[bk]? = some (.cells c5 3 (0, 0)) ∧ (l[i]?.getD nodeNil).kids.length ≤ c5.size := fun i hi' => by
    obtain ⟨kv, -, -, -, -, g4, bk, ck, c5, rfl, k1, k2, k3, k4⟩ := hrow i hi'
    refine ⟨bk, ck, g4, by omega, k2, c5, k3, ?_⟩
    rcases Nat.lt_or_ge c5.size (l[i]?.getD nodeNil).kids.length with hlt | hge
    · have := k4 c5.size hlt
      simp at this
    · exact hge
  have hsz5 : ∀ i, i < l.length → i * 5 + 4 < cs.size := fun i hi' => by
    obtain ⟨_, _, g, _⟩ := hrow2 i hi'
    exact (Array.getElem?_eq_some_iff.1 g).1
  have HRow := hide hrow2
  have HS5 := hide hsz5
  have HKL := hide hkl
  have HH := hide hh
  clear hrow hrow2 hsz5 hkl hh
  go_enter Try.func45, Try.ntmps45
  go_wp2_with fail
  go_loopw [1, 5] (fun kv i wr => ∃ (j : Nat) (y : Int) (cs' : Array Value), j ≤ l.length ∧ kv = .int .i64 y ∧ 0 ≤ y ∧ y ≤ k0 + j * 1048580 ∧ i = .int .i64 j ∧ Hid (wr.heap[b]? = some (.cells cs' 98 (0, 0))) ∧ cs'.size = cs.size ∧ Hid (∀ i, i < l.length → cs'[i * 5 + 4]? = cs[i * 5 + 4]?) ∧ Hid (KeepsSizes w wr) ∧ Hid (Within w wr lo hi)) (fun _ i _ => l.length - (intOf i).toNat)
  case atStart => exact ⟨0, k0, cs, Nat.zero_le _, rfl, by omega, by omega, rfl, HH, rfl, fun _ _ => rfl, fun _ _ _ h => ⟨_, h, rfl⟩, ⟨Below.refl _ _, fun _ _ _ => rfl⟩⟩
  case round =>
    obtain ⟨j, y, cs', hj, rfl, hy0, hy1, rfl, hbl, hcs, hk4, hks, hwi⟩ := hrel
    by_cases hlt : j < l.length
    · obtain ⟨bk, ck, g4, hbk, hbk2, c5, hc5, hn5⟩ := HRow.out j hlt
      have h5 := HS5.out j hlt
      have hkx : (l[j]?.getD nodeNil).kids.length ≤ 1048576 := HKL.out _ (by simp [hlt])
      generalize (l[j]?.getD nodeNil).kids.length = n at *
      have hwb := hwi.out.below.size
      have hbw : b < wr.heap.size := (Array.getElem?_eq_some_iff.1 hbl.out).1
      have hcell : ∀ o, o < 5 → ∃ u, wr.cell? ⟨b, j * 5 + o, none⟩ = some u := fun o ho => by
        rw [cell_of_heap hbl.out (j * 5 + o)]
        exact ⟨_, Array.getElem?_eq_getElem (by omega)⟩
      obtain ⟨v0, d0⟩ := hcell 0 (by omega)
      obtain ⟨v1, d1⟩ := hcell 1 (by omega)
      obtain ⟨v2, d2⟩ := hcell 2 (by omega)
      obtain ⟨v3, d3⟩ := hcell 3 (by omega)
      have d4 : wr.cell? ⟨b, j * 5 + 4, none⟩ = some (.slice (some ⟨bk, 0, none⟩) n ck) := (cell_of_heap hbl.out (j * 5 + 4)).trans ((hk4.out j hlt).trans g4)
      have z0 := frozen_of_heap hbl.out (j * 5)
      have z1 := frozen_of_heap hbl.out (j * 5 + 1)
      have z2 := frozen_of_heap hbl.out (j * 5 + 2)
      have z3 := frozen_of_heap hbl.out (j * 5 + 3)
      rw [Nat.add_zero] at d0
      have hlt1 : (j : Int) < (l.length : Int) := by omega
      clear hcell
      obtain ⟨W3, hW3⟩ : ∃ W3, W3 = ((wr.setCell ⟨b, j * 5, none⟩ (.int .i64 y)).setCell ⟨b, j * 5 + 1, none⟩ (.int .i64 (y + 1))).setCell ⟨b, j * 5 + 2, none⟩ (.int .i64 (y + 1 + 1)) := ⟨_, rfl⟩
      have H3 : Hid (W3.heap[b]? = some (.cells (((cs'.setIfInBounds (j * 5) (.int .i64 y)).setIfInBounds (j * 5 + 1) (.int .i64 (y + 1))).setIfInBounds (j * 5 + 2) (.int .i64 (y + 1 + 1))) 98 (0, 0))) := by
        rw [hW3]; exact heap_setCell_same _ b _ _ _ _ (heap_setCell_same _ b _ _ _ _ (heap_setCell_same wr b _ _ _ _ hbl.out))
      have HK3 : Hid (KeepsSizes wr W3) := by rw [hW3]; exact (keeps_set.trans keeps_set).trans keeps_set
      have HB3 : Hid (Below lo wr W3) := by rw [hW3]; exact (((Below.refl lo wr).setCell (p := ⟨b, j * 5, none⟩) hlo _).setCell (p := ⟨b, j * 5 + 1, none⟩) hlo _).setCell (p := ⟨b, j * 5 + 2, none⟩) hlo _
      have HO3 : Hid (∀ m, m ≠ b → W3.heap[m]? = wr.heap[m]?) := fun m hm => by
        rw [hW3, heap_setCell_other _ _ _ _ (by exact hm), heap_setCell_other _ _ _ _ (by exact hm), heap_setCell_other _ _ _ _ (by exact hm)]
      have HS3 : Hid (W3.heap.size = wr.heap.size) := by rw [hW3]; simp [World.size_setCell, Hid]
      obtain ⟨kk, hkk⟩ : ∃ kk : Nat, y + 1 + 1 + 1 = (kk : Int) := ⟨(y + 1 + 1 + 1).toNat, by omega⟩
      have HKK : Hid (y + 1 + 1 + 1 = (kk : Int)) := hkk
      clear hkk
      go_wp2_with fail
      rw [← hW3]
      refine (markText_big kk _ W3 HKK (by omega) (by omega)).mono ?_
      rintro e w4 ⟨rfl, hb4⟩
      have hs4 := hb4.size
      have hsw3 := HS3.out
      have h4 := (hb4.block b (by omega)).trans H3.out
      have e3 : ∃ u, w4.cell? ⟨b, j * 5 + 3, none⟩ = some u := by rw [cell_of_heap h4]; exact ⟨_, Array.getElem?_eq_getElem (by simp; omega)⟩
      obtain ⟨u3, e3⟩ := e3
      have e4 : w4.cell? ⟨b, j * 5 + 4, none⟩ = some (.slice (some ⟨bk, 0, none⟩) n ck) := by
        rw [cell_of_heap h4]
        simp only [Array.getElem?_setIfInBounds, Array.size_setIfInBounds]
        rw [if_neg (by omega), if_neg (by omega), if_neg (by omega)]
        exact (hk4.out j hlt).trans g4
      have f3 := frozen_of_heap h4 (j * 5 + 3)
      have H4 := hide h4
      clear h4
      generalize markOf kk = mk at *
      go_wp2_with fail
      have hrowin : RowIn (w4.setCell ⟨b, j * 5 + 3, none⟩ (.string mk)) (some ⟨bk, 0, none⟩) n 3 := by
        obtain ⟨c6, h6, s6⟩ := (((hks.out.trans HK3.out).trans (keeps_below hb4)).trans (keeps_set (b := b) (i := j * 5 + 3) (v := .string mk))) bk c5 _ hc5
        exact .inr ⟨bk, c6, rfl, h6, by omega⟩
      refine (markInts_keeps (some ⟨bk, 0, none⟩) n ck _ _ hrowin (by omega) (by omega) (by omega)).mono ?_
      rintro e w6 ⟨rfl, ho, hk6⟩
      go_wp2_with fail
      refine ⟨⟨j + 1, _, (((cs'.setIfInBounds (j * 5) (.int .i64 y)).setIfInBounds (j * 5 + 1) (.int .i64 (y + 1))).setIfInBounds (j * 5 + 2) (.int .i64 (y + 1 + 1))).setIfInBounds (j * 5 + 3) (.string mk), by omega, rfl, by omega, by omega, by go_num, ?_, ?_, ?_, ?_, ?_⟩, by simp [intOf]; omega⟩
      · exact (ho.same b (fun b2 e2 => by cases e2; omega)).trans (heap_setCell_same w4 b _ _ _ _ H4.out)
      · simp [hcs]
      · intro i hi'
        simp only [Array.getElem?_setIfInBounds, Array.size_setIfInBounds]
        rw [if_neg (by omega), if_neg (by omega), if_neg (by omega), if_neg (by omega)]
        exact hk4.out i hi'
      · exact (((hks.out.trans HK3.out).trans (keeps_below hb4)).trans keeps_set).trans hk6
      · refine ⟨(((hwi.out.below.trans HB3.out).trans (hb4.mono (by omega))).trans ((Below.refl lo w4).setCell (p := ⟨b, j * 5 + 3, none⟩) hlo _)).trans (ho.below lo (fun b2 e2 => by cases e2; omega)), fun m hm hmw => ?_⟩
        rw [ho.same m (fun b2 e2 => by cases e2; omega), heap_setCell_other _ _ _ _ (by show m ≠ b; omega), hb4.block m (by omega), HO3.out m (by omega)]
        exact hwi.out.above m hm hmw
    · clear hk4 hks
      go_wp2_with fail
      go_ret
      exact ⟨y, rfl, hy0, by omega, hwi.out⟩

set_option maxHeartbeats 400000 in
theorem markDoc_upto (k0 : Int) (hk0 : 0 ≤ k0) (hk1 : k0 ≤ 1500000000000000000) (lo hi : Nat) (v : Value) (d : PDoc) (w : World) (h : DocOwn lo hi w v d) (hhi : hi ≤ w.heap.size) (hl : d.nodes.length ≤ 1048576) (hkl : ∀ x ∈ d.nodes, x.kids.length ≤ 1048576) :
    Calls Try.prog 19 #[v, .int .i64 k0] w fun e w' => ∃ r, e = .returned (.int .i64 r) ∧ 0 ≤ r ∧ r ≤ k0 + 1099515822080 ∧ Within w w' lo hi := by
  obtain ⟨s, rfl, hk⟩ := h
  have hW := (Below.refl w.heap.size w).alloc (Nat.le_refl _) (.cells #[.int .i64 d.root, .int .i64 d.next, s] 31)
  have HM := hide (markNodes_upto k0 hk0 hk1 lo hi s d.nodes (w.alloc (.cells #[.int .i64 d.root, .int .i64 d.next, s] 31)) (hk.below (hW.mono hhi)) (by simp; omega) hl hkl)
  obtain ⟨b, cap, cs, rfl, hlo, hbh, -⟩ := hk
  clear hkl
  go_enter Try.func19, Try.ntmps19
  go_wp2_with fail
  refine HM.out.mono ?_
  rintro e w1 ⟨r, rfl, hr, hr2, hw⟩
  have HWi := hide hw
  clear hw
  go_wp2_with fail
  go_ret
  exact ⟨r, rfl, hr, hr2, (hW.mono (by omega)).trans HWi.out.below, fun m hm hmw => (HWi.out.above m hm (by simp; omega)).trans (hW.block m hmw)⟩

end Go.Proofs.Ytfjhpfgffbghdaa

namespace Go.Proofs.Ytfjhpfgffbghdaa
open Go.RowKit

set_option maxHeartbeats 2000000 in
set_option maxRecDepth 100000 in
theorem markHolds_any (k0 : Int) (hk0 : 0 ≤ k0) (hk1 : k0 ≤ 1500000000000000000) (lo hi : Nat) (v : Value) (l : List PHold) (w : World) (h : HoldsOwn lo hi w v l) (_hhi : hi ≤ w.heap.size) (hl : l.length ≤ 1048576) :
    Calls Try.prog 20 #[v, .int .i64 k0] w fun e w' => ∃ r, e = .returned (.int .i64 r) ∧ 0 ≤ r ∧ Within w w' lo hi := by
  obtain ⟨b, cap, cs, rfl, hcap, hlo, hbh, hh, hrow⟩ := h
  have hsz : Hid (∀ j, j < l.length → j * 3 + 2 < cs.size) := fun j hj => (Array.getElem?_eq_some_iff.1 (hrow j hj).2.2).1
  have HH := hide hh
  clear hrow hh
  go_enter Try.func20, Try.ntmps20
  go_wp2_with fail
  go_loopw [1, 5] (fun kv i wr => ∃ (j : Nat) (cs' : Array Value), j ≤ l.length ∧ kv = .int .i64 (k0 + j * 3) ∧ i = .int .i64 j ∧ Hid (wr.heap[b]? = some (.cells cs' 42 (0, 0))) ∧ cs'.size = cs.size ∧ Hid (Within w wr lo hi)) (fun _ i _ => l.length - (intOf i).toNat)
  case atStart => exact ⟨0, cs, Nat.zero_le _, by simp, rfl, HH, rfl, ⟨Below.refl _ _, fun _ _ _ => rfl⟩⟩
  case round =>
    obtain ⟨j, cs', hj, rfl, rfl, hbl, hcs, hwi⟩ := hrel
    by_cases hlt : j < l.length
    · have h3 := hsz.out j hlt
      have hbw : b < wr.heap.size := (Array.getElem?_eq_some_iff.1 hbl.out).1
      have hcell : ∀ o, o < 3 → ∃ u, wr.cell? ⟨b, j * 3 + o, none⟩ = some u := fun o ho => by
        rw [cell_of_heap hbl.out (j * 3 + o)]
        exact ⟨_, Array.getElem?_eq_getElem (by omega)⟩
      obtain ⟨v0, d0⟩ := hcell 0 (by omega)
      obtain ⟨v1, d1⟩ := hcell 1 (by omega)
      obtain ⟨v2, d2⟩ := hcell 2 (by omega)
      have z0 := frozen_of_heap hbl.out (j * 3)
      have z1 := frozen_of_heap hbl.out (j * 3 + 1)
      have z2 := frozen_of_heap hbl.out (j * 3 + 2)
      rw [Nat.add_zero] at d0
      have hlt1 : (j : Int) < (l.length : Int) := by omega
      clear hcell
      go_wp2_with fail
      refine ⟨⟨j + 1, (((cs'.setIfInBounds (j * 3) _).setIfInBounds (j * 3 + 1) _).setIfInBounds (j * 3 + 2) _), by omega, by go_num, by go_num, heap_setCell_same _ b _ _ _ _ (heap_setCell_same _ b _ _ _ _ (heap_setCell_same wr b _ _ _ _ hbl.out)), by simp [hcs], ?_⟩, by simp [intOf]; omega⟩
      refine ⟨((hwi.out.below.setCell (p := ⟨b, j * 3, none⟩) hlo _).setCell (p := ⟨b, j * 3 + 1, none⟩) hlo _).setCell (p := ⟨b, j * 3 + 2, none⟩) hlo _, fun m hm hmw => ?_⟩
      rw [heap_setCell_other _ _ _ _ (by show m ≠ b; omega), heap_setCell_other _ _ _ _ (by show m ≠ b; omega), heap_setCell_other _ _ _ _ (by show m ≠ b; omega)]
      exact hwi.out.above m hm hmw
    · go_wp2_with fail
      go_ret
      exact ⟨k0 + j * 3, rfl, by omega, hwi.out⟩
end Go.Proofs.Ytfjhpfgffbghdaa
