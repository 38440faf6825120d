/-
  The law package's marks on a whole document: where they write, and how far they count.
  The law package's marks on a list of holds: where they write.
  The law package's marks on a table: where they write.
  How the law package compares two tables, and asks whether one is small enough.
  The law package's marks on a list of numbers, and whether they are held.
  A list of numbers in a block of its own, or none; what is written elsewhere leaves it.
-/
import Derived.Test.YtfjhpfgffbghdaaGreatDoorJoinL
import Derived.Test.YtfjhpfgffbghdaaGreatDoorJoinG
import Derived.Test.YtfjhpfgffbghdaaGreatDoorJoinC
namespace Go.Proofs.YtfjhpfgffbghdaaGreatDoor
open Go.RowKit

set_option maxHeartbeats 2000000 in
set_option maxRecDepth 100000 in
theorem markNodes_upto (k0 : Int) (hk0 : 0 ≤ k0) (hk1 : k0 ≤ 1500000000000000000) (lo hi : Nat) (v : Value) (l : List PNode) (w : World) (h : NodesOwn lo hi w v l) (_hhi : hi ≤ w.heap.size) (hl : l.length ≤ 1048576) (hkl : ∀ x ∈ l, x.kids.length ≤ 1048576) :
    Calls Tryz.prog 39 #[v, .int .i64 k0] w fun e w' => ∃ r, e = .returned (.int .i64 r) ∧ 0 ≤ r ∧ r ≤ k0 + 1099515822080 ∧ Within w w' lo hi := by
  obtain ⟨b, cap, cs, rfl, hlo, hbh, hh, hrow⟩ := h
  have hrow2 : ∀ i, i < l.length → ∃ bk ck, cs[i * 5 + 4]? = some (.slice (some ⟨bk, 0, none⟩) (l[i]?.getD nodeNil).kids.length ck) ∧ b < bk ∧ bk < hi ∧ ∃ c5, w.heap[bk]? = some (.cells c5 3 (0, 0)) ∧ (l[i]?.getD nodeNil).kids.length ≤ c5.size := fun i hi' => by
    obtain ⟨kv, -, -, -, -, g4, bk, ck, c5, rfl, k1, k2, k3, k4⟩ := hrow i hi'
    refine ⟨bk, ck, g4, by omega, k2, c5, k3, ?_⟩
    rcases Nat.lt_or_ge c5.size (l[i]?.getD nodeNil).kids.length with hlt | hge
    · have := k4 c5.size hlt
      simp at this
    · exact hge
  have hsz5 : ∀ i, i < l.length → i * 5 + 4 < cs.size := fun i hi' => by
    obtain ⟨_, _, g, _⟩ := hrow2 i hi'
    exact (Array.getElem?_eq_some_iff.1 g).1
  have HRow := hide hrow2
  have HS5 := hide hsz5
  have HKL := hide hkl
  have HH := hide hh
  clear hrow hrow2 hsz5 hkl hh
  go_enter Tryz.func39, Tryz.ntmps39
  go_wp2_with fail
  go_loopw [1, 5] (fun kv i wr => ∃ (j : Nat) (y : Int) (cs' : Array Value), j ≤ l.length ∧ kv = .int .i64 y ∧ 0 ≤ y ∧ y ≤ k0 + j * 1048580 ∧ i = .int .i64 j ∧ Hid (wr.heap[b]? = some (.cells cs' 84 (0, 0))) ∧ cs'.size = cs.size ∧ Hid (∀ i, i < l.length → cs'[i * 5 + 4]? = cs[i * 5 + 4]?) ∧ Hid (KeepsSizes w wr) ∧ Hid (Within w wr lo hi)) (fun _ i _ => l.length - (intOf i).toNat)
  case atStart => exact ⟨0, k0, cs, Nat.zero_le _, rfl, by omega, by omega, rfl, HH, rfl, fun _ _ => rfl, fun _ _ _ h => ⟨_, h, rfl⟩, ⟨Below.refl _ _, fun _ _ _ => rfl⟩⟩
  case round =>
    obtain ⟨j, y, cs', hj, rfl, hy0, hy1, rfl, hbl, hcs, hk4, hks, hwi⟩ := hrel
    by_cases hlt : j < l.length
    · obtain ⟨bk, ck, g4, hbk, hbk2, c5, hc5, hn5⟩ := HRow.out j hlt
      have h5 := HS5.out j hlt
      have hkx : (l[j]?.getD nodeNil).kids.length ≤ 1048576 := HKL.out _ (by simp [hlt])
      generalize (l[j]?.getD nodeNil).kids.length = n at *
      have hwb := hwi.out.below.size
      have hbw : b < wr.heap.size := (Array.getElem?_eq_some_iff.1 hbl.out).1
      have hcell : ∀ o, o < 5 → ∃ u, wr.cell? ⟨b, j * 5 + o, none⟩ = some u := fun o ho => by
        rw [cell_of_heap hbl.out (j * 5 + o)]
        exact ⟨_, Array.getElem?_eq_getElem (by omega)⟩
      obtain ⟨v0, d0⟩ := hcell 0 (by omega)
      obtain ⟨v1, d1⟩ := hcell 1 (by omega)
      obtain ⟨v2, d2⟩ := hcell 2 (by omega)
      obtain ⟨v3, d3⟩ := hcell 3 (by omega)
      have d4 : wr.cell? ⟨b, j * 5 + 4, none⟩ = some (.slice (some ⟨bk, 0, none⟩) n ck) := (cell_of_heap hbl.out (j * 5 + 4)).trans ((hk4.out j hlt).trans g4)
      have z0 := frozen_of_heap hbl.out (j * 5)
      have z1 := frozen_of_heap hbl.out (j * 5 + 1)
      have z2 := frozen_of_heap hbl.out (j * 5 + 2)
      have z3 := frozen_of_heap hbl.out (j * 5 + 3)
      rw [Nat.add_zero] at d0
      have hlt1 : (j : Int) < (l.length : Int) := by omega
      clear hcell
      obtain ⟨W3, hW3⟩ : ∃ W3, W3 = ((wr.setCell ⟨b, j * 5, none⟩ (.int .i64 y)).setCell ⟨b, j * 5 + 1, none⟩ (.int .i64 (y + 1))).setCell ⟨b, j * 5 + 2, none⟩ (.int .i64 (y + 1 + 1)) := ⟨_, rfl⟩
      have H3 : Hid (W3.heap[b]? = some (.cells (((cs'.setIfInBounds (j * 5) (.int .i64 y)).setIfInBounds (j * 5 + 1) (.int .i64 (y + 1))).setIfInBounds (j * 5 + 2) (.int .i64 (y + 1 + 1))) 84 (0, 0))) := by
        rw [hW3]; exact heap_setCell_same _ b _ _ _ _ (heap_setCell_same _ b _ _ _ _ (heap_setCell_same wr b _ _ _ _ hbl.out))
      have HK3 : Hid (KeepsSizes wr W3) := by rw [hW3]; exact (keeps_set.trans keeps_set).trans keeps_set
      have HB3 : Hid (Below lo wr W3) := by rw [hW3]; exact (((Below.refl lo wr).setCell (p := ⟨b, j * 5, none⟩) hlo _).setCell (p := ⟨b, j * 5 + 1, none⟩) hlo _).setCell (p := ⟨b, j * 5 + 2, none⟩) hlo _
      have HO3 : Hid (∀ m, m ≠ b → W3.heap[m]? = wr.heap[m]?) := fun m hm => by
        rw [hW3, heap_setCell_other _ _ _ _ (by exact hm), heap_setCell_other _ _ _ _ (by exact hm), heap_setCell_other _ _ _ _ (by exact hm)]
      have HS3 : Hid (W3.heap.size = wr.heap.size) := by rw [hW3]; simp [World.size_setCell, Hid]
      obtain ⟨kk, hkk⟩ : ∃ kk : Nat, y + 1 + 1 + 1 = (kk : Int) := ⟨(y + 1 + 1 + 1).toNat, by omega⟩
      have HKK : Hid (y + 1 + 1 + 1 = (kk : Int)) := hkk
      clear hkk
      go_wp2_with fail
      rw [← hW3]
      refine (markText_big kk _ W3 HKK (by omega) (by omega)).mono ?_
      rintro e w4 ⟨rfl, hb4⟩
      have hs4 := hb4.size
      have hsw3 := HS3.out
      have h4 := (hb4.block b (by omega)).trans H3.out
      have e3 : ∃ u, w4.cell? ⟨b, j * 5 + 3, none⟩ = some u := by rw [cell_of_heap h4]; exact ⟨_, Array.getElem?_eq_getElem (by simp; omega)⟩
      obtain ⟨u3, e3⟩ := e3
      have e4 : w4.cell? ⟨b, j * 5 + 4, none⟩ = some (.slice (some ⟨bk, 0, none⟩) n ck) := by
        rw [cell_of_heap h4]
        simp only [Array.getElem?_setIfInBounds, Array.size_setIfInBounds]
        rw [if_neg (by omega), if_neg (by omega), if_neg (by omega)]
        exact (hk4.out j hlt).trans g4
      have f3 := frozen_of_heap h4 (j * 5 + 3)
      have H4 := hide h4
      clear h4
      generalize markOf kk = mk at *
      go_wp2_with fail
      have hrowin : RowIn (w4.setCell ⟨b, j * 5 + 3, none⟩ (.string mk)) (some ⟨bk, 0, none⟩) n 3 := by
        obtain ⟨c6, h6, s6⟩ := (((hks.out.trans HK3.out).trans (keeps_below hb4)).trans (keeps_set (b := b) (i := j * 5 + 3) (v := .string mk))) bk c5 _ hc5
        exact .inr ⟨bk, c6, rfl, h6, by omega⟩
      refine (markInts_keeps (some ⟨bk, 0, none⟩) n ck _ _ hrowin (by omega) (by omega) (by omega)).mono ?_
      rintro e w6 ⟨rfl, ho, hk6⟩
      go_wp2_with fail
      refine ⟨⟨j + 1, _, (((cs'.setIfInBounds (j * 5) (.int .i64 y)).setIfInBounds (j * 5 + 1) (.int .i64 (y + 1))).setIfInBounds (j * 5 + 2) (.int .i64 (y + 1 + 1))).setIfInBounds (j * 5 + 3) (.string mk), by omega, rfl, by omega, by omega, by go_num, ?_, ?_, ?_, ?_, ?_⟩, by simp [intOf]; omega⟩
      · exact (ho.same b (fun b2 e2 => by cases e2; omega)).trans (heap_setCell_same w4 b _ _ _ _ H4.out)
      · simp [hcs]
      · intro i hi'
        simp only [Array.getElem?_setIfInBounds, Array.size_setIfInBounds]
        rw [if_neg (by omega), if_neg (by omega), if_neg (by omega), if_neg (by omega)]
        exact hk4.out i hi'
      · exact (((hks.out.trans HK3.out).trans (keeps_below hb4)).trans keeps_set).trans hk6
      · refine ⟨(((hwi.out.below.trans HB3.out).trans (hb4.mono (by omega))).trans ((Below.refl lo w4).setCell (p := ⟨b, j * 5 + 3, none⟩) hlo _)).trans (ho.below lo (fun b2 e2 => by cases e2; omega)), fun m hm hmw => ?_⟩
        rw [ho.same m (fun b2 e2 => by cases e2; omega), heap_setCell_other _ _ _ _ (by show m ≠ b; omega), hb4.block m (by omega), HO3.out m (by omega)]
        exact hwi.out.above m hm hmw
    · clear hk4 hks
      go_wp2_with fail
      go_ret
      exact ⟨y, rfl, hy0, by omega, hwi.out⟩

set_option maxHeartbeats 400000 in
theorem markDoc_upto (k0 : Int) (hk0 : 0 ≤ k0) (hk1 : k0 ≤ 1500000000000000000) (lo hi : Nat) (v : Value) (d : PDoc) (w : World) (h : DocOwn lo hi w v d) (hhi : hi ≤ w.heap.size) (hl : d.nodes.length ≤ 1048576) (hkl : ∀ x ∈ d.nodes, x.kids.length ≤ 1048576) :
    Calls Tryz.prog 15 #[v, .int .i64 k0] w fun e w' => ∃ r, e = .returned (.int .i64 r) ∧ 0 ≤ r ∧ r ≤ k0 + 1099515822080 ∧ Within w w' lo hi := by
  obtain ⟨s, rfl, hk⟩ := h
  have hW := (Below.refl w.heap.size w).alloc (Nat.le_refl _) (.cells #[.int .i64 d.root, .int .i64 d.next, s] 38)
  have HM := hide (markNodes_upto k0 hk0 hk1 lo hi s d.nodes (w.alloc (.cells #[.int .i64 d.root, .int .i64 d.next, s] 38)) (hk.below (hW.mono hhi)) (by simp; omega) hl hkl)
  obtain ⟨b, cap, cs, rfl, hlo, hbh, -⟩ := hk
  clear hkl
  go_enter Tryz.func15, Tryz.ntmps15
  go_wp2_with fail
  refine HM.out.mono ?_
  rintro e w1 ⟨r, rfl, hr, hr2, hw⟩
  have HWi := hide hw
  clear hw
  go_wp2_with fail
  go_ret
  exact ⟨r, rfl, hr, hr2, (hW.mono (by omega)).trans HWi.out.below, fun m hm hmw => (HWi.out.above m hm (by simp; omega)).trans (hW.block m hmw)⟩

end Go.Proofs.YtfjhpfgffbghdaaGreatDoor

namespace Go.Proofs.YtfjhpfgffbghdaaGreatDoor
open Go.RowKit

set_option maxHeartbeats 2000000 in
set_option maxRecDepth 100000 in
theorem markHolds_any (k0 : Int) (hk0 : 0 ≤ k0) (hk1 : k0 ≤ 1500000000000000000) (lo hi : Nat) (v : Value) (l : List PHold) (w : World) (h : HoldsOwn lo hi w v l) (_hhi : hi ≤ w.heap.size) (hl : l.length ≤ 1048576) :
    Calls Tryz.prog 40 #[v, .int .i64 k0] w fun e w' => ∃ r, e = .returned (.int .i64 r) ∧ 0 ≤ r ∧ Within w w' lo hi := by
  obtain ⟨b, cap, cs, rfl, hcap, hlo, hbh, hh, hrow⟩ := h
  have hsz : Hid (∀ j, j < l.length → j * 3 + 2 < cs.size) := fun j hj => (Array.getElem?_eq_some_iff.1 (hrow j hj).2.2).1
  have HH := hide hh
  clear hrow hh
  go_enter Tryz.func40, Tryz.ntmps40
  go_wp2_with fail
  go_loopw [1, 5] (fun kv i wr => ∃ (j : Nat) (cs' : Array Value), j ≤ l.length ∧ kv = .int .i64 (k0 + j * 3) ∧ i = .int .i64 j ∧ Hid (wr.heap[b]? = some (.cells cs' 86 (0, 0))) ∧ cs'.size = cs.size ∧ Hid (Within w wr lo hi)) (fun _ i _ => l.length - (intOf i).toNat)
  case atStart => exact ⟨0, cs, Nat.zero_le _, by simp, rfl, HH, rfl, ⟨Below.refl _ _, fun _ _ _ => rfl⟩⟩
  case round =>
    obtain ⟨j, cs', hj, rfl, rfl, hbl, hcs, hwi⟩ := hrel
    by_cases hlt : j < l.length
    · have h3 := hsz.out j hlt
      have hbw : b < wr.heap.size := (Array.getElem?_eq_some_iff.1 hbl.out).1
      have hcell : ∀ o, o < 3 → ∃ u, wr.cell? ⟨b, j * 3 + o, none⟩ = some u := fun o ho => by
        rw [cell_of_heap hbl.out (j * 3 + o)]
        exact ⟨_, Array.getElem?_eq_getElem (by omega)⟩
      obtain ⟨v0, d0⟩ := hcell 0 (by omega)
      obtain ⟨v1, d1⟩ := hcell 1 (by omega)
      obtain ⟨v2, d2⟩ := hcell 2 (by omega)
      have z0 := frozen_of_heap hbl.out (j * 3)
      have z1 := frozen_of_heap hbl.out (j * 3 + 1)
      have z2 := frozen_of_heap hbl.out (j * 3 + 2)
      rw [Nat.add_zero] at d0
      have hlt1 : (j : Int) < (l.length : Int) := by omega
      clear hcell
      go_wp2_with fail
      refine ⟨⟨j + 1, (((cs'.setIfInBounds (j * 3) _).setIfInBounds (j * 3 + 1) _).setIfInBounds (j * 3 + 2) _), by omega, by go_num, by go_num, heap_setCell_same _ b _ _ _ _ (heap_setCell_same _ b _ _ _ _ (heap_setCell_same wr b _ _ _ _ hbl.out)), by simp [hcs], ?_⟩, by simp [intOf]; omega⟩
      refine ⟨((hwi.out.below.setCell (p := ⟨b, j * 3, none⟩) hlo _).setCell (p := ⟨b, j * 3 + 1, none⟩) hlo _).setCell (p := ⟨b, j * 3 + 2, none⟩) hlo _, fun m hm hmw => ?_⟩
      rw [heap_setCell_other _ _ _ _ (by show m ≠ b; omega), heap_setCell_other _ _ _ _ (by show m ≠ b; omega), heap_setCell_other _ _ _ _ (by show m ≠ b; omega)]
      exact hwi.out.above m hm hmw
    · go_wp2_with fail
      go_ret
      exact ⟨k0 + j * 3, rfl, by omega, hwi.out⟩
end Go.Proofs.YtfjhpfgffbghdaaGreatDoor

namespace Go.Proofs.YtfjhpfgffbghdaaGreatDoor
open Go.RowKit

set_option maxHeartbeats 2000000 in
set_option maxRecDepth 100000 in
theorem markBlock_any (k0 : Int) (hk0 : 0 ≤ k0) (hk1 : k0 ≤ 1500000000000000000) (b cap n : Nat) (cs : Array Value) (w : World) (hh : w.heap[b]? = some (.cells cs 86 (0, 0))) (hs : ∀ j, j < n → j * 3 + 2 < cs.size) (hl : n ≤ 1048576) :
    Calls Tryz.prog 40 #[.slice (some ⟨b, 0, none⟩) n cap, .int .i64 k0] w fun e w' => e = .returned (.int .i64 (k0 + n * 3)) ∧ Hid (∃ cs', w'.heap[b]? = some (.cells cs' 86 (0, 0)) ∧ cs'.size = cs.size) ∧ Hid (∀ m, m ≠ b → w'.heap[m]? = w.heap[m]?) ∧ Hid (Below b w w') := by
  have hsz := hide hs
  have HH := hide hh
  clear hh hs
  go_enter Tryz.func40, Tryz.ntmps40
  go_wp2_with fail
  go_loopw [1, 5] (fun kv i wr => ∃ (j : Nat) (cs' : Array Value), j ≤ n ∧ kv = .int .i64 (k0 + j * 3) ∧ i = .int .i64 j ∧ Hid (wr.heap[b]? = some (.cells cs' 86 (0, 0))) ∧ cs'.size = cs.size ∧ Hid (Below b w wr) ∧ Hid (∀ m, m ≠ b → wr.heap[m]? = w.heap[m]?)) (fun _ i _ => n - (intOf i).toNat)
  case atStart => exact ⟨0, cs, Nat.zero_le _, by simp, rfl, HH, rfl, Below.refl _ _, fun _ _ => rfl⟩
  case round =>
    obtain ⟨j, cs', hj, rfl, rfl, hbl, hcs, hbe, hoth⟩ := hrel
    by_cases hlt : j < n
    · have h3 := hsz.out j hlt
      have hbw : b < wr.heap.size := (Array.getElem?_eq_some_iff.1 hbl.out).1
      have hcell : ∀ o, o < 3 → ∃ u, wr.cell? ⟨b, j * 3 + o, none⟩ = some u := fun o ho => by
        rw [cell_of_heap hbl.out (j * 3 + o)]
        exact ⟨_, Array.getElem?_eq_getElem (by omega)⟩
      obtain ⟨v0, d0⟩ := hcell 0 (by omega)
      obtain ⟨v1, d1⟩ := hcell 1 (by omega)
      obtain ⟨v2, d2⟩ := hcell 2 (by omega)
      have z0 := frozen_of_heap hbl.out (j * 3)
      have z1 := frozen_of_heap hbl.out (j * 3 + 1)
      have z2 := frozen_of_heap hbl.out (j * 3 + 2)
      rw [Nat.add_zero] at d0
      have hlt1 : (j : Int) < (n : Int) := by omega
      clear hcell
      go_wp2_with fail
      refine ⟨⟨j + 1, (((cs'.setIfInBounds (j * 3) _).setIfInBounds (j * 3 + 1) _).setIfInBounds (j * 3 + 2) _), by omega, by go_num, by go_num, heap_setCell_same _ b _ _ _ _ (heap_setCell_same _ b _ _ _ _ (heap_setCell_same wr b _ _ _ _ hbl.out)), by simp [hcs], ?_, fun m hm => ?_⟩, by simp [intOf]; omega⟩
      · exact ((hbe.out.setCell (p := ⟨b, j * 3, none⟩) (Nat.le_refl _) _).setCell (p := ⟨b, j * 3 + 1, none⟩) (Nat.le_refl _) _).setCell (p := ⟨b, j * 3 + 2, none⟩) (Nat.le_refl _) _
      · rw [heap_setCell_other _ _ _ _ (by exact hm), heap_setCell_other _ _ _ _ (by exact hm), heap_setCell_other _ _ _ _ (by exact hm)]
        exact hoth.out m hm
    · obtain rfl : j = n := by omega
      go_wp2_with fail
      go_ret
      exact ⟨rfl, ⟨cs', hbl.out, hcs⟩, hoth, hbe⟩

set_option maxHeartbeats 1000000 in
set_option maxRecDepth 100000 in
theorem markTable_any (k0 : Int) (hk0 : 0 ≤ k0) (hk1 : k0 ≤ 1000000000000000000) (lo hi : Nat) (v : Value) (t : PTab) (w : World) (h : TabOwn lo hi w v t) (hhi : hi ≤ w.heap.size) (S : SmallT t) :
    Calls Tryz.prog 16 #[v, .int .i64 k0] w fun e w' => ∃ r, e = .returned (.int .i64 r) ∧ 0 ≤ r ∧ Within w w' lo hi := by
  obtain ⟨_, _, rfl, ⟨b1, cap1, cs1, rfl, -, hlo1, hb1, hh1, hr1⟩, b2, cap2, cs2, rfl, -, hlo2, hb2, hh2, hr2⟩ := h
  have hz1 : ∀ j, j < t.holds.length → j * 3 + 2 < cs1.size := fun j hj => (Array.getElem?_eq_some_iff.1 (hr1 j hj).2.2).1
  have hz2 : ∀ j, j < t.waits.length → j * 3 + 2 < cs2.size := fun j hj => (Array.getElem?_eq_some_iff.1 (hr2 j hj).2.2).1
  obtain ⟨W0, hW0⟩ : ∃ W0, W0 = w.alloc (.cells #[.slice (some ⟨b1, 0, none⟩) t.holds.length cap1, .slice (some ⟨b2, 0, none⟩) t.waits.length cap2] 32) := ⟨_, rfl⟩
  have hw0 : Below w.heap.size w W0 := by rw [hW0]; exact (Below.refl w.heap.size w).alloc (Nat.le_refl _) _
  have hs0 : W0.heap.size = w.heap.size + 1 := by rw [hW0]; simp
  have hhb : W0.heap[w.heap.size]? = some (.cells #[.slice (some ⟨b1, 0, none⟩) t.holds.length cap1, .slice (some ⟨b2, 0, none⟩) t.waits.length cap2] 32 (0, 0)) := by rw [hW0]; exact alloc_new w _
  have hl1 : t.holds.length ≤ 1048576 := S.1
  have hl2 : t.waits.length ≤ 1048576 := S.2
  have HM1 := hide (markBlock_any k0 hk0 (by omega) b1 cap1 t.holds.length cs1 W0 ((hw0.block b1 (by omega)).trans hh1) hz1 hl1)
  have HW0 := hide hw0
  have HM2 : Hid (∀ wx : World, (∃ cs', wx.heap[b1]? = some (.cells cs' 86 (0, 0)) ∧ cs'.size = cs1.size) → (∀ m, m ≠ b1 → wx.heap[m]? = W0.heap[m]?) → Calls Tryz.prog 40 #[.slice (some ⟨b2, 0, none⟩) t.waits.length cap2, .int .i64 (k0 + t.holds.length * 3)] wx fun e w' => e = .returned (.int .i64 (k0 + t.holds.length * 3 + t.waits.length * 3)) ∧ Hid (∀ m, m ≠ b2 → w'.heap[m]? = wx.heap[m]?) ∧ Hid (Below b2 wx w')) := fun wx h1 h2 => by
    by_cases e : b2 = b1
    · obtain ⟨cs', h3, h4⟩ := h1
      have e2 : cs2.size = cs1.size := by
        rw [e, hh1] at hh2
        simp only [Option.some.injEq, Obj.cells.injEq, and_true] at hh2
        rw [hh2]
      exact (markBlock_any _ (by omega) (by omega) b2 cap2 t.waits.length cs' wx (by rw [e]; exact h3) (fun j hj => by have := hz2 j hj; omega) hl2).mono fun e w' ⟨a, _, c, f⟩ => ⟨a, c, f⟩
    · exact (markBlock_any _ (by omega) (by omega) b2 cap2 t.waits.length cs2 wx ((h2 b2 e).trans ((hw0.block b2 (by omega)).trans hh2)) hz2 hl2).mono fun e w' ⟨a, _, c, f⟩ => ⟨a, c, f⟩
  have hbox : Hid (∀ wx : World, (∀ m, m ≠ b1 → wx.heap[m]? = W0.heap[m]?) → wx.cell? ⟨w.heap.size, 0, none⟩ = some (.slice (some ⟨b1, 0, none⟩) t.holds.length cap1) ∧ wx.cell? ⟨w.heap.size, 1, none⟩ = some (.slice (some ⟨b2, 0, none⟩) t.waits.length cap2) ∧ w.heap.size < wx.heap.size) := fun wx h => by
    have j := (h w.heap.size (by omega)).trans hhb
    exact ⟨cell_of_heap j 0, cell_of_heap j 1, (Array.getElem?_eq_some_iff.1 j).1⟩
  obtain ⟨x0, x1, x2⟩ := hbox.out W0 fun _ _ => rfl
  have hlo1' := hlo1
  clear hh1 hr1 hh2 hr2 hz1 hz2 hw0 hs0 hhb S
  go_enter Tryz.func16, Tryz.ntmps16
  go_wp2_with fail
  rw [← hW0]
  clear hW0
  refine HM1.out.mono ?_
  rintro e w1 ⟨rfl, hc1, ho1, hbe1⟩
  have HM3 := hide (HM2.out w1 hc1.out ho1.out)
  clear x0 x1 x2
  obtain ⟨x0, x1, x2⟩ := hbox.out w1 ho1.out
  go_wp2_with fail
  refine HM3.out.mono ?_
  rintro e w2 ⟨rfl, ho2, hbe2⟩
  go_wp2_with fail
  go_ret
  refine ⟨_, rfl, by omega, ?_, fun m hm hmw => ?_⟩
  · exact (HW0.out.mono (by omega)).trans ((hbe1.out.mono hlo1).trans (hbe2.out.mono hlo2))
  · exact (ho2.out m (by omega)).trans ((ho1.out m (by omega)).trans (HW0.out.block m hmw))
end Go.Proofs.YtfjhpfgffbghdaaGreatDoor

namespace Go.Proofs.YtfjhpfgffbghdaaGreatDoor
open Go.RowKit

set_option maxHeartbeats 1000000 in
set_option maxRecDepth 100000 in
theorem eqTable_any (n₀ : Nat) (v v' : Value) (t : PTab) (w : World) (h : TabAt n₀ w v t) (h' : TabAt n₀ w v' t) (hn : n₀ ≤ w.heap.size) (S : SmallT t) :
    Calls Tryz.prog 12 #[v, v'] w fun e w' => e = .returned (.bool true) ∧ Below w.heap.size w w' := by
  obtain ⟨v1, v2, rfl, h1, h2⟩ := h
  obtain ⟨u1, u2, rfl, k1, k2⟩ := h'
  obtain ⟨W0, hW0⟩ : ∃ W0, W0 = (w.alloc (.cells #[v1, v2] 32)).alloc (.cells #[u1, u2] 32) := ⟨_, rfl⟩
  have hw0 : Below w.heap.size w W0 := by rw [hW0]; exact ((Below.refl w.heap.size w).alloc (Nat.le_refl _) _).alloc (by simp) _
  have hs0 : W0.heap.size = w.heap.size + 1 + 1 := by rw [hW0]; simp
  have hh0 : W0.heap[w.heap.size]? = some (.cells #[v1, v2] 32 (0, 0)) := by
    rw [hW0, Below.heap_alloc _ _ _ (by simp)]; exact alloc_new w _
  have hh1 : W0.heap[w.heap.size + 1]? = some (.cells #[u1, u2] 32 (0, 0)) := by
    rw [hW0]
    have := alloc_new (w.alloc (.cells #[v1, v2] 32)) (.cells #[u1, u2] 32)
    simpa using this
  have HE1 : Hid (∀ wx, Below w.heap.size w wx → Calls Tryz.prog 37 #[v1, u1] wx fun e w' => e = .returned (.bool true) ∧ Below wx.heap.size wx w') := fun wx hb =>
    eqHolds_any n₀ v1 u1 t.holds wx (h1.below (Nat.le_refl _) (hb.mono hn)) (k1.below (Nat.le_refl _) (hb.mono hn)) (by have := hb.size; omega) S.1
  have HE2 : Hid (∀ wx, Below w.heap.size w wx → Calls Tryz.prog 37 #[v2, u2] wx fun e w' => e = .returned (.bool true) ∧ Below wx.heap.size wx w') := fun wx hb =>
    eqHolds_any n₀ v2 u2 t.waits wx (h2.below (Nat.le_refl _) (hb.mono hn)) (k2.below (Nat.le_refl _) (hb.mono hn)) (by have := hb.size; omega) S.2
  have HB : Hid (∀ wx, Below W0.heap.size W0 wx → (wx.cell? ⟨w.heap.size, 0, none⟩ = some v1 ∧ wx.cell? ⟨w.heap.size, 1, none⟩ = some v2 ∧ wx.cell? ⟨w.heap.size + 1, 0, none⟩ = some u1 ∧ wx.cell? ⟨w.heap.size + 1, 1, none⟩ = some u2) ∧ Below w.heap.size w wx ∧ w.heap.size + 1 + 1 ≤ wx.heap.size) := fun wx hb => by
    have j0 := (hb.block w.heap.size (by omega)).trans hh0
    have j1 := (hb.block (w.heap.size + 1) (by omega)).trans hh1
    exact ⟨⟨cell_of_heap j0 0, cell_of_heap j0 1, cell_of_heap j1 0, cell_of_heap j1 1⟩, hw0.trans (hb.mono (by omega)), by have := hb.size; omega⟩
  obtain ⟨a1, c1, rfl⟩ := h1.form
  obtain ⟨a2, c2, rfl⟩ := h2.form
  obtain ⟨d1, e1, rfl⟩ := k1.form
  obtain ⟨d2, e2, rfl⟩ := k2.form
  have hb0 : Below W0.heap.size W0 W0 := Below.refl _ _
  clear S h1 h2 k1 k2 hw0 hs0 hh0 hh1
  go_enter Tryz.func12, Tryz.ntmps12
  go_wp2_with fail
  rw [← hW0]
  clear hW0
  refine (HE1.out W0 (HB.out _ hb0).2.1).mono ?_
  rintro e w1 ⟨rfl, hb1⟩
  obtain ⟨⟨x0, x1, x2, x3⟩, hbw1, hsz1⟩ := HB.out _ hb1
  have hz1 : w.heap.size < w1.heap.size := by omega
  have hz2 : w.heap.size + 1 < w1.heap.size := by omega
  go_wp2_with fail
  refine (HE2.out w1 hbw1).mono ?_
  rintro e w2 ⟨rfl, hb2⟩
  have hb3 := hbw1.trans (hb2.mono (by omega))
  go_wp2_with fail
  go_ret
  exact ⟨rfl, hb3⟩

set_option maxHeartbeats 1000000 in
theorem szTable_any (n₀ : Nat) (v : Value) (t : PTab) (c : Int) (w : World) (h : TabAt n₀ w v t) (h0 : 0 ≤ c) (h1 : c ≤ 1048576) (F : FitsT t) :
    Calls Tryz.prog 7 #[v, .int .i64 c] w fun e w' => ∃ r, e = .returned (.int .i64 r) ∧ -1 ≤ r ∧ r ≤ c ∧ Hid (0 ≤ r → SmallT t) ∧ Below w.heap.size w w' := by
  obtain ⟨a1, c1, a2, c2, rfl⟩ := h.form
  clear h
  have HS1 := hide (fun wx => szHolds_any a1 t.holds.length c1 c wx h0 h1 F.1)
  have HS2 : Hid (∀ wx q, 0 ≤ q → q ≤ 1048576 → Calls Tryz.prog 25 #[.slice a2 t.waits.length c2, .int .i64 q] wx fun e w' => ∃ r, e = .returned (.int .i64 r) ∧ -1 ≤ r ∧ r ≤ q ∧ (0 ≤ r → t.waits.length ≤ 1048576) ∧ w' = wx) := fun wx q q0 q1 => szHolds_any a2 t.waits.length c2 q wx q0 q1 F.2
  have hW := (Below.refl w.heap.size w).alloc (Nat.le_refl _) (.cells #[.slice a1 t.holds.length c1, .slice a2 t.waits.length c2] 27)
  clear F
  go_enter Tryz.func7, Tryz.ntmps7
  go_wp2_with fail
  refine (HS1.out _).mono ?_
  rintro e w1 ⟨r, rfl, hr1, hr2, hr3, rfl⟩
  by_cases hr : r < 0
  · clear hr3
    go_wp2_with fail
    go_ret
    exact ⟨_, rfl, by omega, by omega, fun h => by omega, hW⟩
  · have HS := hide (hr3 (by omega))
    clear hr3
    go_wp2_with fail
    refine (HS2.out _ r (by omega) (by omega)).mono ?_
    rintro e w2 ⟨r2, rfl, hr21, hr22, hr23, rfl⟩
    by_cases hr2 : r2 < 0
    · clear hr23
      go_wp2_with fail
      go_ret
      exact ⟨_, rfl, by omega, by omega, fun h => by omega, hW⟩
    · have HS' := hide (hr23 (by omega))
      clear hr23
      go_wp2_with fail
      go_ret
      exact ⟨_, rfl, by omega, by omega, fun _ => ⟨HS.out, HS'.out⟩, hW⟩
end Go.Proofs.YtfjhpfgffbghdaaGreatDoor

namespace Go.Proofs.YtfjhpfgffbghdaaGreatDoor
open Go.RowKit

set_option maxHeartbeats 400000 in
theorem heldInts_any (a : Option Addr) (n cap : Nat) (k : Int) (w : World) (h : MarksIn w a n k 3) (hn : n ≤ 1048576) (hk0 : 0 ≤ k) (hk : k ≤ 1000000000000) :
    Calls Tryz.prog 19 #[.slice a n cap, .int .i64 k] w fun e w' => e = .returned (.int .i64 (k + n)) ∧ w' = w := by
  rcases h with rfl | ⟨b, cs, rfl, hh, hsz, hm⟩
  · go_enter Tryz.func19, Tryz.ntmps19
    go_wp2_with fail
    go_loopw [1, 5] (fun kv i wr => kv = .int .i64 k ∧ i = .int .i64 0 ∧ wr = w) (fun _ _ _ => 0)
    case atStart => exact ⟨rfl, rfl, rfl⟩
    case round =>
      obtain ⟨rfl, rfl, rfl⟩ := hrel
      go_wp2_with fail
      go_ret
      exact ⟨ret_int (by simp), rfl⟩
  · have HM := hide hm
    have HH := hide hh
    clear hm hh
    go_enter Tryz.func19, Tryz.ntmps19
    go_wp2_with fail
    go_loopw [1, 5] (fun kv i wr => ∃ j : Nat, j ≤ n ∧ kv = .int .i64 (k + j) ∧ i = .int .i64 j ∧ wr = w) (fun _ i _ => n - (intOf i).toNat)
    case atStart => exact ⟨0, Nat.zero_le _, by simp, rfl, rfl⟩
    case round =>
      obtain ⟨j, hj, rfl, rfl, rfl⟩ := hrel
      by_cases hlt : j < n
      · have hc : wr.cell? ⟨b, j, none⟩ = some (.int .i64 (k + j)) := by rw [cell_of_heap HH.out j]; exact HM.out j hlt
        have hlt1 : (j : Int) < (n : Int) := by omega
        go_wp2_with fail
        exact ⟨⟨j + 1, by omega, by go_num, by go_num, by trivial⟩, by simp [intOf]; omega⟩
      · obtain rfl : j = n := by omega
        go_wp2_with fail
        go_ret
        exact ⟨rfl, rfl⟩
end Go.Proofs.YtfjhpfgffbghdaaGreatDoor

namespace Go.Proofs.YtfjhpfgffbghdaaGreatDoor
open Go.RowKit

def ListIn (lo hi : Nat) (w : World) (v : Value) (ks : List Int) : Prop :=
  ∃ a c, v = .slice a ks.length c ∧ ((a = none ∧ ks = []) ∨ ∃ g cs, a = some ⟨g, 0, none⟩ ∧ lo ≤ g ∧ g < hi ∧ w.heap[g]? = some (.cells cs 3 (0, 0)) ∧ ks.length ≤ cs.size ∧ ∀ j, j < ks.length → cs[j]? = some (.int .i64 (ks[j]?.getD 0)))

theorem ListIn.of_row {lo : Nat} {w : World} {v : Value} {ks : List Int} (h : w.ownsRow lo 3 1 v ks.length (ks.map (Value.int .i64))) : ListIn lo w.heap.size w v ks := by
  obtain ⟨_, ⟨rfl, h0⟩ | ⟨g, cap, cur, rfl, hg, hh, h1, h2, h3, h4⟩⟩ := h
  · have : ks = [] := List.eq_nil_of_length_eq_zero h0
    subst this
    exact ⟨none, 0, rfl, .inl ⟨rfl, rfl⟩⟩
  · refine ⟨_, cap, rfl, .inr ⟨g, cur, rfl, hg, (Array.getElem?_eq_some_iff.1 hh).1, hh, by omega, fun j hj => ?_⟩⟩
    have h5 : (cur.toList.take ks.length)[j]? = (ks.map (Value.int .i64))[j]? := by
      have := h4; simp only [Nat.mul_one] at this; rw [this]
    rw [List.getElem?_take, if_pos hj, Array.getElem?_toList] at h5
    rw [h5]; simp [hj]

theorem ListIn.at {lo hi : Nat} {w : World} {v : Value} {ks : List Int} (h : ListIn lo hi w v ks) : IntsAt hi w v ks := by
  obtain ⟨a, c, rfl, ⟨rfl, rfl⟩ | ⟨g, cs, rfl, h1, h2, h3, h4, h5⟩⟩ := h
  · exact ⟨none, c, rfl, .inl rfl⟩
  · exact ⟨_, c, rfl, .inr ⟨g, 0, rfl, h2, fun j hj => by rw [Nat.zero_add, cell_of_heap h3, h5 j hj]⟩⟩

theorem ListIn.heap {lo hi : Nat} {w w' : World} {v : Value} {ks : List Int} (h : ListIn lo hi w v ks) (hb : ∀ g, lo ≤ g → g < hi → w'.heap[g]? = w.heap[g]?) : ListIn lo hi w' v ks := by
  obtain ⟨a, c, rfl, h | ⟨g, cs, rfl, h1, h2, h3, h4, h5⟩⟩ := h
  · exact ⟨a, c, rfl, .inl h⟩
  · exact ⟨_, c, rfl, .inr ⟨g, cs, rfl, h1, h2, (hb g h1 h2).trans h3, h4, h5⟩⟩

theorem ListIn.below {lo hi : Nat} {w w' : World} {v : Value} {ks : List Int} (h : ListIn lo hi w v ks) (hb : Below hi w w') : ListIn lo hi w' v ks := h.heap fun g _ h2 => hb.block g h2

theorem ListIn.row {lo hi : Nat} {w : World} {v : Value} {ks : List Int} (h : ListIn lo hi w v ks) : ∃ a c, v = .slice a ks.length c ∧ RowIn w a ks.length 3 ∧ (∀ b, a = some ⟨b, 0, none⟩ → lo ≤ b ∧ b < hi) := by
  obtain ⟨a, c, rfl, ⟨rfl, rfl⟩ | ⟨g, cs, rfl, h1, h2, h3, h4, h5⟩⟩ := h
  · exact ⟨none, c, rfl, .inl rfl, fun b hb => by cases hb⟩
  · exact ⟨_, c, rfl, .inr ⟨g, cs, rfl, h3, h4⟩, fun b hb => by cases hb; exact ⟨h1, h2⟩⟩

theorem MarksIn.below {w w' : World} {a : Option Addr} {n : Nat} {k : Int} {T : TypeId} (h : MarksIn w a n k T) (hb : Below w.heap.size w w') : MarksIn w' a n k T := by
  rcases h with h | ⟨b, cs, rfl, h1, h2⟩
  · exact .inl h
  · exact .inr ⟨b, cs, rfl, (hb.block b (Array.getElem?_eq_some_iff.1 h1).1).trans h1, h2⟩
end Go.Proofs.YtfjhpfgffbghdaaGreatDoor
