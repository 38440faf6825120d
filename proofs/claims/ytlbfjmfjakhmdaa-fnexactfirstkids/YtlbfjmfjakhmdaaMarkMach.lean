/-
  The law package's marks on a machine: they are written into its own memory, and nowhere else.
-/
import Derived.Test.YtlbfjmfjakhmdaaMarkKeeps
import Derived.Test.YtlbfjmfjakhmdaaMachSz
namespace Go.Proofs.Ytlbfjmfjakhmdaa
open Go.RowKit

theorem IntsOwn.fits {lo hi : Nat} {w : World} {v : Value} {ks : List Int} (h : IntsOwn lo hi w v ks) : ∃ b cap cs, v = .slice (some ⟨b, 0, none⟩) ks.length cap ∧ lo ≤ b ∧ b < hi ∧ w.heap[b]? = some (.cells cs 3 (0, 0)) ∧ ks.length ≤ cs.size := by
  obtain ⟨b, cap, cs, rfl, h1, h2, h3, h4⟩ := h
  refine ⟨b, cap, cs, rfl, h1, h2, h3, ?_⟩
  rcases Nat.lt_or_ge cs.size ks.length with h | h
  · have := h4 cs.size h
    simp at this
  · exact h

set_option maxHeartbeats 400000 in
theorem markBools_any (b n cap : Nat) (k : Int) (cs : Array Value) (w : World) (hh : w.heap[b]? = some (.cells cs 4 (0, 0))) (hsz : n ≤ cs.size) (hn : n ≤ 1048576) (hk0 : 0 ≤ k) (hk : k ≤ 1000000000000000000) :
    Calls Try.prog 38 #[.slice (some ⟨b, 0, none⟩) n cap, .int .i64 k] w fun e w' => e = .returned (.int .i64 (k + n)) ∧ Within w w' b (b + 1) := by
  have hb0 := (Array.getElem?_eq_some_iff.1 hh).1
  have H1 := hide hh
  clear hh
  go_enter Try.func38, Try.ntmps38
  go_wp2_with fail
  go_loopw [1, 5] (fun kv i wr => ∃ (j : Nat) (cs' : Array Value), j ≤ n ∧ kv = .int .i64 (k + j) ∧ i = .int .i64 j ∧ Within w wr b (b + 1) ∧ Hid (wr.heap[b]? = some (.cells cs' 4 (0, 0))) ∧ cs'.size = cs.size) (fun _ i _ => n - (intOf i).toNat)
  case atStart => exact ⟨0, cs, Nat.zero_le _, by simp, rfl, ⟨Below.refl _ _, fun _ _ _ => rfl⟩, H1, rfl⟩
  case round =>
    obtain ⟨j, cs', hj, rfl, rfl, hwi, hbl, hcs⟩ := hrel
    by_cases hlt : j < n
    · have hc : wr.cell? ⟨b, j, none⟩ = some (cs'[j]?.getD (.bool false)) := by
        rw [cell_of_heap hbl.out j]
        have : j < cs'.size := by omega
        simp [this]
      have hfz := frozen_of_heap hbl.out j
      have hlt1 : (j : Int) < (n : Int) := by omega
      have hkj : (0 : Int) ≤ k + j := by omega
      generalize cs'[j]?.getD (.bool false) = old at *
      go_wp2_with fail
      refine ⟨⟨j + 1, cs'.setIfInBounds j _, by omega, by go_num, by go_num, ⟨hwi.below.setCell (p := ⟨b, j, none⟩) (Nat.le_refl _) _, fun m hm hmw => (heap_setCell_other _ _ _ _ (by show m ≠ b; omega)).trans (hwi.above m hm hmw)⟩, heap_setCell_same _ _ _ _ _ _ hbl.out, by simp [hcs]⟩, by simp [intOf]; omega⟩
    · obtain rfl : j = n := by omega
      go_wp2_with fail
      go_ret
      exact ⟨rfl, hwi⟩

set_option maxHeartbeats 1000000 in
set_option maxRecDepth 100000 in
theorem markRows_any (lo hi : Nat) (v : Value) (l : List (List Int)) (w : World) (h : RowsOwn lo hi w v l) (_hhi : hi ≤ w.heap.size) (hl : l.length ≤ 1048576) (hkl : ∀ x ∈ l, x.length ≤ 1048576) :
    Calls Try.prog 37 #[v, .int .i64 1] w fun e w' => ∃ r, e = .returned (.int .i64 r) ∧ 0 ≤ r ∧ r ≤ 1000000000000000 ∧ Within w w' lo hi := by
  obtain ⟨b, cap, cs, rfl, hcp, hlo, hbh, hh, hrow⟩ := h
  have HRow : Hid (∀ i, i < l.length → ∃ bk ck, cs[i]? = some (.slice (some ⟨bk, 0, none⟩) (l[i]?.getD []).length ck) ∧ b < bk ∧ bk < hi ∧ ∃ c5, w.heap[bk]? = some (.cells c5 3 (0, 0)) ∧ (l[i]?.getD []).length ≤ c5.size) := fun i hi' => by
    obtain ⟨kv, g4, g5⟩ := hrow i hi'
    obtain ⟨bk, ck, c5, rfl, k1, k2, k3, k4⟩ := g5.fits
    exact ⟨bk, ck, g4, by omega, k2, c5, k3, k4⟩
  have HKL := hide hkl
  have HH := hide hh
  clear hrow hkl hh
  go_enter Try.func37, Try.ntmps37
  go_wp2_with fail
  go_loopw [1, 5] (fun kv i wr => ∃ (j : Nat) (y : Int), j ≤ l.length ∧ kv = .int .i64 y ∧ 0 ≤ y ∧ y ≤ 1 + j * 1048580 ∧ i = .int .i64 j ∧ Hid (wr.heap[b]? = some (.cells cs 32 (0, 0))) ∧ Hid (KeepsSizes w wr) ∧ Hid (Within w wr lo hi)) (fun _ i _ => l.length - (intOf i).toNat)
  case atStart => exact ⟨0, 1, Nat.zero_le _, rfl, by omega, by omega, rfl, HH, fun _ _ _ h => ⟨_, h, rfl⟩, ⟨Below.refl _ _, fun _ _ _ => rfl⟩⟩
  case round =>
    obtain ⟨j, y, hj, rfl, hy0, hy1, rfl, hbl, hks, hwi⟩ := hrel
    by_cases hlt : j < l.length
    · obtain ⟨bk, ck, g4, hbk, hbk2, c5, hc5, hn5⟩ := HRow.out j hlt
      have hkx : (l[j]?.getD []).length ≤ 1048576 := HKL.out _ (by simp [hlt])
      generalize (l[j]?.getD []).length = n at *
      have hbw : b < wr.heap.size := (Array.getElem?_eq_some_iff.1 hbl.out).1
      have d4 : wr.cell? ⟨b, j, none⟩ = some (.slice (some ⟨bk, 0, none⟩) n ck) := (cell_of_heap hbl.out j).trans g4
      have hlt1 : (j : Int) < (l.length : Int) := by omega
      have HRi : Hid (RowIn wr (some ⟨bk, 0, none⟩) n 3) := by
        obtain ⟨c6, h6, s6⟩ := hks.out bk c5 _ hc5
        exact .inr ⟨bk, c6, rfl, h6, by omega⟩
      clear hc5
      go_wp2_with fail
      refine (markInts_keeps (some ⟨bk, 0, none⟩) n ck _ _ HRi.out (by omega) (by omega) (by omega)).mono ?_
      rintro e w6 ⟨rfl, ho, hk6⟩
      go_wp2_with fail
      refine ⟨⟨j + 1, _, by omega, rfl, by omega, by omega, by go_num, ?_, hks.out.trans hk6, ?_⟩, by simp [intOf]; omega⟩
      · exact (ho.same b (fun b2 e2 => by cases e2; omega)).trans hbl.out
      · refine ⟨hwi.out.below.trans (ho.below lo (fun b2 e2 => by cases e2; omega)), fun m hm hmw => ?_⟩
        rw [ho.same m (fun b2 e2 => by cases e2; omega)]
        exact hwi.out.above m hm hmw
    · clear hks
      go_wp2_with fail
      go_ret
      exact ⟨y, rfl, hy0, by omega, hwi.out⟩

set_option maxHeartbeats 400000 in
theorem markMach_any (lo hi : Nat) (v : Value) (m : PMach) (w : World) (h : MachOwn lo hi w v m) (hhi : hi ≤ w.heap.size) (hl : SmallMach m) :
    Calls Try.prog 18 #[v, .int .i64 1] w fun e w' => ∃ r, e = .returned (.int .i64 r) ∧ 0 ≤ r ∧ Within w w' lo hi := by
  obtain ⟨nv, fv, mid, rfl, hlm, hmh, hR, hB⟩ := h
  have hW : ∀ o, Below w.heap.size w (w.alloc o) := fun o => (Below.refl w.heap.size w).alloc (Nat.le_refl _) o
  have hR2 := hR
  obtain ⟨b, cap, cs, rfl, hcp, hlo, hbh, -⟩ := hR
  obtain ⟨bf, capf, csf, rfl, hcpf, hlof, hbhf, hhf, hcf⟩ := hB
  have hsf : m.final.length ≤ csf.size := by
    rcases Nat.lt_or_ge csf.size m.final.length with h | h
    · have := hcf csf.size h
      simp at this
    · exact h
  have HM := hide (markRows_any lo mid _ m.next (w.alloc (.cells #[.slice (some ⟨b, 0, none⟩) m.next.length cap, .slice (some ⟨bf, 0, none⟩) m.final.length capf] 28)) (hR2.below ((hW _).mono (by omega))) (by simp; omega) hl.next hl.rows)
  have HHf := hide hhf
  have hlf := hl.final
  clear hl hR2 hcf hhf
  go_enter Try.func18, Try.ntmps18
  go_wp2_with fail
  refine HM.out.mono ?_
  rintro e w1 ⟨r, rfl, hr0, hr1, hw⟩
  have hs1 := hw.below.size
  have HWi := hide hw
  have h1b : w1.heap[bf]? = some (.cells csf 4 (0, 0)) := (hw.above bf hlof (by simp; omega)).trans (((hW _).block bf (by omega)).trans HHf.out)
  have hbox : w1.heap[w.heap.size]? = some (.cells #[.slice (some ⟨b, 0, none⟩) m.next.length cap, .slice (some ⟨bf, 0, none⟩) m.final.length capf] 28 (0, 0)) := (hw.above w.heap.size (by omega) (by simp)).trans (alloc_new _ _)
  have c1 : w1.cell? ⟨w.heap.size, 1, none⟩ = some (.slice (some ⟨bf, 0, none⟩) m.final.length capf) := by rw [cell_of_heap hbox]; rfl
  have hz : w.heap.size < w1.heap.size := (Array.getElem?_eq_some_iff.1 hbox).1
  have HB := hide (markBools_any bf m.final.length capf r csf w1 h1b hsf hlf hr0 (by omega))
  clear hw HM h1b hbox
  go_wp2_with fail
  refine HB.out.mono ?_
  rintro e w2 ⟨rfl, hw2⟩
  have HW2 := hide hw2
  clear hw2
  go_wp2_with fail
  go_ret
  refine ⟨_, rfl, by omega, (((hW _).mono (by omega)).trans HWi.out.below).trans (HW2.out.below.mono (by omega)), fun k hk hkw => ?_⟩
  rw [HW2.out.above k (by omega) (by omega), HWi.out.above k (by omega) (by simp; omega)]
  exact (hW _).block k hkw
end Go.Proofs.Ytlbfjmfjakhmdaa
