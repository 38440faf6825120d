/-
  The law package's marks on a whole document: where they write.
-/
import Derived.Test.YtkfklaapoaocdabMarkText
import Derived.Test.YtkfklaapoaocdabLawDoc
namespace Go.Proofs.Ytkfklaapoaocdab
open Go.RowKit

/-- Each block of cells stays one, as long as it was. -/
def KeepsSizes (w w' : World) : Prop := ∀ (m : Nat) (cs : Array Value) (T : TypeId), w.heap[m]? = some (.cells cs T (0, 0)) → ∃ cs', w'.heap[m]? = some (.cells cs' T (0, 0)) ∧ cs'.size = cs.size

theorem keeps_of {w w' : World} {b : Nat} {cs cs' : Array Value} {T : TypeId} (h : w.heap[b]? = some (.cells cs T (0, 0))) (h' : w'.heap[b]? = some (.cells cs' T (0, 0))) (hs : cs'.size = cs.size) (ho : ∀ m, m ≠ b → w'.heap[m]? = w.heap[m]?) : KeepsSizes w w' := fun m c t hm => by
  by_cases e : m = b
  · subst e
    rw [h] at hm
    simp only [Option.some.injEq, Obj.cells.injEq] at hm
    obtain ⟨rfl, rfl, -⟩ := hm
    exact ⟨cs', h', hs⟩
  · exact ⟨c, (ho m e).trans hm, rfl⟩

set_option maxHeartbeats 400000 in
theorem markInts_keeps (a : Option Addr) (n cap : Nat) (k : Int) (w : World) (h : RowIn w a n 3) (hn : n ≤ 1048576) (hk0 : 0 ≤ k) (hk : k ≤ 1000000000000000) :
    Calls Try.prog 19 #[.slice a n cap, .int .i64 k] w fun e w' => e = .returned (.int .i64 (k + n)) ∧ OnlyRow w w' a ∧ KeepsSizes w w' := by
  rcases h with rfl | ⟨b, cs, rfl, hh, hsz⟩
  · go_enter Try.func19, Try.ntmps19
    go_wp2_with fail
    go_loopw [1, 5] (fun kv i wr => kv = .int .i64 k ∧ i = .int .i64 0 ∧ wr = w) (fun _ _ _ => 0)
    case atStart => exact ⟨rfl, rfl, rfl⟩
    case round =>
      obtain ⟨rfl, rfl, rfl⟩ := hrel
      go_wp2_with fail
      go_ret
      exact ⟨ret_int (by simp), ⟨rfl, fun _ _ => rfl, fun _ _ => Below.refl _ _⟩, fun _ _ _ h => ⟨_, h, rfl⟩⟩
  · go_enter Try.func19, Try.ntmps19
    go_wp2_with fail
    go_loopw [1, 5] (fun kv i wr => ∃ (j : Nat) (cs' : Array Value), j ≤ n ∧ kv = .int .i64 (k + j) ∧ i = .int .i64 j ∧ wr.heap.size = w.heap.size ∧ Below b w wr ∧ Hid (∀ m, m ≠ b → wr.heap[m]? = w.heap[m]?) ∧ wr.heap[b]? = some (.cells cs' 3 (0, 0)) ∧ cs'.size = cs.size ∧ Hid (∀ i, i < j → cs'[i]? = some (.int .i64 (k + i)))) (fun _ i _ => n - (intOf i).toNat)
    case atStart => exact ⟨0, cs, Nat.zero_le _, by simp, rfl, rfl, Below.refl _ _, fun _ _ => rfl, hh, rfl, fun i hi => absurd hi (by omega)⟩
    case round =>
      obtain ⟨j, cs', hj, rfl, rfl, hsw, hbl0, hoth, hbl, hcs, hmk⟩ := hrel
      by_cases hlt : j < n
      · have hc : wr.cell? ⟨b, j, none⟩ = some (cs'[j]?.getD (.int .i64 0)) := by
          rw [cell_of_heap hbl j]
          have : j < cs'.size := by omega
          simp [this]
        have hfz := frozen_of_heap hbl j
        have hlt1 : (j : Int) < (n : Int) := by omega
        have HH := hide hbl
        have H1 := hide hh
        clear hbl hh
        generalize cs'[j]?.getD (.int .i64 0) = old at *
        go_wp2_with fail
        refine ⟨⟨j + 1, cs'.setIfInBounds j (.int .i64 (k + j)), by omega, by go_num, by go_num, by simp [hsw], hbl0.setCell (p := ⟨b, j, none⟩) (Nat.le_refl _) _, fun m hm => ?_, ?_, by simp [hcs], fun i hi => ?_⟩, by simp [intOf]; omega⟩
        · rw [heap_setCell_other _ _ _ _ (by exact hm)]; exact hoth.out m hm
        · exact heap_setCell_same _ _ _ _ _ _ HH.out
        · rw [Array.getElem?_setIfInBounds]
          rcases Nat.lt_succ_iff_lt_or_eq.1 hi with h | rfl
          · rw [if_neg (by omega)]; exact hmk.out i h
          · rw [if_pos rfl, if_pos (by omega)]
      · obtain rfl : j = n := by omega
        have HH := hide hbl
        have H1 := hide hh
        clear hbl hh
        go_wp2_with fail
        go_ret
        exact ⟨rfl, ⟨hsw, fun m hm => hoth.out m (hm b rfl), fun n hn => hbl0.mono (hn b rfl)⟩, keeps_of H1.out HH.out hcs hoth.out⟩

set_option maxHeartbeats 1000000 in
set_option maxRecDepth 100000 in
theorem markText_big (k : Nat) (x : Int) (w : World) (hx : Hid (x = k)) (hk0 : 0 ≤ x) (hk : x ≤ 1000000000000000) :
    Calls Try.prog 53 #[.int .i64 x] w fun e w' => e = .returned (.string (markOf k)) ∧ Below w.heap.size w w' := by
  by_cases h0 : x ≤ 0
  · have HM : Hid (markOf k = ⟨#[109, 48]⟩) := by have := hx.out; unfold Hid markOf; rw [if_pos (by omega)]
    generalize markOf k = mk at *
    go_enter Try.func53, Try.ntmps53
    go_wp2_with fail
    go_ret
    exact ⟨ret_str HM.out.symm, Below.refl _ _⟩
  · have HM : Hid (markOf k = ⟨#[109]⟩ ++ decB k) := by have := hx.out; unfold Hid markOf; rw [if_neg (by omega)]
    generalize markOf k = mk at *
    obtain ⟨dk, hdk⟩ : ∃ dk, dk = decB k := ⟨_, rfl⟩
    rw [← hdk] at HM
    have HD := hide hdk
    clear hdk
    go_enter Try.func53, Try.ntmps53
    go_wp2_with fail
    go_loopw [0, 3] (fun kv o wr => ∃ (m : Nat) (y : Int) (out : ByteArray), kv = .int .i64 y ∧ Hid (y = m) ∧ 0 ≤ y ∧ y ≤ 1000000000000000 ∧ o = .string out ∧ (out.size : Int) ≤ 1000000000000000 - y ∧ Hid (decB m ++ out = dk) ∧ Below w.heap.size w wr) (fun kv _ _ => (intOf kv).toNat)
    case atStart => exact ⟨k, x, ⟨#[]⟩, rfl, hx, hk0, hk, rfl, by show ((0 : Nat) : Int) ≤ _; omega, by unfold Hid; rw [HD.out, app_nil], Below.refl _ _⟩
    case round =>
      obtain ⟨m, y, out, rfl, hy, hy0, hy1, rfl, hos, hout, hbr⟩ := hrel
      have hos2 : out.size ≤ 1000000000000000 := by omega
      have hs1 : ∀ c, (⟨#[c]⟩ : ByteArray).size = 1 := fun _ => rfl
      by_cases hm0 : y ≤ 0
      · have he : Hid (out = dk) := by
          have := hout.out
          have h1 := hy.out
          rw [show m = 0 by omega, decB_zero, nil_app] at this
          exact this
        clear hout
        go_wp2_with fail
        go_ret
        exact ⟨ret_str (by rw [HM.out, he.out]), hbr⟩
      · have h1 := hy.out
        obtain ⟨q, hq⟩ : ∃ q : Int, q = ((m % 10 : Nat) : Int) := ⟨_, rfl⟩
        obtain ⟨z, hz⟩ : ∃ z : Int, z = ((m / 10 : Nat) : Int) := ⟨_, rfl⟩
        obtain ⟨c, hc⟩ : ∃ c : Nat, c = 48 + m % 10 := ⟨_, rfl⟩
        have htm : y.tmod 10 = q := by rw [Int.tmod_eq_emod_of_nonneg hy0]; omega
        have htd : y.tdiv 10 = z := by rw [Int.tdiv_eq_ediv_of_nonneg hy0]; omega
        have hq0 : 0 ≤ q := by omega
        have hq9 : q ≤ 9 := by omega
        have hz0 : 0 ≤ z := by omega
        have hzy : z < y := by omega
        have HZ : Hid (z = ((m / 10 : Nat) : Int)) := hz
        have hc2 : c < 256 := by omega
        have hw8 : IntKind.u8.wrap (48 + q) = (c : Int) := by rw [IntKind.wrap_u8]; omega
        have hnew : Hid (decB (m / 10) ++ ((⟨#[c.toUInt8]⟩ : ByteArray) ++ out) = dk) := by
          have := hout.out
          rw [decB_pos (by omega), ByteArray.append_assoc, ← hc] at this
          exact this
        have hconv := digit_text wr c hc2
        clear hout h1 hq hz hc
        go_wp2_with fail
        refine ⟨⟨m / 10, z, _, rfl, HZ, hz0, by omega, rfl, ?_, hnew, hbr.alloc hbr.size _⟩, by simp [intOf]; omega⟩
        rw [ByteArray.size_append, hs1]; omega

theorem KeepsSizes.trans {A B C : World} (h : KeepsSizes A B) (k : KeepsSizes B C) : KeepsSizes A C := fun m cs T hm => by
  obtain ⟨c1, h1, e1⟩ := h m cs T hm
  obtain ⟨c2, h2, e2⟩ := k m c1 T h1
  exact ⟨c2, h2, e2.trans e1⟩
theorem keeps_below {A B : World} (hb : Below A.heap.size A B) : KeepsSizes A B := fun m cs _ hm => ⟨cs, (hb.block m (Array.getElem?_eq_some_iff.1 hm).1).trans hm, rfl⟩
theorem keeps_set {A : World} {b i : Nat} {v : Value} : KeepsSizes A (A.setCell ⟨b, i, none⟩ v) := fun m cs T hm => by
  by_cases e : m = b
  · subst e; exact ⟨_, heap_setCell_same _ _ _ _ _ _ hm, by simp⟩
  · exact ⟨cs, (heap_setCell_other _ _ _ _ (by exact e)).trans hm, rfl⟩

/-- What is written lies from lo on, below hi. -/
structure Within (w w' : World) (lo hi : Nat) : Prop where
  below : Below lo w w'
  above : ∀ m, hi ≤ m → m < w.heap.size → w'.heap[m]? = w.heap[m]?

set_option maxHeartbeats 2000000 in
set_option maxRecDepth 100000 in
theorem markNodes_any (lo hi : Nat) (v : Value) (l : List PNode) (w : World) (h : NodesOwn lo hi w v l) (_hhi : hi ≤ w.heap.size) (hl : l.length ≤ 1048576) (hkl : ∀ x ∈ l, x.kids.length ≤ 1048576) :
    Calls Try.prog 36 #[v, .int .i64 1] w fun e w' => ∃ r, e = .returned (.int .i64 r) ∧ 0 ≤ r ∧ Within w w' lo hi := by
  obtain ⟨b, cap, cs, rfl, hlo, hbh, hh, hrow⟩ := h
  have hrow2 : ∀ i, i < l.length → ∃ bk ck, cs[i * 5 + 4]? = some (.slice (some ⟨bk, 0, none⟩) (l[i]?.getD nodeNil).kids.length ck) ∧ b < bk ∧ bk < hi ∧ ∃ c5, w.heap[bk]? = some (.cells c5 3 (0, 0)) ∧ (l[i]?.getD nodeNil).kids.length ≤ c5.size := fun i hi' => by
    obtain ⟨kv, -, -, -, -, g4, bk, ck, c5, rfl, k1, k2, k3, k4⟩ := hrow i hi'
    refine ⟨bk, ck, g4, by omega, k2, c5, k3, ?_⟩
    rcases Nat.lt_or_ge c5.size (l[i]?.getD nodeNil).kids.length with hlt | hge
    · have := k4 c5.size hlt
      simp at this
    · exact hge
  have hsz5 : ∀ i, i < l.length → i * 5 + 4 < cs.size := fun i hi' => by
    obtain ⟨_, _, g, _⟩ := hrow2 i hi'
    exact (Array.getElem?_eq_some_iff.1 g).1
  have HRow := hide hrow2
  have HS5 := hide hsz5
  have HKL := hide hkl
  have HH := hide hh
  clear hrow hrow2 hsz5 hkl hh
  go_enter Try.func36, Try.ntmps36
  go_wp2_with fail
  go_loopw [1, 5] (fun kv i wr => ∃ (j : Nat) (y : Int) (cs' : Array Value), j ≤ l.length ∧ kv = .int .i64 y ∧ 0 ≤ y ∧ y ≤ 1 + j * 1048580 ∧ i = .int .i64 j ∧ Hid (wr.heap[b]? = some (.cells cs' 28 (0, 0))) ∧ cs'.size = cs.size ∧ Hid (∀ i, i < l.length → cs'[i * 5 + 4]? = cs[i * 5 + 4]?) ∧ Hid (KeepsSizes w wr) ∧ Hid (Within w wr lo hi)) (fun _ i _ => l.length - (intOf i).toNat)
  case atStart => exact ⟨0, 1, cs, Nat.zero_le _, rfl, by omega, by omega, rfl, HH, rfl, fun _ _ => rfl, fun _ _ _ h => ⟨_, h, rfl⟩, ⟨Below.refl _ _, fun _ _ _ => rfl⟩⟩
  case round =>
    obtain ⟨j, y, cs', hj, rfl, hy0, hy1, rfl, hbl, hcs, hk4, hks, hwi⟩ := hrel
    by_cases hlt : j < l.length
    · obtain ⟨bk, ck, g4, hbk, hbk2, c5, hc5, hn5⟩ := HRow.out j hlt
      have h5 := HS5.out j hlt
      have hkx : (l[j]?.getD nodeNil).kids.length ≤ 1048576 := HKL.out _ (by simp [hlt])
      generalize (l[j]?.getD nodeNil).kids.length = n at *
      have hwb := hwi.out.below.size
      have hbw : b < wr.heap.size := (Array.getElem?_eq_some_iff.1 hbl.out).1
      have hcell : ∀ o, o < 5 → ∃ u, wr.cell? ⟨b, j * 5 + o, none⟩ = some u := fun o ho => by
        rw [cell_of_heap hbl.out (j * 5 + o)]
        exact ⟨_, Array.getElem?_eq_getElem (by omega)⟩
      obtain ⟨v0, d0⟩ := hcell 0 (by omega)
      obtain ⟨v1, d1⟩ := hcell 1 (by omega)
      obtain ⟨v2, d2⟩ := hcell 2 (by omega)
      obtain ⟨v3, d3⟩ := hcell 3 (by omega)
      have d4 : wr.cell? ⟨b, j * 5 + 4, none⟩ = some (.slice (some ⟨bk, 0, none⟩) n ck) := (cell_of_heap hbl.out (j * 5 + 4)).trans ((hk4.out j hlt).trans g4)
      have z0 := frozen_of_heap hbl.out (j * 5)
      have z1 := frozen_of_heap hbl.out (j * 5 + 1)
      have z2 := frozen_of_heap hbl.out (j * 5 + 2)
      have z3 := frozen_of_heap hbl.out (j * 5 + 3)
      rw [Nat.add_zero] at d0
      have hlt1 : (j : Int) < (l.length : Int) := by omega
      clear hcell
      obtain ⟨W3, hW3⟩ : ∃ W3, W3 = ((wr.setCell ⟨b, j * 5, none⟩ (.int .i64 y)).setCell ⟨b, j * 5 + 1, none⟩ (.int .i64 (y + 1))).setCell ⟨b, j * 5 + 2, none⟩ (.int .i64 (y + 1 + 1)) := ⟨_, rfl⟩
      have H3 : Hid (W3.heap[b]? = some (.cells (((cs'.setIfInBounds (j * 5) (.int .i64 y)).setIfInBounds (j * 5 + 1) (.int .i64 (y + 1))).setIfInBounds (j * 5 + 2) (.int .i64 (y + 1 + 1))) 28 (0, 0))) := by
        rw [hW3]; exact heap_setCell_same _ b _ _ _ _ (heap_setCell_same _ b _ _ _ _ (heap_setCell_same wr b _ _ _ _ hbl.out))
      have HK3 : Hid (KeepsSizes wr W3) := by rw [hW3]; exact (keeps_set.trans keeps_set).trans keeps_set
      have HB3 : Hid (Below lo wr W3) := by rw [hW3]; exact (((Below.refl lo wr).setCell (p := ⟨b, j * 5, none⟩) hlo _).setCell (p := ⟨b, j * 5 + 1, none⟩) hlo _).setCell (p := ⟨b, j * 5 + 2, none⟩) hlo _
      have HO3 : Hid (∀ m, m ≠ b → W3.heap[m]? = wr.heap[m]?) := fun m hm => by
        rw [hW3, heap_setCell_other _ _ _ _ (by exact hm), heap_setCell_other _ _ _ _ (by exact hm), heap_setCell_other _ _ _ _ (by exact hm)]
      have HS3 : Hid (W3.heap.size = wr.heap.size) := by rw [hW3]; simp [World.size_setCell, Hid]
      obtain ⟨kk, hkk⟩ : ∃ kk : Nat, y + 1 + 1 + 1 = (kk : Int) := ⟨(y + 1 + 1 + 1).toNat, by omega⟩
      have HKK : Hid (y + 1 + 1 + 1 = (kk : Int)) := hkk
      clear hkk
      go_wp2_with fail
      rw [← hW3]
      refine (markText_big kk _ W3 HKK (by omega) (by omega)).mono ?_
      rintro e w4 ⟨rfl, hb4⟩
      have hs4 := hb4.size
      have hsw3 := HS3.out
      have h4 := (hb4.block b (by omega)).trans H3.out
      have e3 : ∃ u, w4.cell? ⟨b, j * 5 + 3, none⟩ = some u := by rw [cell_of_heap h4]; exact ⟨_, Array.getElem?_eq_getElem (by simp; omega)⟩
      obtain ⟨u3, e3⟩ := e3
      have e4 : w4.cell? ⟨b, j * 5 + 4, none⟩ = some (.slice (some ⟨bk, 0, none⟩) n ck) := by
        rw [cell_of_heap h4]
        simp only [Array.getElem?_setIfInBounds, Array.size_setIfInBounds]
        rw [if_neg (by omega), if_neg (by omega), if_neg (by omega)]
        exact (hk4.out j hlt).trans g4
      have f3 := frozen_of_heap h4 (j * 5 + 3)
      have H4 := hide h4
      clear h4
      generalize markOf kk = mk at *
      go_wp2_with fail
      have hrowin : RowIn (w4.setCell ⟨b, j * 5 + 3, none⟩ (.string mk)) (some ⟨bk, 0, none⟩) n 3 := by
        obtain ⟨c6, h6, s6⟩ := (((hks.out.trans HK3.out).trans (keeps_below hb4)).trans (keeps_set (b := b) (i := j * 5 + 3) (v := .string mk))) bk c5 _ hc5
        exact .inr ⟨bk, c6, rfl, h6, by omega⟩
      refine (markInts_keeps (some ⟨bk, 0, none⟩) n ck _ _ hrowin (by omega) (by omega) (by omega)).mono ?_
      rintro e w6 ⟨rfl, ho, hk6⟩
      go_wp2_with fail
      refine ⟨⟨j + 1, _, (((cs'.setIfInBounds (j * 5) (.int .i64 y)).setIfInBounds (j * 5 + 1) (.int .i64 (y + 1))).setIfInBounds (j * 5 + 2) (.int .i64 (y + 1 + 1))).setIfInBounds (j * 5 + 3) (.string mk), by omega, rfl, by omega, by omega, by go_num, ?_, ?_, ?_, ?_, ?_⟩, by simp [intOf]; omega⟩
      · exact (ho.same b (fun b2 e2 => by cases e2; omega)).trans (heap_setCell_same w4 b _ _ _ _ H4.out)
      · simp [hcs]
      · intro i hi'
        simp only [Array.getElem?_setIfInBounds, Array.size_setIfInBounds]
        rw [if_neg (by omega), if_neg (by omega), if_neg (by omega), if_neg (by omega)]
        exact hk4.out i hi'
      · exact (((hks.out.trans HK3.out).trans (keeps_below hb4)).trans keeps_set).trans hk6
      · refine ⟨(((hwi.out.below.trans HB3.out).trans (hb4.mono (by omega))).trans ((Below.refl lo w4).setCell (p := ⟨b, j * 5 + 3, none⟩) hlo _)).trans (ho.below lo (fun b2 e2 => by cases e2; omega)), fun m hm hmw => ?_⟩
        rw [ho.same m (fun b2 e2 => by cases e2; omega), heap_setCell_other _ _ _ _ (by show m ≠ b; omega), hb4.block m (by omega), HO3.out m (by omega)]
        exact hwi.out.above m hm hmw
    · clear hk4 hks
      go_wp2_with fail
      go_ret
      exact ⟨y, rfl, hy0, hwi.out⟩

set_option maxHeartbeats 400000 in
theorem markDoc_any (lo hi : Nat) (v : Value) (d : PDoc) (w : World) (h : DocOwn lo hi w v d) (hhi : hi ≤ w.heap.size) (hl : d.nodes.length ≤ 1048576) (hkl : ∀ x ∈ d.nodes, x.kids.length ≤ 1048576) :
    Calls Try.prog 13 #[v, .int .i64 1] w fun e w' => ∃ r, e = .returned (.int .i64 r) ∧ 0 ≤ r ∧ Within w w' lo hi := by
  obtain ⟨s, rfl, hk⟩ := h
  have hW := (Below.refl w.heap.size w).alloc (Nat.le_refl _) (.cells #[.int .i64 d.root, .int .i64 d.next, s] 33)
  have HM := hide (markNodes_any lo hi s d.nodes (w.alloc (.cells #[.int .i64 d.root, .int .i64 d.next, s] 33)) (hk.below (hW.mono hhi)) (by simp; omega) hl hkl)
  obtain ⟨b, cap, cs, rfl, hlo, hbh, -⟩ := hk
  clear hkl
  go_enter Try.func13, Try.ntmps13
  go_wp2_with fail
  refine HM.out.mono ?_
  rintro e w1 ⟨r, rfl, hr, hw⟩
  have HWi := hide hw
  clear hw
  go_wp2_with fail
  go_ret
  exact ⟨r, rfl, hr, (hW.mono (by omega)).trans HWi.out.below, fun m hm hmw => (HWi.out.above m hm (by simp; omega)).trans (hW.block m hmw)⟩
end Go.Proofs.Ytkfklaapoaocdab
