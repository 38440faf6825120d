/-
  The law on NodeAt answers true at every document and number that a program can hold.
-/
import Derived.Test.YtkfklaapoaocdabImplNodeAt
import Derived.Test.YtkfklaapoaocdabListIn
namespace Go.Proofs.Ytkfklaapoaocdab
open Go.RowKit

theorem nodeAns_len (d : PDoc) (id : Int) : (nodeAns d id).kids.length ≤ 1048576 := by
  by_cases h : askOf d id = 0
  · obtain ⟨G, hi⟩ := askOf_zero h
    obtain ⟨y, hy, e⟩ := node_of hi
    rw [nodeAns_ok h hy e]
    have := (G.fine y hy).2.2.2.2.2.2.2
    omega
  · rw [nodeAns_no h]; simp [nodeNil]

set_option maxHeartbeats 1000000 in
theorem markNode_any (x : PNode) (a : Option Addr) (cap : Nat) (w : World) (hr : RowIn w a x.kids.length 3) (hlo : ∀ b, a = some ⟨b, 0, none⟩ → b < w.heap.size) (hl : x.kids.length ≤ 1048576) :
    Calls Try.prog 14 #[.agg #[.int .i64 x.id, .int .i64 x.kind, .int .i64 x.attr, .string x.text, .slice a x.kids.length cap], .int .i64 1] w fun e w' => e = .returned (.int .i64 (1 + x.kids.length)) ∧ (w.heap.size ≤ w'.heap.size ∧ ∀ n, n ≤ w.heap.size → (∀ b, a = some ⟨b, 0, none⟩ → n ≤ b) → Below n w w') ∧ Hid (∀ m, m < w.heap.size → (∀ b, a = some ⟨b, 0, none⟩ → m ≠ b) → w'.heap[m]? = w.heap[m]?) ∧ MarksIn w' a x.kids.length 1 3 := by
  have hW := fun n (h : n ≤ w.heap.size) => (Below.refl n w).alloc h (.cells #[.int .i64 x.id, .int .i64 x.kind, .int .i64 x.attr, .string x.text, .slice a x.kids.length cap] 28)
  have hr' : RowIn (w.alloc (.cells #[.int .i64 x.id, .int .i64 x.kind, .int .i64 x.attr, .string x.text, .slice a x.kids.length cap] 28)) a x.kids.length 3 := by
    rcases hr with h | ⟨b, cs, rfl, h1, h2⟩
    · exact .inl h
    · exact .inr ⟨b, cs, rfl, (Below.heap_alloc _ _ _ (hlo b rfl)).trans h1, h2⟩
  have HM := hide (markInts_any a x.kids.length cap 1 _ hr' hl (by omega) (by omega))
  have HW := hide hW
  clear hr hr' hlo hW
  go_enter Try.func14, Try.ntmps14
  go_wp2_with fail
  refine HM.out.mono ?_
  rintro e w1 ⟨rfl, ho, hm⟩
  have HO := hide ho
  have HMk := hide hm
  clear ho hm
  go_wp2_with fail
  go_ret
  refine ⟨rfl, ⟨?_, fun n hn hb => (HW.out n hn).trans (HO.out.below n hb)⟩, fun m hm hb => (HO.out.same m hb).trans (Below.heap_alloc _ _ _ hm), HMk.out⟩
  rw [HO.out.size]; simp

set_option maxHeartbeats 1000000 in
theorem heldNode_any (x : PNode) (a : Option Addr) (cap : Nat) (w : World) (hm : MarksIn w a x.kids.length 1 3) (hl : x.kids.length ≤ 1048576) :
    Calls Try.prog 15 #[.agg #[.int .i64 x.id, .int .i64 x.kind, .int .i64 x.attr, .string x.text, .slice a x.kids.length cap], .int .i64 1] w fun e w' => e = .returned (.int .i64 (1 + x.kids.length)) ∧ Below w.heap.size w w' := by
  have hW := (Below.refl w.heap.size w).alloc (Nat.le_refl _) (.cells #[.int .i64 x.id, .int .i64 x.kind, .int .i64 x.attr, .string x.text, .slice a x.kids.length cap] 28)
  have HM := hide (heldInts_any a x.kids.length cap 1 _ (hm.below hW) hl (by omega) (by omega))
  have hd : decide (1 + (x.kids.length : Int) < 0) = false := by simp; omega
  clear hm
  go_enter Try.func15, Try.ntmps15
  go_wp2_with fail
  refine HM.out.mono ?_
  rintro e w1 ⟨rfl, rfl⟩
  go_wp2_with fail
  go_ret
  exact ⟨rfl, hW⟩

set_option maxHeartbeats 8000000 in
set_option maxRecDepth 100000 in
theorem nodeAtLaw (n₀ : Nat) (v : Value) (d : PDoc) (id : Int) (w : World) (h : DocAt n₀ w v d) (hn : n₀ ≤ w.heap.size) (hf : Fits d) (hwf : WfDoc d) :
    Calls Try.prog 3 #[v, .int .i64 id] w fun e w' => e = .returned (.bool true) ∧ Below w.heap.size w w' := by
  have hD := h
  obtain ⟨a, cap, rfl, hN⟩ := h.form
  have HWf := hide hwf
  have hW := (Below.refl w.heap.size w).alloc (Nat.le_refl _) (.cells #[.int .i64 d.root, .int .i64 d.next, .slice a d.nodes.length cap] 24)
  have HSz := hide (szDoc_any n₀ _ d 1048576 (w.alloc (.cells #[.int .i64 d.root, .int .i64 d.next, .slice a d.nodes.length cap] 24)) (hD.below (Nat.le_refl _) (hW.mono hn)) (by simp; omega) (by omega) (by omega) hf)
  have HD := hide hD
  clear hf hwf hN h hD
  obtain ⟨c, hc⟩ : ∃ c, c = askOf d id := ⟨_, rfl⟩
  obtain ⟨x, hx⟩ : ∃ x, x = nodeAns d id := ⟨_, rfl⟩
  have hkl : x.kids.length ≤ 1048576 := by rw [hx]; exact nodeAns_len d id
  have HC := hide hc
  have HKS := hide hx
  clear hc hx
  go_enter Try.func3, Try.ntmps3
  go_wp2_with fail
  refine HSz.out.mono ?_
  rintro e w1 ⟨q, rfl, hq1, hq2, hq3, hb1⟩
  simp only [World.size_alloc] at hb1
  have hs1 := hb1.size
  simp only [World.size_alloc] at hs1
  by_cases hq : q < 0
  · clear hq3
    go_wp2_with fail
    go_ret
    exact ⟨rfl, hW.trans (hb1.mono (by omega))⟩
  have HS := hide (hq3 (by omega))
  clear hq3 HSz
  have HTo : Hid (∀ wx, Below w.heap.size w wx → Calls Try.prog 9 #[.agg #[.int .i64 d.root, .int .i64 d.next, .slice a d.nodes.length cap]] wx fun e w' => ∃ u, e = .returned u ∧ DocOwn wx.heap.size w'.heap.size w' u d ∧ Below wx.heap.size wx w') := fun wx hb =>
    toDoc_any n₀ _ d wx (HD.out.below (Nat.le_refl _) (hb.mono hn)) (by have := hb.size; omega) HS.out
  obtain ⟨x0, x1, x2⟩ := box_doc' hb1
  have hz1 : w.heap.size < w1.heap.size := by omega
  go_wp2_with fail
  refine (HTo.out _ (hW.trans (hb1.mono (by omega)))).mono ?_
  rintro e w2 ⟨u2, rfl, ho2, hb2⟩
  have hs2 := hb2.size
  have hB2 := hb1.trans (hb2.mono (by omega))
  have HSp := hide (specNodeAt_any w1.heap.size w2.heap.size d u2 id w2 ho2 (Nat.le_refl _) HS.out.len HS.out.kids c x HC.out HKS.out)
  obtain ⟨a2, c2, rfl, -⟩ := ho2.at.form
  clear ho2 x0 x1 x2 hz1
  go_wp2_with fail
  refine HSp.out.mono ?_
  rintro e w3 ⟨a3, c3, rfl, hr3, hb3⟩
  have hs3 := hb3.size
  have hA4 := (Below.refl w3.heap.size w3).alloc (Nat.le_refl _) (.cells #[.int .i64 x.id, .int .i64 x.kind, .int .i64 x.attr, .string x.text, .slice a3 x.kids.length c3] 28)
  have HL3 : Hid (ListIn w2.heap.size w3.heap.size w3 (.slice a3 x.kids.length c3) x.kids) := ListIn.of_row hr3
  have HH6 := hide (alloc_new w3 (.cells #[.int .i64 x.id, .int .i64 x.kind, .int .i64 x.attr, .string x.text, .slice a3 x.kids.length c3] 28))
  have hB3 := hB2.trans (hb3.mono (by omega))
  have hB3a := hB3.trans (hA4.mono (by omega))
  obtain ⟨x0, x1, x2⟩ := box_doc' hB3
  have hz1 : w.heap.size < w3.heap.size := by omega
  clear hr3 HSp
  go_wp2_with fail
  refine (HTo.out _ (hW.trans (hB3a.mono (by omega)))).mono ?_
  rintro e w4 ⟨u4, rfl, ho4, hb4⟩
  simp only [World.size_alloc] at ho4 hb4
  have hs4 := hb4.size
  simp only [World.size_alloc] at hs4
  have hB4 := hB3a.trans (hb4.mono (by omega))
  have HO4 := hide ho4
  obtain ⟨a4, c4, rfl, hn4⟩ := ho4.at.form
  clear ho4 x0 x1 x2 hz1
  have hA5 := (Below.refl w4.heap.size w4).alloc (Nat.le_refl _) (.cells #[.int .i64 d.root, .int .i64 d.next, .slice a4 d.nodes.length c4] 33)
  have HIm := hide (implNodeAt_any w4.heap.size d _ id (w4.alloc (.cells #[.int .i64 d.root, .int .i64 d.next, .slice a4 d.nodes.length c4] 33)) (hn4.below (Nat.le_refl _) hA5) (by simp) HS.out.len HWf.out c x HC.out HKS.out)
  go_wp2_with fail
  refine HIm.out.mono ?_
  rintro e w5 ⟨a5, c5, rfl, hr5, hb5⟩
  have hb5 : Below (w4.heap.size + 1) (w4.alloc (.cells #[.int .i64 d.root, .int .i64 d.next, .slice a4 d.nodes.length c4] 33)) w5 := by simpa using hb5
  have hs5 := hb5.size
  simp only [World.size_alloc] at hs5 hr5
  have HL5 : Hid (ListIn (w4.heap.size + 1) w5.heap.size w5 (.slice a5 x.kids.length c5) x.kids) := ListIn.of_row hr5
  have hA6 := (Below.refl w5.heap.size w5).alloc (Nat.le_refl _) (.cells #[.int .i64 x.id, .int .i64 x.kind, .int .i64 x.attr, .string x.text, .slice a5 x.kids.length c5] 28)
  obtain ⟨A6, hA6e⟩ : ∃ A6, A6 = w5.alloc (.cells #[.int .i64 x.id, .int .i64 x.kind, .int .i64 x.attr, .string x.text, .slice a5 x.kids.length c5] 28) := ⟨_, rfl⟩
  have hA6s : A6.heap.size = w5.heap.size + 1 := by rw [hA6e]; simp
  have HH9 : Hid (A6.heap[w5.heap.size]? = some (.cells #[.int .i64 x.id, .int .i64 x.kind, .int .i64 x.attr, .string x.text, .slice a5 x.kids.length c5] 28 (0, 0))) := by rw [hA6e]; exact alloc_new w5 _
  rw [← hA6e] at hA6
  have h46 : Below w4.heap.size w4 A6 := hA5.trans ((hb5.trans (hA6.mono (by omega))).mono (by omega))
  have h36 : Below (w3.heap.size + 1) (w3.alloc (.cells #[.int .i64 x.id, .int .i64 x.kind, .int .i64 x.attr, .string x.text, .slice a3 x.kids.length c3] 28)) A6 := hb4.trans (h46.mono (by omega))
  have HH6b : Hid (A6.heap[w3.heap.size]? = some (.cells #[.int .i64 x.id, .int .i64 x.kind, .int .i64 x.attr, .string x.text, .slice a3 x.kids.length c3] 28 (0, 0))) := (h36.block w3.heap.size (by omega)).trans HH6.out
  have hB6 := hB4.trans (h46.mono (by omega))
  have HL3b : Hid (ListIn w2.heap.size w3.heap.size A6 (.slice a3 x.kids.length c3) x.kids) := HL3.out.below (hA4.trans (h36.mono (by omega)))
  have HL5b : Hid (ListIn (w4.heap.size + 1) w5.heap.size A6 (.slice a5 x.kids.length c5) x.kids) := HL5.out.below hA6
  have HE6 := hide (eqNode_any A6.heap.size _ _ x A6 ⟨_, rfl, HL5b.out.at.below (by omega) (Below.refl _ _)⟩ ⟨_, rfl, HL3b.out.at.below (by omega) (Below.refl _ _)⟩ (Nat.le_refl _) hkl)
  have h35 : Below (w3.heap.size + 1) (w3.alloc (.cells #[.int .i64 x.id, .int .i64 x.kind, .int .i64 x.attr, .string x.text, .slice a3 x.kids.length c3] 28)) w5 := hb4.trans ((hA5.trans (hb5.mono (by omega))).mono (by omega))
  obtain ⟨⟨q0, q1, q2, q3, q4⟩, -⟩ := five_cells ((h35.block w3.heap.size (by omega)).trans HH6.out)
  have hz53 : w3.heap.size < w5.heap.size := by omega
  clear hr5 HIm hn4
  have HEq : Hid (∀ wx ag cg, IntsAt wx.heap.size wx (.slice ag x.kids.length cg) x.kids → IntsAt wx.heap.size wx (.slice a3 x.kids.length c3) x.kids → Calls Try.prog 11 #[.agg #[.int .i64 x.id, .int .i64 x.kind, .int .i64 x.attr, .string x.text, .slice ag x.kids.length cg], .agg #[.int .i64 x.id, .int .i64 x.kind, .int .i64 x.attr, .string x.text, .slice a3 x.kids.length c3]] wx fun e w' => e = .returned (.bool true) ∧ Below wx.heap.size wx w') := fun wx ag cg h1 h2 =>
    eqNode_any wx.heap.size _ _ x wx ⟨_, rfl, h1⟩ ⟨_, rfl, h2⟩ (Nat.le_refl _) hkl
  go_wp2_with fail
  rw [← hA6e]
  refine HE6.out.mono ?_
  rintro e w6 ⟨rfl, hb6⟩
  have hs6 := hb6.size
  rw [hA6s] at hs6
  have h46b := (hb5.trans (hA6.mono (by omega))).trans (hb6.mono (by omega))
  have hB6b := hB6.trans (hb6.mono (by omega))
  have HX0 : Hid (DocOwn (w3.heap.size + 1) w4.heap.size w6 (.agg #[.int .i64 d.root, .int .i64 d.next, .slice a4 d.nodes.length c4]) d) := HO4.out.below (hA5.trans (h46b.mono (by omega)))
  have HH9c := hide ((hb6.block w5.heap.size (by omega)).trans HH9.out)
  have HH6c := hide ((hb6.block w3.heap.size (by omega)).trans HH6b.out)
  have HL3c : Hid (ListIn w2.heap.size w3.heap.size w6 (.slice a3 x.kids.length c3) x.kids) := HL3b.out.below (hb6.mono (by omega))
  have HL5c : Hid (ListIn (w4.heap.size + 1) w5.heap.size w6 (.slice a5 x.kids.length c5) x.kids) := HL5b.out.below (hb6.mono (by omega))
  obtain ⟨x0, x1, x2⟩ := box_doc' h46b
  obtain ⟨y0, y1, y2⟩ := box_doc' hB6b
  have h46s : w4.heap.size < w6.heap.size := by omega
  have h06 : w.heap.size < w6.heap.size := by omega
  have hw6 : Below w.heap.size w w6 := hW.trans (hB6b.mono (by omega))
  clear HE6 q0 q1 q2 q3 q4 hz53 hA6e HH9 HH6b HL3b HL5b HL3 HL5 HH6
  go_wp2_with fail
  go_cut [49] (fun v49 wc => v49 = .bool false ∧ Below w6.heap.size w6 wc)
  case first =>
    go_region_with (first
      | (go_at_call 9; refine (HTo.out _ hw6.drew).mono ?_; rintro e w7 ⟨u7, rfl, ho7, hb7⟩; have hs7 := hb7.size; have z0 := (hb7.cell (p := ⟨w4.heap.size, 0, none⟩) h46s).trans x0; have z1 := (hb7.cell (p := ⟨w4.heap.size, 1, none⟩) h46s).trans x1; have z2 := (hb7.cell (p := ⟨w4.heap.size, 2, none⟩) h46s).trans x2; have hd7 := ho7.at; obtain ⟨a7, c7, rfl, hn7⟩ := hd7.form; clear hn7 ho7)
      | (go_at_call 12; refine (eqDoc_any w7.heap.size _ _ d _ (HX0.out.at.below (by simp at hs7; omega) ((((Below.refl _ _).drew).trans hb7).mono (by simp; omega))) hd7 (Nat.le_refl _) HS.out.len HS.out.kids).mono ?_; rintro e w8 ⟨rfl, hb8⟩))
    all_goals
      go_wp2_with fail
      go_meet
      exact ⟨rfl, (((Below.refl _ _).drew).trans (hb7.trans (hb8.mono (by simp at hs7 ⊢; omega)))).mono (by simp)⟩
  case rest =>
    obtain ⟨rfl, hbc⟩ := hcut
    have hsc := hbc.size
    have h4c := h46b.trans (hbc.mono (by omega))
    have hBc := hB6b.trans (hbc.mono (by omega))
    have HX1 := hide (HX0.out.below (hbc.mono (by omega)))
    have HL3d : Hid (ListIn w2.heap.size w3.heap.size wc (.slice a3 x.kids.length c3) x.kids) := HL3c.out.below (hbc.mono (by omega))
    have HL5d : Hid (ListIn (w4.heap.size + 1) w5.heap.size wc (.slice a5 x.kids.length c5) x.kids) := HL5c.out.below (hbc.mono (by omega))
    have HH9d := hide ((hbc.block w5.heap.size (by omega)).trans HH9c.out)
    have HH6d := hide ((hbc.block w3.heap.size (by omega)).trans HH6c.out)
    clear x0 x1 x2 y0 y1 y2 h06 h46s
    obtain ⟨x0, x1, x2⟩ := box_doc' h4c
    have hz4 : w4.heap.size < wc.heap.size := by omega
    have HMk := hide (markDoc_any (w3.heap.size + 1) w4.heap.size _ d wc HX1.out (by omega) HS.out.len HS.out.kids)
    go_wp2_with fail
    refine HMk.out.mono ?_
    rintro e w9 ⟨rk, rfl, hrk, hwi⟩
    have hs9 := hwi.below.size
    have HL3e : Hid (ListIn w2.heap.size w3.heap.size w9 (.slice a3 x.kids.length c3) x.kids) := HL3d.out.below (hwi.below.mono (by omega))
    have HL5e : Hid (ListIn (w4.heap.size + 1) w5.heap.size w9 (.slice a5 x.kids.length c5) x.kids) := HL5d.out.heap fun g h1 h2 => hwi.above g (by omega) (by omega)
    have HH9e := hide ((hwi.above w5.heap.size (by omega) (by omega)).trans HH9d.out)
    have HH6e := hide ((hwi.below.block w3.heap.size (by omega)).trans HH6d.out)
    have hB9 := hBc.trans (hwi.below.mono (by omega))
    have HE9 := hide (HEq.out w9 a5 c5 (HL5e.out.at.below (by omega) (Below.refl _ _)) (HL3e.out.at.below (by omega) (Below.refl _ _)))
    have hrk1 : decide (rk < 0) = false := by simp; omega
    clear x0 x1 x2 HMk hz4
    obtain ⟨⟨p0, p1, p2, p3, p4⟩, -⟩ := five_cells HH9e.out
    obtain ⟨⟨q0, q1, q2, q3, q4⟩, -⟩ := five_cells HH6e.out
    go_wp2_with (go_at_call 11; refine HE9.out.mono ?_; rintro e w10 ⟨rfl, hb10⟩; have HH9f := hide ((hb10.block w5.heap.size (by omega)).trans HH9e.out); obtain ⟨⟨r0, r1, r2, r3, r4⟩, -⟩ := five_cells HH9f.out)
    have hs10 := hb10.size
    have HL3f : Hid (ListIn w2.heap.size w3.heap.size w10 (.slice a3 x.kids.length c3) x.kids) := HL3e.out.below (hb10.mono (by omega))
    have HL5f : Hid (ListIn (w4.heap.size + 1) w5.heap.size w10 (.slice a5 x.kids.length c5) x.kids) := HL5e.out.below (hb10.mono (by omega))
    have HH6f := hide ((hb10.block w3.heap.size (by omega)).trans HH6e.out)
    have hB10 := hB9.trans (hb10.mono (by omega))
    obtain ⟨a5', c5', e5, hrow5, hlo5⟩ := HL5f.out.row
    obtain ⟨rfl, -, rfl⟩ : a5 = a5' ∧ x.kids.length = x.kids.length ∧ c5 = c5' := by simpa using e5
    have HMi := hide (markNode_any x a5 c5 w10 hrow5 (fun b hb => by have := (hlo5 b hb).2; omega) hkl)
    clear HE9 e5 hrow5 p0 p1 p2 p3 p4 q0 q1 q2 q3 q4 r0 r1 r2 r3 r4
    refine HMi.out.mono ?_
    rintro e w11 ⟨rfl, ⟨hs11, hbel⟩, hsame, hmk⟩
    have h11b := hbel (w4.heap.size + 1) (by omega) (fun b hb => (hlo5 b hb).1)
    have HL3g : Hid (ListIn w2.heap.size w3.heap.size w11 (.slice a3 x.kids.length c3) x.kids) := HL3f.out.below (h11b.mono (by omega))
    have HH9g := hide ((hsame.out w5.heap.size (by omega) (fun b hb => by have := (hlo5 b hb).2; omega)).trans HH9f.out)
    have HH6g := hide ((h11b.block w3.heap.size (by omega)).trans HH6f.out)
    have hB11 := hB10.trans (h11b.mono (by omega))
    have HMkA := hide hmk
    have HHe := hide (heldNode_any x a5 c5 w11 hmk hkl)
    have hm1 : decide (1 + (x.kids.length : Int) < 0) = false := by simp; omega
    obtain ⟨⟨p0, p1, p2, p3, p4⟩, -⟩ := five_cells HH9g.out
    clear hbel hmk HMi hlo5 hsame
    go_wp2_with fail
    refine HHe.out.mono ?_
    rintro e w12 ⟨rfl, hb12⟩
    have hs12 := hb12.size
    have hB12 := hB11.trans (hb12.mono (by omega))
    have HH9h := hide ((hb12.block w5.heap.size (by omega)).trans HH9g.out)
    have HH6h := hide ((hb12.block w3.heap.size (by omega)).trans HH6g.out)
    have HL3h : Hid (ListIn w2.heap.size w3.heap.size w12 (.slice a3 x.kids.length c3) x.kids) := HL3g.out.below (hb12.mono (by omega))
    have HMkB := hide (HMkA.out.below hb12)
    clear HHe p0 p1 p2 p3 p4
    obtain ⟨x0, x1, x2⟩ := box_doc' hB12
    have hz12 : w.heap.size < w12.heap.size := by omega
    have hw12 : Below w.heap.size w w12 := hW.trans (hB12.mono (by omega))
    go_wp2_with fail
    refine (HTo.out _ hw12).mono ?_
    rintro e w13 ⟨u13, rfl, ho13, hb13⟩
    have hs13 := hb13.size
    obtain ⟨a13, c13, rfl, hn13⟩ := ho13.at.form
    have HIm := hide (implNodeAt_any w13.heap.size d _ id w13 hn13 (Nat.le_refl _) HS.out.len HWf.out c x HC.out HKS.out)
    clear ho13 hn13 x0 x1 x2
    go_wp2_with fail
    refine HIm.out.mono ?_
    rintro e w14 ⟨a14, c14, rfl, hr14, hb14⟩
    have hs14 := hb14.size
    have h1214 : Below w12.heap.size w12 w14 := hb13.trans (hb14.mono (by omega))
    have hA14 := (Below.refl w14.heap.size w14).alloc (Nat.le_refl _) (.cells #[.int .i64 x.id, .int .i64 x.kind, .int .i64 x.attr, .string x.text, .slice a14 x.kids.length c14] 28)
    obtain ⟨A14, hA14e⟩ : ∃ A14, A14 = w14.alloc (.cells #[.int .i64 x.id, .int .i64 x.kind, .int .i64 x.attr, .string x.text, .slice a14 x.kids.length c14] 28) := ⟨_, rfl⟩
    have hA14s : A14.heap.size = w14.heap.size + 1 := by rw [hA14e]; simp
    rw [← hA14e] at hA14
    have h12A : Below w12.heap.size w12 A14 := h1214.trans (hA14.mono (by omega))
    have HL14 : Hid (ListIn w13.heap.size w14.heap.size A14 (.slice a14 x.kids.length c14) x.kids) := (ListIn.of_row hr14).below hA14
    have HE14 := hide (HEq.out A14 a14 c14 (HL14.out.at.below (by omega) (Below.refl _ _)) ((HL3h.out.below (h12A.mono (by omega))).at.below (by omega) (Below.refl _ _)))
    obtain ⟨⟨q0, q1, q2, q3, q4⟩, -⟩ := five_cells ((h1214.block w3.heap.size (by omega)).trans HH6h.out)
    have hz14 : w3.heap.size < w14.heap.size := by omega
    clear hr14 HIm
    go_wp2_with fail
    rw [← hA14e]
    clear hA14e
    refine HE14.out.mono ?_
    rintro e w15 ⟨rfl, hb15⟩
    have h1215 : Below w12.heap.size w12 w15 := h12A.trans (hb15.mono (by omega))
    have HHe := hide (heldNode_any x a5 c5 w15 (HMkB.out.below h1215) hkl)
    obtain ⟨⟨p0, p1, p2, p3, p4⟩, -⟩ := five_cells ((h1215.block w5.heap.size (by omega)).trans HH9h.out)
    clear HE14 q0 q1 q2 q3 q4
    go_wp2_with fail
    refine HHe.out.mono ?_
    rintro e w16 ⟨rfl, hb16⟩
    have hs15 := h1215.size
    go_wp2_with fail
    go_ret
    exact ⟨rfl, hw12.trans ((h1215.trans (hb16.mono (by omega))).mono (by omega))⟩
end Go.Proofs.Ytkfklaapoaocdab
