/-
  The law on NewDoc answers true at every number.
-/
import Derived.Test.YtigkjljknmojhaaNewDocTwo
namespace Go.Proofs.Ytigkjljknmojhaa
open Go.RowKit

theorem cell_same {w w' : World} {m : Nat} (h : w'.heap[m]? = w.heap[m]?) (o : Nat) : w'.cell? ⟨m, o, none⟩ = w.cell? ⟨m, o, none⟩ := by simp [World.cell?, h]

/-- Two boxes, of three cells each. -/
structure NB (W : World) (A B : Nat) (a0 a1 a2 b0 b1 b2 : Value) : Prop where
  x0 : W.cell? ⟨A, 0, none⟩ = some a0
  x1 : W.cell? ⟨A, 1, none⟩ = some a1
  x2 : W.cell? ⟨A, 2, none⟩ = some a2
  y0 : W.cell? ⟨B, 0, none⟩ = some b0
  y1 : W.cell? ⟨B, 1, none⟩ = some b1
  y2 : W.cell? ⟨B, 2, none⟩ = some b2
  ltA : A < W.heap.size
  ltB : B < W.heap.size

theorem NB.below {W W' : World} {A B : Nat} {a0 a1 a2 b0 b1 b2 : Value} (h : NB W A B a0 a1 a2 b0 b1 b2) (hb : Below W.heap.size W W') : NB W' A B a0 a1 a2 b0 b1 b2 where
  x0 := (hb.cell (p := ⟨A, 0, none⟩) h.ltA).trans h.x0
  x1 := (hb.cell (p := ⟨A, 1, none⟩) h.ltA).trans h.x1
  x2 := (hb.cell (p := ⟨A, 2, none⟩) h.ltA).trans h.x2
  y0 := (hb.cell (p := ⟨B, 0, none⟩) h.ltB).trans h.y0
  y1 := (hb.cell (p := ⟨B, 1, none⟩) h.ltB).trans h.y1
  y2 := (hb.cell (p := ⟨B, 2, none⟩) h.ltB).trans h.y2
  ltA := by have := hb.size; have := h.ltA; omega
  ltB := by have := hb.size; have := h.ltB; omega

theorem NB.same {W W' : World} {A B b : Nat} {a0 a1 a2 b0 b1 b2 : Value} (h : NB W A B a0 a1 a2 b0 b1 b2) (hs : W.heap.size ≤ W'.heap.size) (hA : A ≠ b) (hB : B ≠ b) (ho : ∀ m, m ≠ b → m < W.heap.size → W'.heap[m]? = W.heap[m]?) : NB W' A B a0 a1 a2 b0 b1 b2 where
  x0 := (cell_same (ho A hA h.ltA) 0).trans h.x0
  x1 := (cell_same (ho A hA h.ltA) 1).trans h.x1
  x2 := (cell_same (ho A hA h.ltA) 2).trans h.x2
  y0 := (cell_same (ho B hB h.ltB) 0).trans h.y0
  y1 := (cell_same (ho B hB h.ltB) 1).trans h.y1
  y2 := (cell_same (ho B hB h.ltB) 2).trans h.y2
  ltA := by have := h.ltA; omega
  ltB := by have := h.ltB; omega

/-- The second box laid behind the first. -/
theorem nb_new {w1 w2 : World} {a0 a1 a2 : Value} {t t' : TypeId} (b0 b1 b2 : Value) (hb : Below (w1.heap.size + 1) (w1.alloc (.cells #[a0, a1, a2] t)) w2) : NB (w2.alloc (.cells #[b0, b1, b2] t')) w1.heap.size w2.heap.size a0 a1 a2 b0 b1 b2 := by
  have hs := hb.size
  simp only [World.size_alloc] at hs
  obtain ⟨x0, x1, x2⟩ := box_doc' hb
  have hA := (Below.refl w2.heap.size w2).alloc (Nat.le_refl _) (.cells #[b0, b1, b2] t')
  have hh := alloc_new w2 (.cells #[b0, b1, b2] t')
  have hlt : w1.heap.size < w2.heap.size := by omega
  exact ⟨(hA.cell (p := ⟨w1.heap.size, 0, none⟩) hlt).trans x0, (hA.cell (p := ⟨w1.heap.size, 1, none⟩) hlt).trans x1, (hA.cell (p := ⟨w1.heap.size, 2, none⟩) hlt).trans x2, cell_of_heap hh 0, cell_of_heap hh 1, cell_of_heap hh 2, by simp; omega, by simp⟩

set_option maxHeartbeats 2000000 in
set_option maxRecDepth 100000 in
theorem newDocLaw_ok (kind : Int) (w : World) (hk : inB kind 1 8 = true) :
    Calls Try.prog 3 #[.int .i64 kind] w fun e w' => e = .returned (.bool true) ∧ Below w.heap.size w w' := by
  have HSp := hide (specNewDoc_ok kind w hk)
  have HIm : Hid (∀ wx, Calls Try.prog 13 #[.int .i64 kind] wx (NewPost wx kind)) := fun wx => implNewDoc_ok kind wx hk
  have hlen : (newPlain kind).nodes.length ≤ 1048576 := by simp [newPlain]
  have hkids : ∀ x ∈ (newPlain kind).nodes, x.kids.length ≤ 1048576 := by simp [newPlain, newNode]
  have HL := hide hlen
  have HKi := hide hkids
  clear hk hlen hkids
  go_enter Try.func3, Try.ntmps3
  go_wp2_with fail
  refine HSp.out.mono ?_
  rintro e w1 ⟨a, cap, rfl, hd1, hb1⟩
  have hs1 := hb1.size
  have HD1 := hide hd1
  clear hd1
  dsimp only [newPlain, List.length_cons, List.length_nil, Nat.zero_add]
  go_wp2_with fail
  refine (HIm.out _).mono ?_
  rintro e w2 ⟨b, rfl, hh2, hb2, hbb2⟩
  simp only [World.size_alloc] at hb2 hbb2
  have hs2 := hbb2.size
  simp only [World.size_alloc] at hs2
  have hbl : b < w2.heap.size := (Array.getElem?_eq_some_iff.1 hh2).1
  have N2 := nb_new (t' := 24) (.int .i64 1) (.int .i64 2) (.slice (some ⟨b, 0, none⟩) 1 1) hbb2
  have hA2 := (Below.refl w2.heap.size w2).alloc (Nat.le_refl _) (.cells #[.int .i64 1, .int .i64 2, .slice (some ⟨b, 0, none⟩) 1 1] 24)
  have HE : Hid (∀ wx ax cx, NodesAt wx.heap.size wx (.slice ax 1 cx) (newPlain kind).nodes → Below w1.heap.size w1 wx → Calls Try.prog 14 #[.agg #[.int .i64 1, .int .i64 2, .slice ax 1 cx], .agg #[.int .i64 1, .int .i64 2, .slice a 1 cap]] wx fun e w' => e = .returned (.bool true) ∧ Below wx.heap.size wx w') := fun wx ax cx hn hb =>
    eqDoc_any wx.heap.size _ _ (newPlain kind) wx ⟨_, rfl, hn⟩ (HD1.out.below hb.size hb) (Nat.le_refl _) HL.out HKi.out
  have hw12 : Below w1.heap.size w1 (w2.alloc (.cells #[.int .i64 1, .int .i64 2, .slice (some ⟨b, 0, none⟩) 1 1] 24)) := (((Below.refl w1.heap.size w1).alloc (Nat.le_refl _) _).trans (hbb2.mono (by omega))).trans (hA2.mono (by omega))
  have HE2 := hide (HE.out _ (some ⟨b, 0, none⟩) 1 (newDoc_at (by simp; omega) ((hA2.block b hbl).trans hh2)) hw12)
  have HH2 := hide hh2
  clear hh2
  obtain ⟨hx0, hx1, hx2⟩ := box_doc' hbb2
  have hlA : w1.heap.size < w2.heap.size := by omega
  go_wp2_with fail
  refine HE2.out.mono ?_
  rintro e w3 ⟨rfl, hb3⟩
  have hs3 := hb3.size
  simp only [World.size_alloc] at hs3
  have N3 := N2.below hb3
  have hw13 := hw12.trans (hb3.mono (by simp; omega))
  have hh3 := (hb3.block b (by simp; omega)).trans ((hA2.block b hbl).trans HH2.out)
  have HM := hide (markDoc_one b 1 1 2 _ _ _ _ w3 hh3)
  clear hx0 hx1 hx2 hlA
  have hy0 := N3.y0
  have hy1 := N3.y1
  have hy2 := N3.y2
  clear hh3 HE2
  go_wp2_with fail
  refine HM.out.mono ?_
  rintro e w4 ⟨rfl, hh4, hb4, ho4⟩
  have hs4 := hb4.size
  have N4 := N3.same hs4 (by omega) (by omega) ho4
  have HH4 := hide hh4
  have hw14 := hw13.trans (hb4.mono (by omega))
  have HHe := hide (heldDoc_one b 1 1 2 w4 hh4)
  clear hh4 ho4 hy0 hy1 hy2 HM
  have hy0 := N4.y0
  have hy1 := N4.y1
  have hy2 := N4.y2
  go_wp2_with fail
  refine HHe.out.mono ?_
  rintro e w5 ⟨rfl, hb5⟩
  have hs5 := hb5.size
  have N5 := N4.below hb5
  have hw15 := hw14.trans (hb5.mono (by omega))
  clear hy0 hy1 hy2 HHe
  go_wp2_with fail
  refine (HIm.out _).mono ?_
  rintro e w6 ⟨b6, rfl, hh6, hb6, hbb6⟩
  have hs6 := hbb6.size
  have hbl6 : b6 < w6.heap.size := (Array.getElem?_eq_some_iff.1 hh6).1
  have hA6 := (Below.refl w6.heap.size w6).alloc (Nat.le_refl _) (.cells #[.int .i64 1, .int .i64 2, .slice (some ⟨b6, 0, none⟩) 1 1] 24)
  have hbb6' := hbb6.trans (hA6.mono hs6)
  have N6 := N5.below hbb6'
  have hw16 := hw15.trans (hbb6'.mono (by omega))
  have HE6 := hide (HE.out _ (some ⟨b6, 0, none⟩) 1 (newDoc_at (by simp; omega) ((hA6.block b6 hbl6).trans hh6)) hw16)
  clear hh6
  have N60 := N5.below hbb6
  have hx0 := N60.x0
  have hx1 := N60.x1
  have hx2 := N60.x2
  have hlA := N60.ltA
  go_wp2_with fail
  refine HE6.out.mono ?_
  rintro e w7 ⟨rfl, hb7⟩
  have hs7 := hb7.size
  simp only [World.size_alloc] at hs7
  have N7 := N6.below hb7
  have hw17 := hw16.trans (hb7.mono (by simp; omega))
  have hlt5 : b < w4.heap.size := (Array.getElem?_eq_some_iff.1 HH4.out).1
  have HHe := hide (heldDoc_one b 1 1 2 w7 ((hb7.block b (by simp; omega)).trans ((hbb6'.block b (by omega)).trans ((hb5.block b hlt5).trans HH4.out))))
  clear hx0 hx1 hx2 HE6
  have hy0 := N7.y0
  have hy1 := N7.y1
  have hy2 := N7.y2
  go_wp2_with fail
  refine HHe.out.mono ?_
  rintro e w8 ⟨rfl, hb8⟩
  go_wp2_with fail
  go_ret
  exact ⟨rfl, hb1.trans ((hw17.trans (hb8.mono (by omega))).mono (by omega))⟩

set_option maxHeartbeats 2000000 in
set_option maxRecDepth 100000 in
theorem newDocLaw_no (kind : Int) (w : World) (hk : inB kind 1 8 = false) :
    Calls Try.prog 3 #[.int .i64 kind] w fun e w' => e = .returned (.bool true) ∧ Below w.heap.size w w' := by
  have HSp := hide (specNewDoc_no kind w hk)
  have HIm : Hid (∀ wx, Calls Try.prog 13 #[.int .i64 kind] wx fun e w' => e = .returned (.tuple #[.agg #[.int .i64 0, .int .i64 0, .slice none 0 0], .int .i64 10]) ∧ Below wx.heap.size wx w') := fun wx => implNewDoc_no kind wx hk
  clear hk
  go_enter Try.func3, Try.ntmps3
  go_wp2_with fail
  refine HSp.out.mono ?_
  rintro e w1 ⟨a, cap, rfl, hd1, hb1⟩
  have hs1 := hb1.size
  have HD1 := hide hd1
  clear hd1
  dsimp only [noPlain, List.length_nil]
  go_wp2_with fail
  refine (HIm.out _).mono ?_
  rintro e w2 ⟨rfl, hbb2⟩
  simp only [World.size_alloc] at hbb2
  have hs2 := hbb2.size
  simp only [World.size_alloc] at hs2
  have N2 := nb_new (t' := 24) (.int .i64 0) (.int .i64 0) (.slice none 0 0) hbb2
  have hA2 := (Below.refl w2.heap.size w2).alloc (Nat.le_refl _) (.cells #[.int .i64 0, .int .i64 0, .slice none 0 0] 24)
  have HE : Hid (∀ wx, Below w1.heap.size w1 wx → Calls Try.prog 14 #[.agg #[.int .i64 0, .int .i64 0, .slice none 0 0], .agg #[.int .i64 0, .int .i64 0, .slice a 0 cap]] wx fun e w' => e = .returned (.bool true) ∧ Below wx.heap.size wx w') := fun wx hb =>
    eqDoc_any wx.heap.size _ _ noPlain wx ⟨_, rfl, _, _, rfl, .inl rfl⟩ (HD1.out.below hb.size hb) (Nat.le_refl _) (by simp [noPlain]) (by simp [noPlain])
  have hw12 : Below w1.heap.size w1 (w2.alloc (.cells #[.int .i64 0, .int .i64 0, .slice none 0 0] 24)) := (((Below.refl w1.heap.size w1).alloc (Nat.le_refl _) _).trans (hbb2.mono (by omega))).trans (hA2.mono (by omega))
  have HE2 := hide (HE.out _ hw12)
  obtain ⟨hx0, hx1, hx2⟩ := box_doc' hbb2
  have hlA : w1.heap.size < w2.heap.size := by omega
  go_wp2_with fail
  refine HE2.out.mono ?_
  rintro e w3 ⟨rfl, hb3⟩
  have hs3 := hb3.size
  simp only [World.size_alloc] at hs3
  have N3 := N2.below hb3
  have hw13 := hw12.trans (hb3.mono (by simp; omega))
  clear hx0 hx1 hx2 hlA
  have hy0 := N3.y0
  have hy1 := N3.y1
  have hy2 := N3.y2
  clear HE2
  go_wp2_with fail
  refine (markDoc_nil 0 0 w3).mono ?_
  rintro e w4 ⟨rfl, hb4⟩
  have hs4 := hb4.size
  have N4 := N3.below hb4
  have hw14 := hw13.trans (hb4.mono (by omega))
  clear hy0 hy1 hy2
  have hy0 := N4.y0
  have hy1 := N4.y1
  have hy2 := N4.y2
  go_wp2_with fail
  refine (heldDoc_nil 0 0 w4).mono ?_
  rintro e w5 ⟨rfl, hb5⟩
  have hs5 := hb5.size
  have N5 := N4.below hb5
  have hw15 := hw14.trans (hb5.mono (by omega))
  clear hy0 hy1 hy2
  go_wp2_with fail
  refine (HIm.out _).mono ?_
  rintro e w6 ⟨rfl, hbb6⟩
  have hs6 := hbb6.size
  have hA6 := (Below.refl w6.heap.size w6).alloc (Nat.le_refl _) (.cells #[.int .i64 0, .int .i64 0, .slice none 0 0] 24)
  have hbb6' := hbb6.trans (hA6.mono hs6)
  have N6 := N5.below hbb6'
  have hw16 := hw15.trans (hbb6'.mono (by omega))
  have HE6 := hide (HE.out _ hw16)
  have N60 := N5.below hbb6
  have hx0 := N60.x0
  have hx1 := N60.x1
  have hx2 := N60.x2
  have hlA := N60.ltA
  go_wp2_with fail
  refine HE6.out.mono ?_
  rintro e w7 ⟨rfl, hb7⟩
  have hs7 := hb7.size
  simp only [World.size_alloc] at hs7
  have N7 := N6.below hb7
  have hw17 := hw16.trans (hb7.mono (by simp; omega))
  clear hx0 hx1 hx2 HE6
  have hy0 := N7.y0
  have hy1 := N7.y1
  have hy2 := N7.y2
  go_wp2_with fail
  refine (heldDoc_nil 0 0 w7).mono ?_
  rintro e w8 ⟨rfl, hb8⟩
  go_wp2_with fail
  go_ret
  exact ⟨rfl, hb1.trans ((hw17.trans (hb8.mono (by omega))).mono (by omega))⟩

theorem newDocLaw (kind : Int) (w : World) : Calls Try.prog 3 #[.int .i64 kind] w fun e w' => e = .returned (.bool true) ∧ Below w.heap.size w w' := by
  cases hk : inB kind 1 8 with
  | true => exact newDocLaw_ok kind w hk
  | false => exact newDocLaw_no kind w hk
end Go.Proofs.Ytigkjljknmojhaa
