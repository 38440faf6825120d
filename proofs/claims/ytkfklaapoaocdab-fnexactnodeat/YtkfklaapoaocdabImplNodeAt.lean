/-
  NodeAt: what the program answers.
-/
import Derived.Test.YtkfklaapoaocdabSpecNodeAt
import Derived.Test.YtkfklaapoaocdabNewText
import Derived.Deep.RegionHeld3
namespace Go.Proofs.Ytkfklaapoaocdab
open Go.RowKit

set_option maxHeartbeats 4000000 in
set_option maxRecDepth 100000 in
theorem implNode_any (l : List PNode) (ad : Int → Nat) (up : Int → Option Int) (n₁ : Nat) (x : PNode) (w : World) (hT : TreeAt n₁ w l ad up) (hx : x ∈ l) (hn : n₁ ≤ w.heap.size) (hks : ∀ k ∈ x.kids, k ∈ idsOf l) (hkl : x.kids.length ≤ 1048576) :
    Calls Try.prog 34 #[.pointer (some ⟨ad x.id, 0, none⟩)] w (OwnNodePost w x) := by
  have hB := hT x hx
  have hA := hB.lt
  obtain ⟨g, cap, c5, hk5⟩ := hB.c5
  have hP : PtrsAt n₁ w (.slice g x.kids.length cap) x.kids ad := ⟨g, cap, rfl, hk5⟩
  have hW1 := (Below.refl w.heap.size w).alloc (Nat.le_refl _) (.cells #[.int .i64 0, .int .i64 0, .int .i64 0, .string ⟨#[]⟩, .slice none 0 0] 28)
  obtain ⟨W1, hW1e⟩ : ∃ W1, W1 = w.alloc (.cells #[.int .i64 0, .int .i64 0, .int .i64 0, .string ⟨#[]⟩, .slice none 0 0] 28) := ⟨_, rfl⟩
  rw [← hW1e] at hW1
  have hs1 : W1.heap.size = w.heap.size + 1 := by rw [hW1e]; simp
  have hh1 : W1.heap[w.heap.size]? = some (.cells #[.int .i64 0, .int .i64 0, .int .i64 0, .string ⟨#[]⟩, .slice none 0 0] 28 (0, 0)) := by rw [hW1e]; exact alloc_new w _
  have HN : Hid (∀ W', Below (w.heap.size + 1) W1 W' → (W'.cell? ⟨w.heap.size, 0, none⟩ = some (.int .i64 0) ∧ W'.cell? ⟨w.heap.size, 1, none⟩ = some (.int .i64 0) ∧ W'.cell? ⟨w.heap.size, 2, none⟩ = some (.int .i64 0) ∧ W'.cell? ⟨w.heap.size, 3, none⟩ = some (.string ⟨#[]⟩) ∧ W'.cell? ⟨w.heap.size, 4, none⟩ = some (.slice none 0 0)) ∧ (∀ j, W'.frozen? ⟨w.heap.size, j, none⟩ = false)) := fun W' hb =>
    five_cells ((hb.block w.heap.size (by omega)).trans hh1)
  have HOld : Hid (∀ W', Below (w.heap.size + 1) W1 W' → Below w.heap.size w W') := fun W' hb => hW1.trans (hb.mono (by omega))
  have HS : Hid (∀ W', Below (w.heap.size + 1) W1 W' → W'.cell? ⟨ad x.id, 0, none⟩ = some (.int .i64 x.id) ∧ W'.cell? ⟨ad x.id, 1, none⟩ = some (.int .i64 x.kind) ∧ W'.cell? ⟨ad x.id, 2, none⟩ = some (.int .i64 x.attr) ∧ W'.cell? ⟨ad x.id, 3, none⟩ = some (.string x.text) ∧ W'.cell? ⟨ad x.id, 5, none⟩ = some (.slice g x.kids.length cap)) := fun W' hb => by
    have h := HOld.out W' hb
    exact ⟨(h.cell (p := ⟨ad x.id, 0, none⟩) (show ad x.id < _ by omega)).trans hB.c0, (h.cell (p := ⟨ad x.id, 1, none⟩) (show ad x.id < _ by omega)).trans hB.c1, (h.cell (p := ⟨ad x.id, 2, none⟩) (show ad x.id < _ by omega)).trans hB.c2, (h.cell (p := ⟨ad x.id, 3, none⟩) (show ad x.id < _ by omega)).trans hB.c3, (h.cell (p := ⟨ad x.id, 5, none⟩) (show ad x.id < _ by omega)).trans c5⟩
  have HNt : Hid (∀ wx, Below (w.heap.size + 1) W1 wx → Calls Try.prog 52 #[.string x.text] wx fun e w' => e = .returned (.string x.text) ∧ Below (w.heap.size + 1) W1 w' ∧ Below wx.heap.size wx w') := fun wx hb =>
    (newText_any x.text wx).mono fun e w' ⟨he, hb'⟩ => ⟨he, hb.trans (hb'.mono (by have := hb.size; omega)), hb'⟩
  have HId : Hid (∀ wx, Below (w.heap.size + 1) W1 wx → Calls Try.prog 38 #[.slice g x.kids.length cap] wx fun e w' => ∃ a c, e = .returned (.slice a x.kids.length c) ∧ Hid (w'.ownsRow wx.heap.size 3 1 (.slice a x.kids.length c) x.kids.length (x.kids.map (Value.int .i64))) ∧ Below (w.heap.size + 1) W1 w' ∧ Below wx.heap.size wx w') := fun wx hb =>
    (idsOf_any l ad up n₁ x.kids hks _ wx (hT.below (Nat.le_refl _) ((HOld.out wx hb).mono hn)) (hP.below (Nat.le_refl _) ((HOld.out wx hb).mono hn)) (by have := hb.size; omega) hkl).mono fun e w' ⟨v, he, hr, hb'⟩ => by
      obtain ⟨a, c, rfl⟩ := row_shape hr
      exact ⟨a, c, he, hr, hb.trans (hb'.mono (by have := hb.size; omega)), hb'⟩
  have hAN : ad x.id ≠ w.heap.size := by omega
  have hAN2 : w.heap.size ≠ ad x.id := by omega
  have hb0 : Below (w.heap.size + 1) W1 W1.drew := (Below.refl _ _).drew
  have hb00 : Below (w.heap.size + 1) W1 W1 := Below.refl _ _
  have HS1 := hide hs1
  clear hT hx hB hA c5 hk5 hP hW1 hh1 hs1 hks
  go_enter Try.func34, Try.ntmps34
  go_wp2_with fail
  rw [← hW1e]
  clear hW1e
  go_region_held3 (fun W' => W'.cell? ⟨ad x.id, 0, none⟩ = some (.int .i64 x.id) ∧ W'.cell? ⟨ad x.id, 1, none⟩ = some (.int .i64 x.kind) ∧ W'.cell? ⟨ad x.id, 2, none⟩ = some (.int .i64 x.attr) ∧ W'.cell? ⟨ad x.id, 3, none⟩ = some (.string x.text) ∧ W'.cell? ⟨ad x.id, 5, none⟩ = some (.slice g x.kids.length cap)) (first | exact HS.out _ (by assumption) | go_keep)
    (first
      | (go_at_call 52; refine (HNt.out _ (by assumption)).mono ?_; rintro e w2 ⟨rfl, hb2, hc2⟩; obtain ⟨⟨q0, q1, q2, q3, q4⟩, qf⟩ := HN.out _ hb2)
      | (go_at_call 38; refine (HId.out _ (by assumption)).mono ?_; rintro e w3 ⟨a3, c3, rfl, hr3, hb3, hc3⟩; obtain ⟨⟨r0, r1, r2, r3, r4⟩, rf⟩ := HN.out _ hb3))
  have hw3 := HOld.out _ hb3
  have hs2 := hb2.size
  rw [HS1.out] at hs2
  have hz3 : w.heap.size < w3.heap.size := by have := hc3.size; omega
  go_wp2_with fail
  refine bodyPost_ret (v := .agg #[.int .i64 x.id, .int .i64 x.kind, .int .i64 x.attr, .string x.text, .slice a3 x.kids.length c3]) (by simp [results, Try.results34, go_sem, r0, r1, r2, r3, r4]) rfl ⟨a3, c3, rfl, ownsRow_base (row_keep hr3.out fun g hg => ?_) (by omega : w.heap.size ≤ w2.heap.size), ?_⟩
  · iterate 5 rw [heap_setCell_other _ _ _ _ (by show g ≠ _; simp; omega)]
  · exact (((((hw3.setCell (p := ⟨w.heap.size, 0, none⟩) (by simp) _).setCell (p := ⟨w.heap.size, 1, none⟩) (by simp) _).setCell (p := ⟨w.heap.size, 2, none⟩) (by simp) _).setCell (p := ⟨w.heap.size, 3, none⟩) (by simp) _).setCell (p := ⟨w.heap.size, 4, none⟩) (by simp) _)

set_option maxHeartbeats 4000000 in
set_option maxRecDepth 100000 in
theorem implNodeAt_any (n₀ : Nat) (d : PDoc) (s : Value) (id : Int) (w : World) (hN : NodesAt n₀ w s d.nodes) (hn : n₀ ≤ w.heap.size) (hl : d.nodes.length ≤ 1048576) (hwf : WfDoc d) (c : Int) (x : PNode) (hc : c = askOf d id) (hx : x = nodeAns d id) :
    Calls Try.prog 10 #[.agg #[.int .i64 d.root, .int .i64 d.next, s], .int .i64 id] w (NodePost w x c) := by
  obtain ⟨W2, hW2⟩ : ∃ W2, W2 = (w.alloc (.cells #[.int .i64 d.root, .int .i64 d.next, s] 33)).alloc (.cells #[.int .i64 0, .int .i64 0, .int .i64 0, .string ⟨#[]⟩, .slice none 0 0] 28) := ⟨_, rfl⟩
  have hs2 : W2.heap.size = w.heap.size + 1 + 1 := by rw [hW2]; simp
  have hb2 : Below w.heap.size w W2 := by rw [hW2]; exact ((Below.refl _ _).alloc (Nat.le_refl _) _).alloc (by simp) _
  have h2 : W2.heap[w.heap.size + 1]? = some (.cells #[.int .i64 0, .int .i64 0, .int .i64 0, .string ⟨#[]⟩, .slice none 0 0] 28 (0, 0)) := by
    rw [hW2]
    have := alloc_new (w.alloc (.cells #[.int .i64 d.root, .int .i64 d.next, s] 33)) (.cells #[.int .i64 0, .int .i64 0, .int .i64 0, .string ⟨#[]⟩, .slice none 0 0] 28)
    simp only [World.size_alloc] at this
    exact this
  have HA : Hid (Calls Try.prog 33 #[.agg #[.int .i64 d.root, .int .i64 d.next, s], .int .i64 id] W2 (AtPost W2 d id)) :=
    branchAt_any n₀ d s id _ (hN.below (Nat.le_refl _) (hb2.mono hn)) (by omega) hl hwf
  have HC := hide hc
  have HX := hide hx
  have HH2 := hide h2
  have HS2 := hide hs2
  have HB2 := hide hb2
  obtain ⟨a, cap, rfl, -⟩ := hN
  clear hc hx hwf h2 hs2 hb2
  go_enter Try.func10, Try.ntmps10
  go_wp2_with fail
  rw [← hW2]
  clear hW2
  refine HA.out.mono ?_
  rintro e w1 (⟨rfl, hno, hb1⟩ | ⟨rfl, ⟨hg, hin⟩, hb1⟩ | ⟨tb, ad, up, kv, rfl, ⟨hg, hin⟩, hgr, hb1⟩)
  · have h1 : Hid (c = 1) := HC.out.trans (askOf_bad hno)
    have hX : Hid (x = nodeNil) := HX.out.trans (nodeAns_no (by rw [← HC.out, h1.out]; decide))
    rw [HS2.out] at hb1
    have k2 := (hb1.block (w.heap.size + 1) (by omega)).trans HH2.out
    have hw1 := HB2.out.trans (hb1.mono (by omega))
    obtain ⟨⟨q0, q1, q2, q3, q4⟩, qf⟩ := five_cells k2
    have hz1 : w.heap.size + 1 < w1.heap.size := (Array.getElem?_eq_some_iff.1 k2).1
    clear hno k2
    go_wp2_with fail
    refine bodyPost_ret (v := .tuple #[.agg #[.int .i64 0, .int .i64 0, .int .i64 0, .string ⟨#[]⟩, .slice none 0 0], .int .i64 1]) (by simp [results, Try.results10, go_sem, q0, q1, q2, q3, q4]) rfl ⟨none, 0, by rw [hX.out, h1.out]; rfl, by rw [hX.out]; exact World.ownsRow_nil _ _ _ _, ?_⟩
    exact (((((hw1.setCell (p := ⟨w.heap.size + 1, 0, none⟩) (by simp) _).setCell (p := ⟨w.heap.size + 1, 1, none⟩) (by simp) _).setCell (p := ⟨w.heap.size + 1, 2, none⟩) (by simp) _).setCell (p := ⟨w.heap.size + 1, 3, none⟩) (by simp) _).setCell (p := ⟨w.heap.size + 1, 4, none⟩) (by simp) _)
  · have h1 : Hid (c = 5) := HC.out.trans (askOf_none hg hin)
    have hX : Hid (x = nodeNil) := HX.out.trans (nodeAns_no (by rw [← HC.out, h1.out]; decide))
    rw [HS2.out] at hb1
    have k2 := (hb1.block (w.heap.size + 1) (by omega)).trans HH2.out
    have hw1 := HB2.out.trans (hb1.mono (by omega))
    obtain ⟨⟨q0, q1, q2, q3, q4⟩, qf⟩ := five_cells k2
    have hz1 : w.heap.size + 1 < w1.heap.size := (Array.getElem?_eq_some_iff.1 k2).1
    clear hg hin k2
    go_wp2_with fail
    refine bodyPost_ret (v := .tuple #[.agg #[.int .i64 0, .int .i64 0, .int .i64 0, .string ⟨#[]⟩, .slice none 0 0], .int .i64 5]) (by simp [results, Try.results10, go_sem, q0, q1, q2, q3, q4]) rfl ⟨none, 0, by rw [hX.out, h1.out]; rfl, by rw [hX.out]; exact World.ownsRow_nil _ _ _ _, ?_⟩
    exact (((((hw1.setCell (p := ⟨w.heap.size + 1, 0, none⟩) (by simp) _).setCell (p := ⟨w.heap.size + 1, 1, none⟩) (by simp) _).setCell (p := ⟨w.heap.size + 1, 2, none⟩) (by simp) _).setCell (p := ⟨w.heap.size + 1, 3, none⟩) (by simp) _).setCell (p := ⟨w.heap.size + 1, 4, none⟩) (by simp) _)
  · have h1 : Hid (c = 0) := HC.out.trans (askOf_ok hg hin)
    obtain ⟨y, hy, rfl⟩ := node_of hin
    have hX : x = y := HX.out.trans (nodeAns_ok (by rw [← HC.out, h1.out]) hy rfl)
    subst hX
    rw [HS2.out] at hb1
    have hs1 := hb1.size
    rw [HS2.out] at hs1
    have hkx : x.kids.length ≤ 12 := (hg.fine x hy).2.2.2.2.2.2.2
    have HNd := hide (implNode_any d.nodes ad up w1.heap.size x w1 (hgr.tree hg) hy (Nat.le_refl _) (fun k hk => hg.there k (List.mem_flatMap.2 ⟨x, hy, hk⟩)) (by omega))
    have HK2 := hide ((hb1.block (w.heap.size + 1) (by omega)).trans HH2.out)
    have hw1 := HB2.out.trans (hb1.mono (by omega))
    clear hg hin hgr hy
    go_wp2_with fail
    refine HNd.out.mono ?_
    rintro e w3 ⟨a3, c3, rfl, hr3, hb3⟩
    have hs3 := hb3.size
    have kk := (hb3.block (w.heap.size + 1) (by omega)).trans HK2.out
    obtain ⟨⟨q0, q1, q2, q3, q4⟩, qf⟩ := five_cells kk
    have hz3 : w.heap.size + 1 < w3.heap.size := (Array.getElem?_eq_some_iff.1 kk).1
    have hw3 := hw1.trans (hb3.mono (by omega))
    have HR3 := hide hr3
    clear hr3 kk
    go_wp2_with fail
    refine bodyPost_ret (v := .tuple #[.agg #[.int .i64 x.id, .int .i64 x.kind, .int .i64 x.attr, .string x.text, .slice a3 x.kids.length c3], .int .i64 0]) (by simp [results, Try.results10, go_sem, q0, q1, q2, q3, q4]) rfl ⟨a3, c3, ret_vc h1.out.symm, ownsRow_base (row_keep HR3.out fun g hg => ?_) (by omega : w.heap.size ≤ w1.heap.size), ?_⟩
    · iterate 5 rw [heap_setCell_other _ _ _ _ (by show g ≠ _; simp; omega)]
    · exact (((((hw3.setCell (p := ⟨w.heap.size + 1, 0, none⟩) (by simp) _).setCell (p := ⟨w.heap.size + 1, 1, none⟩) (by simp) _).setCell (p := ⟨w.heap.size + 1, 2, none⟩) (by simp) _).setCell (p := ⟨w.heap.size + 1, 3, none⟩) (by simp) _).setCell (p := ⟨w.heap.size + 1, 4, none⟩) (by simp) _)
end Go.Proofs.Ytkfklaapoaocdab
