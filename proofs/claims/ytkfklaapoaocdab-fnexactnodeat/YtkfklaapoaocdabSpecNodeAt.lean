/-
  NodeAt: what the specification answers.
-/
import Derived.Test.YtkfklaapoaocdabSpecInOrder
import Derived.Test.YtkfklaapoaocdabLawDoc
import Derived.Deep.RegionWith
import Derived.WideShapes
namespace Go.Proofs.Ytkfklaapoaocdab
open Go.RowKit

noncomputable def nodeAns (d : PDoc) (id : Int) : PNode := by
  classical exact if askOf d id = 0 then nodeOf d.nodes id else nodeNil
theorem nodeAns_no {d : PDoc} {id : Int} (h : askOf d id ≠ 0) : nodeAns d id = nodeNil := by unfold nodeAns; rw [if_neg h]
theorem nodeAns_ok {d : PDoc} {id : Int} (h : askOf d id = 0) {x : PNode} (hx : x ∈ d.nodes) (hid : x.id = id) : nodeAns d id = x := by
  unfold nodeAns; rw [if_pos h, ← hid]; exact nodeOf_of (askOf_zero h).1.rise hx

/-- A node whose kids are a list of its own, and a code. -/
def NodePost (w : World) (x : PNode) (c : Int) (e : Ending) (w' : World) : Prop :=
  ∃ a cc, e = .returned (.tuple #[.agg #[.int .i64 x.id, .int .i64 x.kind, .int .i64 x.attr, .string x.text, .slice a x.kids.length cc], .int .i64 c]) ∧ w'.ownsRow w.heap.size 3 1 (.slice a x.kids.length cc) x.kids.length (x.kids.map (Value.int .i64)) ∧ Below w.heap.size w w'

def OwnNodePost (w : World) (x : PNode) (e : Ending) (w' : World) : Prop :=
  ∃ a cc, e = .returned (.agg #[.int .i64 x.id, .int .i64 x.kind, .int .i64 x.attr, .string x.text, .slice a x.kids.length cc]) ∧ w'.ownsRow w.heap.size 3 1 (.slice a x.kids.length cc) x.kids.length (x.kids.map (Value.int .i64)) ∧ Below w.heap.size w w'

theorem row_keep {w w' : World} {B : Nat} {e : TypeId} {v : Value} {n : Nat} {xs : List Value} (h : w.ownsRow B e 1 v n xs) (hk : ∀ g, B ≤ g → w'.heap[g]? = w.heap[g]?) : w'.ownsRow B e 1 v n xs := by
  obtain ⟨hl, h | ⟨g, cap, cur, rfl, hg, hh, h1, h2, h3, h4⟩⟩ := h
  · exact ⟨hl, .inl h⟩
  · exact ⟨hl, .inr ⟨g, cap, cur, rfl, hg, (hk g hg).trans hh, h1, h2, h3, h4⟩⟩

theorem five_cells {w : World} {B : Nat} {a b c d e : Value} {t : TypeId} (h : w.heap[B]? = some (.cells #[a, b, c, d, e] t (0, 0))) :
    (w.cell? ⟨B, 0, none⟩ = some a ∧ w.cell? ⟨B, 1, none⟩ = some b ∧ w.cell? ⟨B, 2, none⟩ = some c ∧ w.cell? ⟨B, 3, none⟩ = some d ∧ w.cell? ⟨B, 4, none⟩ = some e) ∧ ∀ j, w.frozen? ⟨B, j, none⟩ = false :=
  ⟨⟨cell_of_heap h 0, cell_of_heap h 1, cell_of_heap h 2, cell_of_heap h 3, cell_of_heap h 4⟩, fun j => frozen_of_heap h j⟩

set_option maxHeartbeats 2000000 in
set_option maxRecDepth 100000 in
theorem specOwnNode_any (n₀ : Nat) (x : PNode) (b off cap : Nat) (w : World) (hk : IntsAt n₀ w (.slice (some ⟨b, off, none⟩) x.kids.length cap) x.kids) (hn : n₀ ≤ w.heap.size) (hl : x.kids.length ≤ 1048576) :
    Calls Try.prog 30 #[.agg #[.int .i64 x.id, .int .i64 x.kind, .int .i64 x.attr, .string x.text, .slice (some ⟨b, off, none⟩) x.kids.length cap]] w (OwnNodePost w x) := by
  obtain ⟨i0, hinf, hz0, hz1, hz2⟩ := info_parts specInfoInt'
  have HNews : Hid (∀ wx, Below w.heap.size w wx → ∀ j u, (x.kids.map (Value.int .i64))[j]? = some u → wx.cell? ((⟨b, off, none⟩ : Addr).add j) = some u) := fun wx hb j u hu => by
    have hj : j < x.kids.length := by
      have := (List.getElem?_eq_some_iff.1 hu).1
      simpa using this
    obtain ⟨a2, c2, e2, h2⟩ := hk
    simp only [Value.slice.injEq] at e2
    obtain ⟨rfl, -, -⟩ := e2
    obtain ⟨b2, o2, e3, h3, h4⟩ := h2.resolve_left (by intro e; simp [e] at hj)
    cases e3
    rw [Go.WideShapes.add_plain, hb.cell (p := ⟨b, off + j, none⟩) (show b < w.heap.size by omega), h4 j hj]
    rw [List.getElem?_map, List.getElem?_eq_getElem hj, Option.map_some] at hu
    rw [List.getElem?_eq_getElem hj, Option.getD_some]
    exact hu
  clear hk
  obtain ⟨W2, hW2⟩ : ∃ W2, W2 = (w.alloc (.cells #[.int .i64 x.id, .int .i64 x.kind, .int .i64 x.attr, .string x.text, .slice (some ⟨b, off, none⟩) x.kids.length cap] 28)).alloc (.cells #[.int .i64 0, .int .i64 0, .int .i64 0, .string ⟨#[]⟩, .slice none 0 0] 28) := ⟨_, rfl⟩
  have hs2 : W2.heap.size = w.heap.size + 1 + 1 := by rw [hW2]; simp
  have hb2 : Below w.heap.size w W2 := by rw [hW2]; exact ((Below.refl _ _).alloc (Nat.le_refl _) _).alloc (by simp) _
  have h1 : W2.heap[w.heap.size]? = some (.cells #[.int .i64 x.id, .int .i64 x.kind, .int .i64 x.attr, .string x.text, .slice (some ⟨b, off, none⟩) x.kids.length cap] 28 (0, 0)) := by
    rw [hW2, Below.heap_alloc _ _ _ (by simp)]; exact alloc_new w _
  have h2 : W2.heap[w.heap.size + 1]? = some (.cells #[.int .i64 0, .int .i64 0, .int .i64 0, .string ⟨#[]⟩, .slice none 0 0] 28 (0, 0)) := by
    rw [hW2]
    have := alloc_new (w.alloc (.cells #[.int .i64 x.id, .int .i64 x.kind, .int .i64 x.attr, .string x.text, .slice (some ⟨b, off, none⟩) x.kids.length cap] 28)) (.cells #[.int .i64 0, .int .i64 0, .int .i64 0, .string ⟨#[]⟩, .slice none 0 0] 28)
    simp only [World.size_alloc] at this
    exact this
  have HRow0 : Hid ((W2.alloc (.cells #[] 3)).ownsRow (w.heap.size + 1 + 1) 3 1 (.slice (some ⟨w.heap.size + 1 + 1, 0, none⟩) 0 0) 0 []) := by
    have := row_none W2 (w.heap.size + 1 + 1) (by omega)
    rw [hs2] at this
    exact this
  have HH1 := hide h1
  have HH2 := hide h2
  have HS2 := hide hs2
  have HB0 : Hid (Below w.heap.size w (W2.alloc (.cells #[] 3))) := hb2.alloc (by omega) _
  rw [hW2] at HRow0 HB0 HH1 HH2
  clear h1 h2 hs2 hb2 hW2 HS2 W2
  go_enter Try.func30, Try.ntmps30
  go_wp2_with (at_builtin; refine wpList_append_own _ rfl _ _ 26 rfl (w.heap.size + 1 + 1) 3 i0 (.int .i64 0) 1 8 Try.underlying26 hinf hz0 hz1 hz2 rfl (by decide) _ _ _ rfl HRow0.out ⟨b, off, none⟩ x.kids.length cap (x.kids.map (Value.int .i64)) rfl (by simp) (HNews.out _ HB0.out) (ints_one _) (by unfold maxLen; omega) (by omega) (by simp) ?_)
  intro v' w1 hown' hgrow _
  have hb3 := HB0.out.grown hgrow (by simp; omega) (fun g hg => by simp [Value.ownBlock] at hg; omega)
  have k1 : w1.heap[w.heap.size]? = some (.cells #[.int .i64 x.id, .int .i64 x.kind, .int .i64 x.attr, .string x.text, .slice (some ⟨b, off, none⟩) x.kids.length cap] 28 (0, 0)) :=
    (hgrow.block w.heap.size (by simp; omega) (by simp [Value.ownBlock]; omega)).trans ((Below.heap_alloc _ _ _ (by simp; omega)).trans HH1.out)
  have k2 : w1.heap[w.heap.size + 1]? = some (.cells #[.int .i64 0, .int .i64 0, .int .i64 0, .string ⟨#[]⟩, .slice none 0 0] 28 (0, 0)) :=
    (hgrow.block (w.heap.size + 1) (by simp) (by simp [Value.ownBlock])).trans ((Below.heap_alloc _ _ _ (by simp)).trans HH2.out)
  have HRow := hide hown'
  obtain ⟨a', c', rfl⟩ := row_shape hown'
  obtain ⟨⟨p0, p1, p2, p3, p4⟩, pf⟩ := five_cells k1
  obtain ⟨⟨q0, q1, q2, q3, q4⟩, qf⟩ := five_cells k2
  have hzz : w.heap.size + 1 < w1.heap.size := (Array.getElem?_eq_some_iff.1 k2).1
  have hzy : w.heap.size < w1.heap.size := by omega
  clear hown' hgrow k1 k2
  go_wp2_with fail
  refine bodyPost_ret (v := .agg #[.int .i64 x.id, .int .i64 x.kind, .int .i64 x.attr, .string x.text, .slice a' x.kids.length c']) (by simp [results, Try.results30, go_sem, q0, q1, q2, q3, q4]) rfl ⟨a', c', rfl, ownsRow_base (row_keep HRow.out fun g hg => ?_) (by omega : w.heap.size ≤ w.heap.size + 1 + 1), ?_⟩
  · iterate 6 rw [heap_setCell_other _ _ _ _ (by show g ≠ _; simp; omega)]
  · exact (((((hb3.setCell (p := ⟨w.heap.size, 4, none⟩) (by simp) _).setCell (p := ⟨w.heap.size + 1, 0, none⟩) (by simp) _).setCell (p := ⟨w.heap.size + 1, 1, none⟩) (by simp) _).setCell (p := ⟨w.heap.size + 1, 2, none⟩) (by simp) _).setCell (p := ⟨w.heap.size + 1, 3, none⟩) (by simp) _).setCell (p := ⟨w.heap.size + 1, 4, none⟩) (by simp) _

/-- What a node of a copied document is in memory. -/
theorem NodesOwn.node {lo hi : Nat} {w : World} {v : Value} {l : List PNode} (h : NodesOwn lo hi w v l) {p : Nat} (hp : p < l.length) : ∃ b cap bk ck, v = .slice (some ⟨b, 0, none⟩) l.length cap ∧ b < hi ∧ (w.cell? ⟨b, p * 5, none⟩ = some (.int .i64 (l[p]?.getD nodeNil).id) ∧ w.cell? ⟨b, p * 5 + 1, none⟩ = some (.int .i64 (l[p]?.getD nodeNil).kind) ∧ w.cell? ⟨b, p * 5 + 2, none⟩ = some (.int .i64 (l[p]?.getD nodeNil).attr) ∧ w.cell? ⟨b, p * 5 + 3, none⟩ = some (.string (l[p]?.getD nodeNil).text) ∧ w.cell? ⟨b, p * 5 + 4, none⟩ = some (.slice (some ⟨bk, 0, none⟩) (l[p]?.getD nodeNil).kids.length ck)) ∧ IntsAt hi w (.slice (some ⟨bk, 0, none⟩) (l[p]?.getD nodeNil).kids.length ck) (l[p]?.getD nodeNil).kids := by
  obtain ⟨b, cap, cs, rfl, h1, h2, h3, h4⟩ := h
  obtain ⟨kv, g0, g1, g2, g3, g4, hI⟩ := h4 p hp
  have hA := hI.at
  obtain ⟨bk, ck, _, rfl, _⟩ := hI
  exact ⟨b, cap, bk, ck, rfl, h2, ⟨by rw [cell_of_heap h3, g0], by rw [cell_of_heap h3, g1], by rw [cell_of_heap h3, g2], by rw [cell_of_heap h3, g3], by rw [cell_of_heap h3, g4]⟩, hA⟩

set_option maxHeartbeats 4000000 in
set_option maxRecDepth 100000 in
theorem specNodeAt_any (lo hi : Nat) (d : PDoc) (v : Value) (id : Int) (w : World) (hO : DocOwn lo hi w v d) (hhi : hi ≤ w.heap.size) (hl : d.nodes.length ≤ 1048576) (hkl : ∀ x ∈ d.nodes, x.kids.length ≤ 1048576) (c : Int) (x : PNode) (hc : c = askOf d id) (hx : x = nodeAns d id) :
    Calls Try.prog 8 #[v, .int .i64 id] w (NodePost w x c) := by
  obtain ⟨s, rfl, hN⟩ := hO
  have hNA := hN.at
  obtain ⟨W2, hW2⟩ : ∃ W2, W2 = (w.alloc (.cells #[.int .i64 d.root, .int .i64 d.next, s] 33)).alloc (.cells #[.int .i64 0, .int .i64 0, .int .i64 0, .string ⟨#[]⟩, .slice none 0 0] 28) := ⟨_, rfl⟩
  have hs2 : W2.heap.size = w.heap.size + 1 + 1 := by rw [hW2]; simp
  have hb2 : Below w.heap.size w W2 := by rw [hW2]; exact ((Below.refl _ _).alloc (Nat.le_refl _) _).alloc (by simp) _
  have h1 : W2.heap[w.heap.size]? = some (.cells #[.int .i64 d.root, .int .i64 d.next, s] 33 (0, 0)) := by
    rw [hW2, Below.heap_alloc _ _ _ (by simp)]; exact alloc_new w _
  have h2 : W2.heap[w.heap.size + 1]? = some (.cells #[.int .i64 0, .int .i64 0, .int .i64 0, .string ⟨#[]⟩, .slice none 0 0] 28 (0, 0)) := by
    rw [hW2]
    have := alloc_new (w.alloc (.cells #[.int .i64 d.root, .int .i64 d.next, s] 33)) (.cells #[.int .i64 0, .int .i64 0, .int .i64 0, .string ⟨#[]⟩, .slice none 0 0] 28)
    simp only [World.size_alloc] at this
    exact this
  have HA := hide (specAsk_any hi d s id W2 (hNA.below (Nat.le_refl _) (hb2.mono hhi)) (by omega) hl hkl c hc)
  have HNo : Hid (c ≠ 0 → x = nodeNil) := fun h => by rw [hx]; exact nodeAns_no (by rw [← hc]; exact h)
  have HOk : Hid (c = 0 → ∃ p : Nat, placeOf d.nodes id = p ∧ p < d.nodes.length ∧ x = d.nodes[p]?.getD nodeNil) := fun h => by
    have ha := hc.symm.trans h
    obtain ⟨p, hp, hpl, hpi, _⟩ := placeOf_lt (askOf_zero ha).2
    exact ⟨p, hp, hpl, by rw [hx]; exact nodeAns_ok ha (by simp [hpl]) hpi⟩
  have HN := hide hN
  have HNA := hide hNA
  have HH1 := hide h1
  have HH2 := hide h2
  have HS2 := hide hs2
  have HB2 := hide hb2
  have HKL := hide hkl
  obtain ⟨bs, caps, _, rfl, _⟩ := hN
  clear hc hx hkl hNA h1 h2 hs2 hb2
  by_cases h0 : c = 0
  · obtain ⟨p, hp, hpl, hxp⟩ := HOk.out h0
    obtain ⟨b, cap, bk, ck, hsl, hb, ⟨n0, n1, n2, n3, n4⟩, hK⟩ := HN.out.node hpl
    simp only [Value.slice.injEq, Option.some.injEq, Addr.mk.injEq, and_true, true_and] at hsl
    obtain ⟨rfl, rfl⟩ := hsl
    rw [← hxp] at n0 n1 n2 n3 n4 hK
    have hxk : x.kids.length ≤ 1048576 := by rw [hxp]; exact HKL.out _ (by simp [hpl])
    have HAt : Hid (∀ wx, Below w.heap.size w wx → Calls Try.prog 31 #[.agg #[.int .i64 d.root, .int .i64 d.next, .slice (some ⟨bs, 0, none⟩) d.nodes.length caps], .int .i64 id] wx fun e w' => e = .returned (.int .i64 (p : Int)) ∧ Below wx.heap.size wx w') := fun wx hb => by
      have := specAt_any hi d.root d.next _ d.nodes id wx (HNA.out.below (Nat.le_refl _) (hb.mono hhi)) (by have := hb.size; omega) hl
      rw [hp] at this
      exact this
    have HOw : Hid (∀ wx, Below w.heap.size w wx → Calls Try.prog 30 #[.agg #[.int .i64 x.id, .int .i64 x.kind, .int .i64 x.attr, .string x.text, .slice (some ⟨bk, 0, none⟩) x.kids.length ck]] wx (OwnNodePost wx x)) := fun wx hb =>
      specOwnNode_any hi x bk 0 ck wx (hK.below (Nat.le_refl _) (hb.mono hhi)) (by have := hb.size; omega) hxk
    have h00 : (c != 0) = false := by simp [h0]
    have HZ := hide h0
    have hbw : bs < w.heap.size := by omega
    have hpl1 : (p : Int) < (d.nodes.length : Int) := by omega
    clear h0 hp hxp hK HOk HNo
    go_enter Try.func8, Try.ntmps8
    go_wp2_with fail
    rw [← hW2]
    refine HA.out.mono ?_
    rintro e w1 ⟨rfl, hb1⟩
    rw [HS2.out] at hb1
    have hs1 := hb1.size
    rw [HS2.out] at hs1
    have k1 := (hb1.block w.heap.size (by omega)).trans HH1.out
    have k2 := (hb1.block (w.heap.size + 1) (by omega)).trans HH2.out
    have hw1 := HB2.out.trans (hb1.mono (by omega))
    have x0 := cell_of_heap k1 0
    have x1 := cell_of_heap k1 1
    have x2 := cell_of_heap k1 2
    simp only [List.getElem?_toArray, List.getElem?_cons_succ, List.getElem?_cons_zero] at x0 x1 x2
    have m0 := (hw1.cell (p := ⟨bs, p * 5, none⟩) hbw).trans n0
    have m1 := (hw1.cell (p := ⟨bs, p * 5 + 1, none⟩) hbw).trans n1
    have m2 := (hw1.cell (p := ⟨bs, p * 5 + 2, none⟩) hbw).trans n2
    have m3 := (hw1.cell (p := ⟨bs, p * 5 + 3, none⟩) hbw).trans n3
    have m4 := (hw1.cell (p := ⟨bs, p * 5 + 4, none⟩) hbw).trans n4
    have hz0 : w.heap.size < w1.heap.size := by omega
    have hz1 : w.heap.size + 1 < w1.heap.size := by omega
    have hbs1 : bs < w1.heap.size := by omega
    have HK2 := hide k2
    clear k1 k2 n0 n1 n2 n3 n4 hW2
    go_wp2_with fail
    go_region_with (first
      | (go_at_call 31; refine (HAt.out _ hw1.drew).mono ?_; rintro e w2 ⟨rfl, hc2⟩; have hs2 := hc2.size; have z2 := (hc2.cell (p := ⟨w.heap.size, 2, none⟩) hz0).trans x2; have y0 := (hc2.cell (p := ⟨bs, p * 5, none⟩) hbs1).trans m0; have y1 := (hc2.cell (p := ⟨bs, p * 5 + 1, none⟩) hbs1).trans m1; have y2 := (hc2.cell (p := ⟨bs, p * 5 + 2, none⟩) hbs1).trans m2; have y3 := (hc2.cell (p := ⟨bs, p * 5 + 3, none⟩) hbs1).trans m3; have y4 := (hc2.cell (p := ⟨bs, p * 5 + 4, none⟩) hbs1).trans m4; have hw2 := hw1.drew.trans (hc2.mono (by simp; omega)))
      | (go_at_call 30; refine (HOw.out _ hw2).mono ?_; rintro e w3 ⟨a3, c3, rfl, hr3, hb3⟩; have hw3 := hw2.trans (hb3.mono hw2.size); have kk := (hb3.block (w.heap.size + 1) (by simp at hs2; omega)).trans ((hc2.block (w.heap.size + 1) (by simp; omega)).trans HK2.out); obtain ⟨⟨q0, q1, q2, q3, q4⟩, qf⟩ := five_cells kk; have hz3 := (Array.getElem?_eq_some_iff.1 kk).1; have HR3 := hide hr3; clear hr3 kk))
    all_goals
      go_wp2_with fail
      refine bodyPost_ret (v := .tuple #[.agg #[.int .i64 x.id, .int .i64 x.kind, .int .i64 x.attr, .string x.text, .slice a3 x.kids.length c3], .int .i64 0]) (by simp [results, Try.results8, go_sem, q0, q1, q2, q3, q4]) rfl ⟨a3, c3, ret_vc HZ.out.symm, ownsRow_base (row_keep HR3.out fun g hg => ?_) (by simp at hs2; omega : w.heap.size ≤ w2.heap.size), ?_⟩
      · iterate 5 rw [heap_setCell_other _ _ _ _ (by show g ≠ _; simp at hs2 ⊢; omega)]
      · exact (((((hw3.setCell (p := ⟨w.heap.size + 1, 0, none⟩) (by simp) _).setCell (p := ⟨w.heap.size + 1, 1, none⟩) (by simp) _).setCell (p := ⟨w.heap.size + 1, 2, none⟩) (by simp) _).setCell (p := ⟨w.heap.size + 1, 3, none⟩) (by simp) _).setCell (p := ⟨w.heap.size + 1, 4, none⟩) (by simp) _)
  · have h00 : (c != 0) = true := by simp [h0]
    have HX := hide (HNo.out h0)
    clear h0 HOk HNo
    go_enter Try.func8, Try.ntmps8
    go_wp2_with fail
    rw [← hW2]
    refine HA.out.mono ?_
    rintro e w1 ⟨rfl, hb1⟩
    rw [HS2.out] at hb1
    have hs1 := hb1.size
    rw [HS2.out] at hs1
    have k2 := (hb1.block (w.heap.size + 1) (by omega)).trans HH2.out
    have hw1 := HB2.out.trans (hb1.mono (by omega))
    obtain ⟨⟨q0, q1, q2, q3, q4⟩, qf⟩ := five_cells k2
    have hz1 : w.heap.size + 1 < w1.heap.size := by omega
    clear k2 hW2
    go_wp2_with fail
    refine bodyPost_ret (v := .tuple #[.agg #[.int .i64 0, .int .i64 0, .int .i64 0, .string ⟨#[]⟩, .slice none 0 0], .int .i64 c]) (by simp [results, Try.results8, go_sem, q0, q1, q2, q3, q4]) rfl ⟨none, 0, by rw [HX.out]; rfl, by rw [HX.out]; exact World.ownsRow_nil _ _ _ _, ?_⟩
    exact (((((hw1.setCell (p := ⟨w.heap.size + 1, 0, none⟩) (by simp) _).setCell (p := ⟨w.heap.size + 1, 1, none⟩) (by simp) _).setCell (p := ⟨w.heap.size + 1, 2, none⟩) (by simp) _).setCell (p := ⟨w.heap.size + 1, 3, none⟩) (by simp) _).setCell (p := ⟨w.heap.size + 1, 4, none⟩) (by simp) _)
end Go.Proofs.Ytkfklaapoaocdab
