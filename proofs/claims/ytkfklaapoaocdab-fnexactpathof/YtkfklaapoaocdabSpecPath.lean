/-
  The path of a node, as the specification reckons it.
-/
import Derived.Test.YtkfklaapoaocdabSpecInOrder
namespace Go.Proofs.Ytkfklaapoaocdab
open Go.RowKit

/-- A node and those above it, so many of them. -/
def ups (l : List PNode) : Nat → Int → List Int
  | 0, i => [i]
  | q + 1, i => i :: ups l q (parentOf l i)

theorem ups_len (l : List PNode) : ∀ (q : Nat) (i : Int), (ups l q i).length = q + 1
  | 0, _ => rfl
  | q + 1, i => by simp [ups, ups_len l q]

section
variable {d : PDoc}

theorem Good.up_root (G : Good d) : parentOf d.nodes d.root = 0 := parentOf_none G.rootNo

theorem Good.up_dep (G : Good d) {q : Nat} {i : Int} (h : Dep d.nodes d.root (q + 1) i) : Dep d.nodes d.root q (parentOf d.nodes i) := by
  obtain ⟨k, hk, hi⟩ := h
  rw [one_parent G.once (parentOf_up G.rise (kidsAt_all hi)) hi]
  exact hk

theorem Good.dep_in (G : Good d) {q : Nat} {i : Int} (h : Dep d.nodes d.root q i) : i ∈ idsOf d.nodes := Go.Proofs.Ytkfklaapoaocdab.dep_in G.there G.rootIn h

theorem Good.ups_in (G : Good d) : ∀ {q : Nat} {i : Int}, Dep d.nodes d.root q i → ∀ k ∈ ups d.nodes q i, k ∈ idsOf d.nodes
  | 0, i, h, k, hk => by simp [ups] at hk; subst hk; exact G.dep_in h
  | q + 1, i, h, k, hk => by
    rcases List.mem_cons.1 hk with rfl | hk
    · exact G.dep_in h
    · exact G.ups_in (G.up_dep h) k hk

theorem Good.dep_le (G : Good d) {q : Nat} {i : Int} (h : Dep d.nodes d.root q i) : q ≤ 40 := by
  have h4 := low_desc G.toFlat.low (dep_iff.1 h)
  have := G.n40
  omega
end

/-- Where going up stands: what is left to go. -/
def Left (d : PDoc) (cur : Int) (rest : List Int) : Prop := (∃ r, Dep d.nodes d.root r cur ∧ rest = ups d.nodes r cur) ∨ (cur = 0 ∧ rest = [])

theorem Left.next {d : PDoc} (G : Good d) {cur : Int} {rest : List Int} (h : Left d cur rest) (hc : cur ≠ 0) : ∃ rest', rest = cur :: rest' ∧ Left d (parentOf d.nodes cur) rest' ∧ cur ∈ idsOf d.nodes := by
  rcases h with ⟨r, hr, rfl⟩ | ⟨h, -⟩
  · cases r with
    | zero =>
      have : cur = d.root := hr
      subst this
      exact ⟨[], rfl, .inr ⟨G.up_root, rfl⟩, G.rootIn⟩
    | succ r => exact ⟨_, rfl, .inl ⟨r, G.up_dep hr, rfl⟩, G.dep_in hr⟩
  · exact absurd h hc

theorem Left.done {d : PDoc} (G : Good d) {rest : List Int} (h : Left d 0 rest) : rest = [] := by
  rcases h with ⟨r, hr, rfl⟩ | ⟨-, h⟩
  · have := (G.toFlat.ids_pos (G.dep_in hr)).1
    omega
  · exact h

theorem Left.pos {d : PDoc} (G : Good d) {cur : Int} {rest : List Int} (h : Left d cur rest) : 0 ≤ cur := by
  rcases h with ⟨r, hr, rfl⟩ | ⟨h, -⟩
  · have := (G.toFlat.ids_pos (G.dep_in hr)).1; omega
  · omega

noncomputable def pathAns (d : PDoc) (id : Int) : List Int := by
  classical exact if h : askOf d id = 0 then (ups d.nodes (Classical.choose ((askOf_zero h).1.dep (askOf_zero h).2)) id).reverse else []

theorem pathAns_no {d : PDoc} {id : Int} (h : askOf d id ≠ 0) : pathAns d id = [] := by unfold pathAns; rw [dif_neg h]
theorem pathAns_ok {d : PDoc} {id : Int} (h : askOf d id = 0) : ∃ q, Dep d.nodes d.root q id ∧ pathAns d id = (ups d.nodes q id).reverse :=
  ⟨_, Classical.choose_spec ((askOf_zero h).1.dep (askOf_zero h).2), by unfold pathAns; rw [dif_pos h]⟩

theorem pathAns_len (d : PDoc) (id : Int) : (pathAns d id).length ≤ 1048576 := by
  by_cases h : askOf d id = 0
  · obtain ⟨q, hq, e⟩ := pathAns_ok h
    have := (askOf_zero h).1.dep_le hq
    rw [e, List.length_reverse, ups_len]
    omega
  · rw [pathAns_no h]; simp

def lenOf : Value → Nat
  | .slice _ n _ => n
  | _ => 0
theorem lenOf_slice (a : Option Addr) (n c : Nat) : lenOf (.slice a n c) = n := rfl

theorem row_some {w : World} {B : Nat} {e : TypeId} {v : Value} {n : Nat} {xs : List Value} (h : w.ownsRow B e 1 v n xs) (hn : 0 < n) : ∃ g c, v = .slice (some ⟨g, 0, none⟩) n c := by
  obtain ⟨_, ⟨rfl, rfl⟩ | ⟨g, cap, cur, rfl, _⟩⟩ := h
  · omega
  · exact ⟨g, cap, rfl⟩

set_option maxHeartbeats 4000000 in
set_option maxRecDepth 100000 in
theorem specPath_any (n₀ : Nat) (d : PDoc) (G : Good d) (s : Value) (id : Int) (q : Nat) (hq : Dep d.nodes d.root q id) (w : World) (hN : NodesAt n₀ w s d.nodes) (hn : n₀ ≤ w.heap.size) (hl : d.nodes.length ≤ 1048576) (hkl : ∀ x ∈ d.nodes, x.kids.length ≤ 1048576) :
    Calls Try.prog 37 #[.agg #[.int .i64 d.root, .int .i64 d.next, s], .int .i64 id] w (IdsPost w (ups d.nodes q id).reverse) := by
  obtain ⟨i0, hinf, hz0, hz1, hz2⟩ := info_parts specInfoInt'
  have HG := hide G
  have HN := hide hN
  have HKL := hide hkl
  have hq40 := G.dep_le hq
  obtain ⟨ch, hch⟩ : ∃ ch, ch = ups d.nodes q id := ⟨_, rfl⟩
  have hchl : ch.length = q + 1 := by rw [hch, ups_len]
  have HLf : Hid (Left d id ch) := .inl ⟨q, hq, hch⟩
  rw [← hch]
  obtain ⟨a, cap, rfl, -⟩ := hN
  clear hq hch G hkl
  have hW1 := (Below.refl w.heap.size w).alloc (Nat.le_refl _) (.cells #[.int .i64 d.root, .int .i64 d.next, .slice a d.nodes.length cap] 33)
  have HR0 : Hid (((w.alloc (.cells #[.int .i64 d.root, .int .i64 d.next, .slice a d.nodes.length cap] 33)).alloc (.cells #[] 3)).ownsRow (w.heap.size + 1) 3 1 (.slice (some ⟨w.heap.size + 1, 0, none⟩) 0 0) 0 []) := by
    have := row_none (w.alloc (.cells #[.int .i64 d.root, .int .i64 d.next, .slice a d.nodes.length cap] 33)) (w.heap.size + 1) (by simp)
    unfold Hid
    simpa using this
  go_enter Try.func37, Try.ntmps37
  go_wp2_with fail
  go_loopw [5, 6] (fun ov cv wr => ∃ (pre rest : List Int) (cur : Int) (g c : Nat), cv = .int .i64 cur ∧ ov = .slice (some ⟨g, 0, none⟩) pre.length c ∧ Hid (pre ++ rest = ch ∧ Left d cur rest) ∧ pre.length ≤ q + 1 ∧ 0 ≤ cur ∧ Hid (wr.ownsRow (w.heap.size + 1) 3 1 (.slice (some ⟨g, 0, none⟩) pre.length c) pre.length (pre.reverse.map (Value.int .i64))) ∧ Below (w.heap.size + 1) (w.alloc (.cells #[.int .i64 d.root, .int .i64 d.next, .slice a d.nodes.length cap] 33)) wr) (fun ov _ _ => q + 2 - lenOf ov)
  case atStart => exact ⟨[], ch, id, w.heap.size + 1, 0, rfl, rfl, ⟨rfl, HLf.out⟩, by simp, HLf.out.pos HG.out, HR0, (Below.refl _ _).alloc (by simp) _⟩
  case round =>
    obtain ⟨pre, rest, cur, g, c, rfl, rfl, hinv, hpl, hcur, hrow, hbr⟩ := hrel
    have hsz := hbr.size
    simp only [World.size_alloc] at hsz
    obtain ⟨x0, x1, x2⟩ := box_doc' hbr
    have hz : w.heap.size < wr.heap.size := by omega
    by_cases hc0 : 0 < cur
    · obtain ⟨rest', hr1, hr2, hr3⟩ := hinv.out.2.next HG.out (by omega)
      have HInv : Hid ((pre ++ [cur]) ++ rest' = ch ∧ Left d (parentOf d.nodes cur) rest') := ⟨by rw [List.append_assoc, List.singleton_append, ← hr1]; exact hinv.out.1, hr2⟩
      have hpl2 : pre.length + 1 ≤ q + 1 := by
        have := congrArg List.length HInv.out.1
        rw [hchl] at this
        simp at this; omega
      have hcells := (ownsRow_below hrow.out ((Below.refl _ _).alloc (Nat.le_refl _) (.cells #[.int .i64 cur] 3))).cells (g := g) rfl
      have hpos := hr2.pos HG.out
      have HPar : Hid (∀ wx, Below (w.heap.size + 1) (w.alloc (.cells #[.int .i64 d.root, .int .i64 d.next, .slice a d.nodes.length cap] 33)) wx → Calls Try.prog 54 #[.agg #[.int .i64 d.root, .int .i64 d.next, .slice a d.nodes.length cap], .int .i64 cur] wx fun e w' => e = .returned (.int .i64 (parentOf d.nodes cur)) ∧ Below wx.heap.size wx w') := fun wx hb =>
        specParent_any n₀ d.root d.next _ d.nodes cur wx (HN.out.below (Nat.le_refl _) ((hW1.mono hn).trans (hb.mono (by omega)))) (by have := hb.size; simp at this; omega) hl HKL.out
      clear hr1 hr2 hr3
      generalize parentOf d.nodes cur = nxt at *
      have HCells := hide hcells
      clear hcells
      go_wp2_with (at_builtin; refine wpList_append_own _ rfl _ _ 26 rfl (w.heap.size + 1) 3 i0 (.int .i64 0) 1 8 Try.underlying26 hinf hz0 hz1 hz2 rfl (by decide) _ _ _ rfl (row_one wr (w.heap.size + 1) (by omega) cur) ⟨g, 0, none⟩ pre.length c (pre.reverse.map (Value.int .i64)) rfl (by simp) HCells.out (ints_one _) (by unfold maxLen; omega) (by omega) (by simp; omega) ?_)
      intro v' w1 hown' hgrow _
      have hb3 := (hbr.alloc (by omega) (.cells #[.int .i64 cur] 3)).grown hgrow (by simp; omega) (fun g' hg' => by simp [Value.ownBlock] at hg'; omega)
      have HRow3 : Hid (w1.ownsRow (w.heap.size + 1) 3 1 v' (pre ++ [cur]).length ((pre ++ [cur]).reverse.map (Value.int .i64))) := by
        have e1 : (pre ++ [cur]).length = 1 + pre.length := by simp; omega
        rw [Hid, e1]
        simpa using hown'
      obtain ⟨g3, c3, rfl⟩ := row_some HRow3.out (by simp)
      clear hown' hgrow hrow HCells
      obtain ⟨y0, y1, y2⟩ := box_doc' hb3
      have hs3 := hb3.size
      simp only [World.size_alloc] at hs3
      have hz3 : w.heap.size < w1.heap.size := by omega
      go_wp2_with (go_at_call 54; refine (HPar.out _ hb3).mono ?_; rintro e w2 ⟨rfl, hb4⟩)
      have HRow4 := hide (ownsRow_below HRow3.out hb4)
      exact ⟨⟨pre ++ [cur], rest', nxt, g3, c3, rfl, by simp, HInv, by simp; omega, hpos, HRow4, hb3.trans (hb4.mono (by omega))⟩, by simp [lenOf]; omega⟩
    · obtain rfl : cur = 0 := by omega
      have hd := hinv.out.2.done HG.out
      have HE : Hid (pre = ch) := by have := hinv.out.1; rw [hd, List.append_nil] at this; exact this
      have HRw : Hid (wr.ownsRow (w.heap.size + 1) 3 1 (.slice (some ⟨g, 0, none⟩) pre.length c) ch.reverse.length (ch.reverse.map (Value.int .i64))) := by
        have := hrow.out
        rw [Hid, List.length_reverse, ← HE.out]; exact this
      clear hd hinv hrow
      go_wp2_with fail
      go_ret
      exact ⟨_, rfl, ownsRow_base HRw.out (by omega : w.heap.size ≤ w.heap.size + 1), hW1.trans (hbr.mono (by omega))⟩

set_option maxHeartbeats 1000000 in
set_option maxRecDepth 100000 in
theorem specPathOf_any (n₀ : Nat) (d : PDoc) (s : Value) (id : Int) (w : World) (hN : NodesAt n₀ w s d.nodes) (hn : n₀ ≤ w.heap.size) (hl : d.nodes.length ≤ 1048576) (hkl : ∀ x ∈ d.nodes, x.kids.length ≤ 1048576) (c : Int) (ks : List Int) (hc : c = askOf d id) (hks : ks = pathAns d id) :
    Calls Try.prog 16 #[.agg #[.int .i64 d.root, .int .i64 d.next, s], .int .i64 id] w (ListPost w ks c) := by
  have hW := (Below.refl w.heap.size w).alloc (Nat.le_refl _) (.cells #[.int .i64 d.root, .int .i64 d.next, s] 33)
  have HA := hide (specAsk_any n₀ d s id _ (hN.below (Nat.le_refl _) (hW.mono hn)) (by simp; omega) hl hkl c hc)
  have HO : Hid (c = 0 → ∀ wx, Below w.heap.size w wx → Calls Try.prog 37 #[.agg #[.int .i64 d.root, .int .i64 d.next, s], .int .i64 id] wx (IdsPost wx ks)) := fun h0 wx hb => by
    have ha : askOf d id = 0 := hc.symm.trans h0
    obtain ⟨q, hq, e⟩ := pathAns_ok ha
    rw [hks, e]
    exact specPath_any n₀ d (askOf_zero ha).1 s id q hq wx (hN.below (Nat.le_refl _) (hb.mono hn)) (by have := hb.size; omega) hl hkl
  have HNo : Hid (c ≠ 0 → ks = []) := fun h => by rw [hks]; exact pathAns_no (by rw [← hc]; exact h)
  obtain ⟨a, cap, rfl, -⟩ := hN
  clear hc hks hkl
  by_cases h0 : c = 0
  · have HO2 := hide (HO.out h0)
    have h00 : (c != 0) = false := by simp [h0]
    have HZ := hide h0
    clear h0 HO HNo
    go_enter Try.func16, Try.ntmps16
    go_wp2_with fail
    refine HA.out.mono ?_
    rintro e w1 ⟨rfl, hb1⟩
    simp only [World.size_alloc] at hb1
    have hs1 := hb1.size
    simp only [World.size_alloc] at hs1
    obtain ⟨x0, x1, x2⟩ := box_doc' hb1
    have hb1' := hW.trans (hb1.mono (by omega))
    have hlt : w.heap.size < w1.heap.size := by omega
    go_wp2_with fail
    refine (HO2.out _ hb1').mono ?_
    rintro e w2 ⟨vv, rfl, hrow, hb2⟩
    have HRow := hide hrow
    clear hrow
    go_wp2_with fail
    go_ret2
    exact ⟨_, ret_vc HZ.out.symm, ownsRow_base HRow.out (by omega), hb1'.trans (hb2.mono (by omega))⟩
  · have h00 : (c != 0) = true := by simp [h0]
    have HKs := hide (HNo.out h0)
    clear h0 HO HNo
    go_enter Try.func16, Try.ntmps16
    go_wp2_with fail
    refine HA.out.mono ?_
    rintro e w1 ⟨rfl, hb1⟩
    simp only [World.size_alloc] at hb1
    have hs1 := hb1.size
    simp only [World.size_alloc] at hs1
    have hb1' := hW.trans (hb1.mono (by omega))
    have HR := hide (row_none w1 w.heap.size (by omega))
    go_wp2_with fail
    go_ret2
    exact ⟨_, rfl, by rw [HKs.out]; exact HR.out, hb1'.alloc (by omega) _⟩
end Go.Proofs.Ytkfklaapoaocdab
