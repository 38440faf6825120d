/-
  What the calls on one node ask first: the document, then the node; the specification's question and the program's.
-/
import Derived.Test.YtpkblnponeonkaaDoorImplFind
namespace Go.Proofs.YtpkblnponeonkaaDoor
open Go.RowKit Go.Shelf

theorem box_doc' {w wc : World} {a0 a1 a2 : Value} {t : TypeId} (hb : Below (w.heap.size + 1) (w.alloc (.cells #[a0, a1, a2] t)) wc) :
    wc.cell? ⟨w.heap.size, 0, none⟩ = some a0 ∧ wc.cell? ⟨w.heap.size, 1, none⟩ = some a1 ∧ wc.cell? ⟨w.heap.size, 2, none⟩ = some a2 := by
  obtain ⟨hcx, -⟩ := bcell (W := w.alloc (.cells #[a0, a1, a2] t)) (by simpa using hb)
  refine ⟨?_, ?_, ?_⟩
  · rw [hcx _ _ (by simp)]; exact cell_of_heap (alloc_new _ _) 0
  · rw [hcx _ _ (by simp)]; exact cell_of_heap (alloc_new _ _) 1
  · rw [hcx _ _ (by simp)]; exact cell_of_heap (alloc_new _ _) 2

theorem Good.order_iff {d : PDoc} (G : Good d) (id : Int) : id ∈ order d.nodes d.nodes.length d.root ↔ id ∈ idsOf d.nodes := by
  have F := G.toFlat
  have hd0 : Dep d.nodes d.root 0 d.root := rfl
  refine ⟨fun h => order_in F.there F.rootIn hd0 id h, fun h => ?_⟩
  obtain ⟨q, hq⟩ := (F.whole_iff.1 G.whole).2 id h
  have hq' := dep_iff.1 hq
  exact mem_order.2 ⟨q, low_desc F.low hq', hq'⟩

/-- The code of what is asked first. -/
noncomputable def askOf (d : PDoc) (id : Int) : Int := by
  classical exact if Good d then if id ∈ idsOf d.nodes then 0 else 5 else 1

theorem askOf_bad {d : PDoc} {id : Int} (h : ¬ Good d) : askOf d id = 1 := by unfold askOf; rw [if_neg h]
theorem askOf_none {d : PDoc} {id : Int} (h : Good d) (hi : id ∉ idsOf d.nodes) : askOf d id = 5 := by unfold askOf; rw [if_pos h, if_neg hi]
theorem askOf_ok {d : PDoc} {id : Int} (h : Good d) (hi : id ∈ idsOf d.nodes) : askOf d id = 0 := by unfold askOf; rw [if_pos h, if_pos hi]

/-- What the program's question answers. -/
def AtPost (w : World) (d : PDoc) (id : Int) (e : Ending) (w' : World) : Prop :=
  (e = .returned (.tuple #[.pointer none, .int .i64 1]) ∧ ¬ Good d ∧ Below w.heap.size w w') ∨
  (e = .returned (.tuple #[.pointer none, .int .i64 5]) ∧ (Good d ∧ id ∉ idsOf d.nodes) ∧ Below w.heap.size w w') ∨
  (∃ (tb : Nat) (ad : Int → Nat) (up : Int → Option Int) (kv : Int → Value), e = .returned (.tuple #[.pointer (some ⟨ad id, 0, none⟩), .int .i64 0]) ∧ (Good d ∧ id ∈ idsOf d.nodes) ∧ Grown w.heap.size w' d tb ad up kv ∧ Below w.heap.size w w')

theorem Grown.tree {n₀ : Nat} {W : World} {d : PDoc} {tb : Nat} {ad : Int → Nat} {up : Int → Option Int} {kv : Int → Value} (h : Grown n₀ W d tb ad up kv) (G : Good d) : TreeAt W.heap.size W d.nodes ad up := h.hung.tree G.rise

theorem Grown.below {n₀ : Nat} {W W' : World} {d : PDoc} {tb : Nat} {ad : Int → Nat} {up : Int → Option Int} {kv : Int → Value} (h : Grown n₀ W d tb ad up kv) (hb : Below W.heap.size W W') : Grown n₀ W' d tb ad up kv :=
  ⟨h.hung.below hb, h.upNone, h.upKid, (hb.block _ (Array.getElem?_eq_some_iff.1 h.top).1).trans h.top⟩

set_option maxHeartbeats 1000000 in
set_option maxRecDepth 100000 in
theorem branchAt_any (n₀ : Nat) (d : PDoc) (s : Value) (id : Int) (w : World) (hN : NodesAt n₀ w s d.nodes) (hn : n₀ ≤ w.heap.size) (hl : d.nodes.length ≤ 1048576) (hwf : WfDoc d) :
    Calls Tryd.prog 85 #[.agg #[.int .i64 d.root, .int .i64 d.next, s], .int .i64 id] w (AtPost w d id) := by
  have hW := (Below.refl w.heap.size w).alloc (Nat.le_refl _) (.cells #[.int .i64 d.root, .int .i64 d.next, s] 48)
  have HT : Hid (Calls Tryd.prog 110 #[.agg #[.int .i64 d.root, .int .i64 d.next, s]] (w.alloc (.cells #[.int .i64 d.root, .int .i64 d.next, s] 48)) (TreePost (w.alloc (.cells #[.int .i64 d.root, .int .i64 d.next, s] 48)) d)) :=
    treeOf_any n₀ d s _ (hN.below (Nat.le_refl _) (hW.mono hn)) (by simp; omega) hl hwf
  clear hwf
  obtain ⟨a, cap, rfl, -⟩ := hN
  go_enter Tryd.func85, Tryd.ntmps85
  go_wp2_with fail
  refine HT.out.mono ?_
  rintro e w1 (⟨tb, ad, up, kv, rfl, hg, hgr, htb, hb1⟩ | ⟨rfl, hno, hb1⟩)
  · simp only [World.size_alloc] at hb1
    have hs1 := hb1.size
    simp only [World.size_alloc] at hs1
    have htop : w1.cell? ⟨tb, 0, none⟩ = some (.pointer (some ⟨ad d.root, 0, none⟩)) := by simpa using cell_of_heap hgr.top 0
    have HGr := hide hgr
    have HG := hide hg
    have F := hg.toFlat
    obtain ⟨r, hr⟩ : ∃ r : Option Addr, r = if id ∈ order d.nodes d.nodes.length d.root then some ⟨ad id, 0, none⟩ else none := ⟨_, rfl⟩
    have HF : Hid (Calls Tryd.prog 111 #[.pointer (some ⟨ad d.root, 0, none⟩), .int .i64 id] w1 fun e W' => e = .returned (.pointer r) ∧ Below w1.heap.size w1 W') :=
      find_any d.nodes ad up F.walkable w1.heap.size d.nodes.length d.root F.rootIn F.low id w1 (Nat.le_refl _) (hgr.tree hg) r hr
    by_cases hin : id ∈ idsOf d.nodes
    · rw [if_pos ((hg.order_iff id).2 hin)] at hr
      subst hr
      have HIn := hide hin
      clear hgr hg F hin
      go_wp2_with (go_at_call 111; refine HF.out.mono ?_; rintro e w2 ⟨rfl, hb2⟩)
      go_ret2
      exact .inr (.inr ⟨tb, ad, up, kv, rfl, ⟨HG.out, HIn.out⟩, by
        have := HGr.out.below hb2
        simp only [World.size_alloc] at this
        exact ⟨this.hung.mono (by omega), this.upNone, this.upKid, this.top⟩, hW.trans ((hb1.trans (hb2.mono hs1)).mono (by omega))⟩)
    · rw [if_neg (fun h => hin ((hg.order_iff id).1 h))] at hr
      subst hr
      have HIn := hide hin
      clear hgr hg F hin
      go_wp2_with (go_at_call 111; refine HF.out.mono ?_; rintro e w2 ⟨rfl, hb2⟩)
      go_ret2
      exact .inr (.inl ⟨rfl, ⟨HG.out, HIn.out⟩, hW.trans ((hb1.trans (hb2.mono hs1)).mono (by omega))⟩)
  · simp only [World.size_alloc] at hb1
    have HNo := hide hno
    clear hno
    go_wp2_with fail
    go_ret2
    exact .inl ⟨rfl, HNo.out, hW.trans (hb1.mono (by omega))⟩

set_option maxHeartbeats 1000000 in
set_option maxRecDepth 100000 in
theorem specAsk_any (n₀ : Nat) (d : PDoc) (s : Value) (id : Int) (w : World) (hN : NodesAt n₀ w s d.nodes) (hn : n₀ ≤ w.heap.size) (hl : d.nodes.length ≤ 1048576) (hkl : ∀ x ∈ d.nodes, x.kids.length ≤ 1048576) (c : Int) (hc : c = askOf d id) :
    Calls Tryd.prog 46 #[.agg #[.int .i64 d.root, .int .i64 d.next, s], .int .i64 id] w fun e w' => e = .returned (.int .i64 c) ∧ Below w.heap.size w w' := by
  have hW := (Below.refl w.heap.size w).alloc (Nat.le_refl _) (.cells #[.int .i64 d.root, .int .i64 d.next, s] 48)
  obtain ⟨r, hr⟩ : ∃ r : Bool, r = true ↔ Good d := by classical exact ⟨decide (Good d), by simp⟩
  have HO : Hid (Calls Tryd.prog 79 #[.agg #[.int .i64 d.root, .int .i64 d.next, s]] (w.alloc (.cells #[.int .i64 d.root, .int .i64 d.next, s] 48)) fun e w' => e = .returned (.bool r) ∧ Below (w.heap.size + 1) (w.alloc (.cells #[.int .i64 d.root, .int .i64 d.next, s] 48)) w') := by
    have := specOK_any n₀ d s (w.alloc (.cells #[.int .i64 d.root, .int .i64 d.next, s] 48)) (hN.below (Nat.le_refl _) (hW.mono hn)) (by simp; omega) hl hkl r hr
    unfold Hid; simpa using this
  have HAt : Hid (∀ w1, Below w.heap.size w w1 → Calls Tryd.prog 47 #[.agg #[.int .i64 d.root, .int .i64 d.next, s], .int .i64 id] w1 fun e w' => e = .returned (.int .i64 (placeOf d.nodes id)) ∧ Below w1.heap.size w1 w') := fun w1 hb =>
    specAt_any n₀ d.root d.next s d.nodes id w1 (hN.below (Nat.le_refl _) (hb.mono hn)) (by have := hb.size; omega) hl
  have HC := hide hc
  have HR := hide hr
  have HP := hide (@placeOf_no d.nodes id)
  have hge := placeOf_ge d.nodes id
  obtain ⟨a, cap, rfl, -⟩ := hN
  clear hkl hr hc
  generalize placeOf d.nodes id = pl at *
  cases r with
  | false =>
    have he : Hid (c = 1) := HC.out.trans (askOf_bad (fun G => by have := HR.out.2 G; cases this))
    go_enter Tryd.func46, Tryd.ntmps46
    go_wp2_with (go_at_call 79; refine HO.out.mono ?_; rintro e w1 ⟨rfl, hb1⟩)
    go_ret
    exact ⟨ret_int he.out.symm, hW.trans (hb1.mono (by omega))⟩
  | true =>
    by_cases hpl : pl < 0
    · have he : Hid (c = 5) := HC.out.trans (askOf_none (HR.out.1 (by trivial)) (HP.out.1 (by omega)))
      go_enter Tryd.func46, Tryd.ntmps46
      go_wp2_with fail
      refine HO.out.mono ?_
      rintro e w1 ⟨rfl, hb1⟩
      have hb1' := hW.trans (hb1.mono (by omega))
      obtain ⟨x0, x1, x2⟩ := box_doc' hb1
      have hs1 := hb1'.size
      go_wp2_with (go_at_call 47; refine (HAt.out _ hb1').mono ?_; rintro e w2 ⟨rfl, hb2⟩)
      go_ret
      exact ⟨ret_int he.out.symm, hb1'.trans (hb2.mono hs1)⟩
    · have he : Hid (c = 0) := HC.out.trans (askOf_ok (HR.out.1 (by trivial)) (Decidable.byContradiction fun hn => hpl (by rw [HP.out.2 hn]; omega)))
      go_enter Tryd.func46, Tryd.ntmps46
      go_wp2_with fail
      refine HO.out.mono ?_
      rintro e w1 ⟨rfl, hb1⟩
      have hb1' := hW.trans (hb1.mono (by omega))
      obtain ⟨x0, x1, x2⟩ := box_doc' hb1
      have hs1 := hb1'.size
      go_wp2_with (go_at_call 47; refine (HAt.out _ hb1').mono ?_; rintro e w2 ⟨rfl, hb2⟩)
      go_ret
      exact ⟨ret_int he.out.symm, hb1'.trans (hb2.mono hs1)⟩
end Go.Proofs.YtpkblnponeonkaaDoor
