/-
  The Ids of a node and of all below it: the program's answer.
-/
import Derived.Test.YtkfklaapoaocdabImplCollect
import Derived.Test.YtkfklaapoaocdabImplAt
namespace Go.Proofs.Ytkfklaapoaocdab
open Go.RowKit Go.Shelf

/-- The Ids in order; none where nothing is asked. -/
noncomputable def orderAns (d : PDoc) (id : Int) : List Int := by
  classical exact if askOf d id = 0 then order d.nodes d.nodes.length id else []

theorem orderAns_no {d : PDoc} {id : Int} (h : askOf d id ≠ 0) : orderAns d id = [] := by unfold orderAns; rw [if_neg h]
theorem orderAns_ok {d : PDoc} {id : Int} (h : askOf d id = 0) : orderAns d id = order d.nodes d.nodes.length id := by unfold orderAns; rw [if_pos h]

theorem Good.dep {d : PDoc} (G : Good d) {id : Int} (h : id ∈ idsOf d.nodes) : ∃ q, Dep d.nodes d.root q id := (G.toFlat.whole_iff.1 G.whole).2 id h
theorem Good.lowAt {d : PDoc} (G : Good d) {id : Int} (h : id ∈ idsOf d.nodes) : Low d.nodes d.nodes.length id := by
  obtain ⟨q, hq⟩ := G.dep h
  exact G.toFlat.low_dep hq
theorem Good.orderIn {d : PDoc} (G : Good d) {id : Int} (h : id ∈ idsOf d.nodes) : ∀ k ∈ order d.nodes d.nodes.length id, k ∈ idsOf d.nodes := by
  obtain ⟨q, hq⟩ := G.dep h
  exact order_in G.there G.rootIn hq
theorem Good.orderLen {d : PDoc} (G : Good d) {id : Int} (h : id ∈ idsOf d.nodes) : (order d.nodes d.nodes.length id).length ≤ 40 := by
  obtain ⟨q, hq⟩ := G.dep h
  have := nodup_sub_len (order_nodup G.rise G.once G.rootNo (h := d.nodes.length) hq) (G.orderIn h)
  rw [idsOf_len] at this
  have := G.n40
  omega

theorem ptrs_of_row {w : World} {base : Nat} {e : TypeId} {v : Value} {ks : List Int} {ad : Int → Nat} (h : w.ownsRow base e 1 v ks.length (ks.map fun j => Value.pointer (some ⟨ad j, 0, none⟩))) : PtrsAt w.heap.size w v ks ad := by
  have h' := h
  obtain ⟨_, ⟨rfl, h0⟩ | ⟨g, cap, cur, rfl, hg, hh, h1, h2, h3, h4⟩⟩ := h
  · have : ks = [] := List.eq_nil_of_length_eq_zero h0
    subst this
    exact ⟨none, 0, rfl, .inl rfl⟩
  · refine ⟨_, cap, rfl, .inr ⟨g, rfl, (Array.getElem?_eq_some_iff.1 hh).1, fun j hj => ?_⟩⟩
    have := h'.cells (g := g) rfl j (.pointer (some ⟨ad (ks[j]?.getD 0), 0, none⟩)) (by simp [hj])
    unfold Addr.add at this; split at this <;> simp_all

theorem ret_vc {v : Value} {a b : Int} (h : a = b) : Ending.returned (.tuple #[v, .int .i64 a]) = Ending.returned (.tuple #[v, .int .i64 b]) := by rw [h]

/-- A list of numbers of its own, and a code. -/
def ListPost (w : World) (ks : List Int) (c : Int) (e : Ending) (w' : World) : Prop :=
  ∃ v, e = .returned (.tuple #[v, .int .i64 c]) ∧ w'.ownsRow w.heap.size 3 1 v ks.length (ks.map (Value.int .i64)) ∧ Below w.heap.size w w'

set_option maxHeartbeats 400000 in
theorem inOrder_plain (p : Option Addr) (w : World) :
    Calls Try.prog 42 #[.pointer p] w fun e w' => e = .returned (.func (.func 57) #[] #[.pointer (some ⟨w.heap.size, 0, none⟩)]) ∧ w' = w.alloc (.cells #[.pointer p] 54) :=
  (callsIn_wide (n := 3)).1 (inOrder_in 3 p w)

def RowPost (w : World) (ks : List Int) (ad : Int → Nat) (e : Ending) (w' : World) : Prop :=
  ∃ v, e = .returned v ∧ w'.ownsRow w.heap.size 54 1 v ks.length (ks.map fun j => Value.pointer (some ⟨ad j, 0, none⟩)) ∧ Below w.heap.size w w'

set_option maxHeartbeats 400000 in
theorem collect_any (s : Value) (ks : List Int) (ad : Int → Nat) (w : World) (H : Calls Try.prog 56 #[.slice none 0 0, s] w (RowPost w ks ad)) :
    Calls Try.prog 41 #[s] w (RowPost w ks ad) := by
  have HH := hide H
  clear H
  go_enter Try.func41, Try.ntmps41
  go_wp2_with fail
  refine HH.out.mono ?_
  rintro e w1 ⟨v, rfl, hrow, hb⟩
  have HRow := hide hrow
  obtain ⟨ar, cr, rfl⟩ := row_shape hrow
  clear hrow
  go_wp2_with fail
  go_ret
  exact ⟨_, rfl, HRow.out, hb⟩

set_option maxHeartbeats 1000000 in
set_option maxRecDepth 100000 in
theorem implInOrder_any (n₀ : Nat) (d : PDoc) (s : Value) (id : Int) (w : World) (hN : NodesAt n₀ w s d.nodes) (hn : n₀ ≤ w.heap.size) (hl : d.nodes.length ≤ 1048576) (hwf : WfDoc d) (c : Int) (ks : List Int) (hc : c = askOf d id) (hks : ks = orderAns d id) :
    Calls Try.prog 22 #[.agg #[.int .i64 d.root, .int .i64 d.next, s], .int .i64 id] w (ListPost w ks c) := by
  have hW := (Below.refl w.heap.size w).alloc (Nat.le_refl _) (.cells #[.int .i64 d.root, .int .i64 d.next, s] 33)
  have HA : Hid (Calls Try.prog 33 #[.agg #[.int .i64 d.root, .int .i64 d.next, s], .int .i64 id] (w.alloc (.cells #[.int .i64 d.root, .int .i64 d.next, s] 33)) (AtPost (w.alloc (.cells #[.int .i64 d.root, .int .i64 d.next, s] 33)) d id)) :=
    branchAt_any n₀ d s id _ (hN.below (Nat.le_refl _) (hW.mono hn)) (by simp; omega) hl hwf
  have HC := hide hc
  have HK := hide hks
  obtain ⟨a, cap, rfl, -⟩ := hN
  clear hc hks hwf
  go_enter Try.func22, Try.ntmps22
  go_wp2_with fail
  refine HA.out.mono ?_
  rintro e w1 (⟨rfl, hno, hb1⟩ | ⟨rfl, ⟨hg, hin⟩, hb1⟩ | ⟨tb, ad, up, kv, rfl, ⟨hg, hin⟩, hgr, hb1⟩)
  · simp only [World.size_alloc] at hb1
    have h1 : Hid (c = 1) := HC.out.trans (askOf_bad hno)
    have h2 : Hid (ks = []) := HK.out.trans (orderAns_no (by rw [← HC.out, h1.out]; decide))
    clear hno
    go_wp2_with fail
    go_ret2
    exact ⟨.slice none 0 0, ret_vc h1.out.symm, by rw [h2.out]; exact World.ownsRow_nil _ _ _ _, hW.trans (hb1.mono (by omega))⟩
  · simp only [World.size_alloc] at hb1
    have h1 : Hid (c = 5) := HC.out.trans (askOf_none hg hin)
    have h2 : Hid (ks = []) := HK.out.trans (orderAns_no (by rw [← HC.out, h1.out]; decide))
    clear hg hin
    go_wp2_with fail
    go_ret2
    exact ⟨.slice none 0 0, ret_vc h1.out.symm, by rw [h2.out]; exact World.ownsRow_nil _ _ _ _, hW.trans (hb1.mono (by omega))⟩
  · simp only [World.size_alloc] at hb1
    have hs1 := hb1.size
    simp only [World.size_alloc] at hs1
    have h1 : Hid (c = 0) := HC.out.trans (askOf_ok hg hin)
    have h2 : Hid (ks = order d.nodes d.nodes.length id) := HK.out.trans (orderAns_ok (by rw [← HC.out, h1.out]))
    have HT := hide (hgr.tree hg)
    have HG := hide hg
    have HIn := hide hin
    clear hg hin hgr
    go_wp2_with fail
    refine (inOrder_plain _ _).mono ?_
    rintro e w2 ⟨rfl, rfl⟩
    have hW2 := (Below.refl w1.heap.size w1).alloc (Nat.le_refl _) (.cells #[.pointer (some ⟨ad id, 0, none⟩)] 54)
    have HCol := hide (collect_any (.func (.func 57) #[] #[.pointer (some ⟨w1.heap.size, 0, none⟩)]) ks ad (w1.alloc (.cells #[.pointer (some ⟨ad id, 0, none⟩)] 54)) (by
      rw [h2.out]
      exact appendSeq_any d.nodes ad up HG.out.toFlat.walkable w1.heap.size d.nodes.length w1.heap.size id HIn.out (HG.out.lowAt HIn.out) (by have := HG.out.orderLen HIn.out; omega) _ (by simp) (by simp) (new_cell _ _ _).1 (HT.out.below (Nat.le_refl _) hW2)))
    go_wp2_with fail
    refine HCol.out.mono ?_
    rintro e w3 ⟨v3, rfl, hrow3, hb3⟩
    have hs3 := hb3.size
    simp only [World.size_alloc] at hs3
    have hb13 := hW2.trans (hb3.mono (by simp))
    have HIds := hide (idsOf_any d.nodes ad up w3.heap.size ks (by rw [h2.out]; exact HG.out.orderIn HIn.out) v3 w3 (HT.out.below (by omega) hb13) (ptrs_of_row hrow3) (Nat.le_refl _) (by rw [h2.out]; have := HG.out.orderLen HIn.out; omega))
    obtain ⟨ar, cr, rfl⟩ := row_shape hrow3
    clear hrow3
    go_wp2_with fail
    refine HIds.out.mono ?_
    rintro e w4 ⟨v4, rfl, hrow4, hb4⟩
    have HRow := hide hrow4
    obtain ⟨ar4, cr4, rfl⟩ := row_shape hrow4
    clear hrow4
    go_wp2_with fail
    go_ret2
    refine ⟨_, ret_vc h1.out.symm, ?_, hW.trans (((hb1.trans (hb13.mono (by omega))).trans (hb4.mono (by omega))).mono (by omega))⟩
    obtain ⟨p1, p2 | ⟨g, cp, cu, q1, q2, q3⟩⟩ := HRow.out
    · exact ⟨p1, .inl p2⟩
    · exact ⟨p1, .inr ⟨g, cp, cu, q1, by omega, q3⟩⟩
end Go.Proofs.Ytkfklaapoaocdab
