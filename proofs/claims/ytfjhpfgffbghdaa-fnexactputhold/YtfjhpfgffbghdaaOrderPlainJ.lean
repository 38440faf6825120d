/-
  The Ids of a node and of all below it, plain; what a right document says of them.
-/
import Derived.Test.YtfjhpfgffbghdaaRowFactsJ
import Derived.Test.YtfjhpfgffbghdaaPtrsJ
import Derived.Test.YtfjhpfgffbghdaaAskDocJ
namespace Go.Proofs.Ytfjhpfgffbghdaa
open Go.RowKit Go.Shelf

/-- The Ids in order; none where nothing is asked. -/
noncomputable def orderAns (d : PDoc) (id : Int) : List Int := by
  classical exact if askOf d id = 0 then order d.nodes d.nodes.length id else []

theorem orderAns_no {d : PDoc} {id : Int} (h : askOf d id ≠ 0) : orderAns d id = [] := by unfold orderAns; rw [if_neg h]
theorem orderAns_ok {d : PDoc} {id : Int} (h : askOf d id = 0) : orderAns d id = order d.nodes d.nodes.length id := by unfold orderAns; rw [if_pos h]

theorem Good.dep {d : PDoc} (G : Good d) {id : Int} (h : id ∈ idsOf d.nodes) : ∃ q, Dep d.nodes d.root q id := (G.toFlat.whole_iff.1 G.whole).2 id h
theorem Good.lowAt {d : PDoc} (G : Good d) {id : Int} (h : id ∈ idsOf d.nodes) : Low d.nodes d.nodes.length id := by
  obtain ⟨q, hq⟩ := G.dep h
  exact G.toFlat.low_dep hq
theorem Good.orderIn {d : PDoc} (G : Good d) {id : Int} (h : id ∈ idsOf d.nodes) : ∀ k ∈ order d.nodes d.nodes.length id, k ∈ idsOf d.nodes := by
  obtain ⟨q, hq⟩ := G.dep h
  exact order_in G.there G.rootIn hq
theorem Good.orderLen {d : PDoc} (G : Good d) {id : Int} (h : id ∈ idsOf d.nodes) : (order d.nodes d.nodes.length id).length ≤ 40 := by
  obtain ⟨q, hq⟩ := G.dep h
  have := nodup_sub_len (order_nodup G.rise G.once G.rootNo (h := d.nodes.length) hq) (G.orderIn h)
  rw [idsOf_len] at this
  have := G.n40
  omega

theorem ptrs_of_row {w : World} {base : Nat} {e : TypeId} {v : Value} {ks : List Int} {ad : Int → Nat} (h : w.ownsRow base e 1 v ks.length (ks.map fun j => Value.pointer (some ⟨ad j, 0, none⟩))) : PtrsAt w.heap.size w v ks ad := by
  have h' := h
  obtain ⟨_, ⟨rfl, h0⟩ | ⟨g, cap, cur, rfl, hg, hh, h1, h2, h3, h4⟩⟩ := h
  · have : ks = [] := List.eq_nil_of_length_eq_zero h0
    subst this
    exact ⟨none, 0, rfl, .inl rfl⟩
  · refine ⟨_, cap, rfl, .inr ⟨g, rfl, (Array.getElem?_eq_some_iff.1 hh).1, fun j hj => ?_⟩⟩
    have := h'.cells (g := g) rfl j (.pointer (some ⟨ad (ks[j]?.getD 0), 0, none⟩)) (by simp [hj])
    unfold Addr.add at this; split at this <;> simp_all

theorem orderAns_len (d : PDoc) (id : Int) : (orderAns d id).length ≤ 1048576 := by
  by_cases h : askOf d id = 0
  · rw [orderAns_ok h]
    obtain ⟨G, hi⟩ := askOf_zero h
    have := G.orderLen hi
    omega
  · rw [orderAns_no h]; simp

set_option maxHeartbeats 400000 in
theorem inOrder_plain (p : Option Addr) (w : World) :
    Calls Try.prog 97 #[.pointer p] w fun e w' => e = .returned (.func (.func 100) #[] #[.pointer (some ⟨w.heap.size, 0, none⟩)]) ∧ w' = w.alloc (.cells #[.pointer p] 70) :=
  (callsIn_wide (n := 3)).1 (inOrder_in 3 p w)

end Go.Proofs.Ytfjhpfgffbghdaa
