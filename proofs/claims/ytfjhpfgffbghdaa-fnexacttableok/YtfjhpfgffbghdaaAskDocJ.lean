/-
  What the calls on one node ask first: the document, then the node; the codes, plainly.
-/
import Derived.Test.YtfjhpfgffbghdaaImplFindJ
namespace Go.Proofs.Ytfjhpfgffbghdaa
open Go.RowKit Go.Shelf

theorem box_doc' {w wc : World} {a0 a1 a2 : Value} {t : TypeId} (hb : Below (w.heap.size + 1) (w.alloc (.cells #[a0, a1, a2] t)) wc) :
    wc.cell? ⟨w.heap.size, 0, none⟩ = some a0 ∧ wc.cell? ⟨w.heap.size, 1, none⟩ = some a1 ∧ wc.cell? ⟨w.heap.size, 2, none⟩ = some a2 := by
  obtain ⟨hcx, -⟩ := bcell (W := w.alloc (.cells #[a0, a1, a2] t)) (by simpa using hb)
  refine ⟨?_, ?_, ?_⟩
  · rw [hcx _ _ (by simp)]; exact cell_of_heap (alloc_new _ _) 0
  · rw [hcx _ _ (by simp)]; exact cell_of_heap (alloc_new _ _) 1
  · rw [hcx _ _ (by simp)]; exact cell_of_heap (alloc_new _ _) 2

theorem Good.order_iff {d : PDoc} (G : Good d) (id : Int) : id ∈ order d.nodes d.nodes.length d.root ↔ id ∈ idsOf d.nodes := by
  have F := G.toFlat
  have hd0 : Dep d.nodes d.root 0 d.root := rfl
  refine ⟨fun h => order_in F.there F.rootIn hd0 id h, fun h => ?_⟩
  obtain ⟨q, hq⟩ := (F.whole_iff.1 G.whole).2 id h
  have hq' := dep_iff.1 hq
  exact mem_order.2 ⟨q, low_desc F.low hq', hq'⟩

/-- The code of what is asked first. -/
noncomputable def askOf (d : PDoc) (id : Int) : Int := by
  classical exact if Good d then if id ∈ idsOf d.nodes then 0 else 5 else 1

theorem askOf_bad {d : PDoc} {id : Int} (h : ¬ Good d) : askOf d id = 1 := by unfold askOf; rw [if_neg h]
theorem askOf_none {d : PDoc} {id : Int} (h : Good d) (hi : id ∉ idsOf d.nodes) : askOf d id = 5 := by unfold askOf; rw [if_pos h, if_neg hi]
theorem askOf_ok {d : PDoc} {id : Int} (h : Good d) (hi : id ∈ idsOf d.nodes) : askOf d id = 0 := by unfold askOf; rw [if_pos h, if_pos hi]

theorem askOf_zero {d : PDoc} {id : Int} (h : askOf d id = 0) : Good d ∧ id ∈ idsOf d.nodes := by
  by_cases hg : Good d
  · by_cases hi : id ∈ idsOf d.nodes
    · exact ⟨hg, hi⟩
    · rw [askOf_none hg hi] at h; cases h
  · rw [askOf_bad hg] at h; cases h

theorem Grown.tree {n₀ : Nat} {W : World} {d : PDoc} {tb : Nat} {ad : Int → Nat} {up : Int → Option Int} {kv : Int → Value} (h : Grown n₀ W d tb ad up kv) (G : Good d) : TreeAt W.heap.size W d.nodes ad up := h.hung.tree G.rise

theorem Grown.below {n₀ : Nat} {W W' : World} {d : PDoc} {tb : Nat} {ad : Int → Nat} {up : Int → Option Int} {kv : Int → Value} (h : Grown n₀ W d tb ad up kv) (hb : Below W.heap.size W W') : Grown n₀ W' d tb ad up kv :=
  ⟨h.hung.below hb, h.upNone, h.upKid, (hb.block _ (Array.getElem?_eq_some_iff.1 h.top).1).trans h.top⟩
end Go.Proofs.Ytfjhpfgffbghdaa
