/-
  The kinds of a node's kids, plain.
-/
import Derived.Test.YtpkblnponeonkaaDoorOrderPlain
import Derived.Test.YtpkblnponeonkaaDoorSpecNodes
namespace Go.Proofs.YtpkblnponeonkaaDoor
open Go.RowKit Go.Shelf

/-- The kinds of some nodes. -/
def kindsFor (l : List PNode) (ks : List Int) : List Int := ks.map fun k => (nodeOf l k).kind

theorem kindsFor_len (l : List PNode) (ks : List Int) : (kindsFor l ks).length = ks.length := by simp [kindsFor]

/-- The kinds of a node's kids; none where nothing is asked. -/
noncomputable def kidsAns (d : PDoc) (id : Int) : List Int := by
  classical exact if askOf d id = 0 then kindsFor d.nodes (kidsAt d.nodes id) else []

theorem kidsAns_no {d : PDoc} {id : Int} (h : askOf d id ≠ 0) : kidsAns d id = [] := by unfold kidsAns; rw [if_neg h]
theorem kidsAns_ok {d : PDoc} {id : Int} (h : askOf d id = 0) : kidsAns d id = kindsFor d.nodes (kidsAt d.nodes id) := by unfold kidsAns; rw [if_pos h]

theorem Good.kidsLen {d : PDoc} (G : Good d) (id : Int) : (kidsAt d.nodes id).length ≤ 12 := by
  unfold kidsAt
  split
  · rename_i x hx
    exact (G.fine x (List.mem_of_find?_eq_some hx)).2.2.2.2.2.2.2
  · simp

theorem kidsAns_len (d : PDoc) (id : Int) : (kidsAns d id).length ≤ 1048576 := by
  by_cases h : askOf d id = 0
  · rw [kidsAns_ok h, kindsFor_len]
    have := (askOf_zero h).1.kidsLen id
    omega
  · rw [kidsAns_no h]; simp

theorem BranchAt.ptrs {n₁ : Nat} {W : World} {ad : Int → Nat} {up : Int → Option Int} {x : PNode} (h : BranchAt n₁ W ad up x) : ∃ v, W.cell? ⟨ad x.id, 5, none⟩ = some v ∧ PtrsAt n₁ W v x.kids ad := by
  obtain ⟨g, cap, h1, h2⟩ := h.c5
  exact ⟨_, h1, g, cap, rfl, h2⟩

end Go.Proofs.YtpkblnponeonkaaDoor
