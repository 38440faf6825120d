/-
  The node of an Id; lists of pointers to the nodes of a tree.
-/
import Derived.Test.YtfjhpfgffbghdaaImplTreeJ
namespace Go.Proofs.Ytfjhpfgffbghdaa
open Go.RowKit

/-- The node of an Id. -/
def nodeOf (l : List PNode) (i : Int) : PNode := (l.find? (fun x => x.id == i)).getD nodeNil

theorem nodeOf_of {l : List PNode} (hr : (idsOf l).Pairwise (· < ·)) {x : PNode} (hx : x ∈ l) : nodeOf l x.id = x := by
  unfold nodeOf; rw [find_id hr hx]; rfl

/-- The value is a list of pointers to the nodes of a tree. -/
def PtrsAt (n₁ : Nat) (W : World) (v : Value) (ks : List Int) (ad : Int → Nat) : Prop :=
  ∃ g cap, v = .slice g ks.length cap ∧ (ks = [] ∨ ∃ b, g = some ⟨b, 0, none⟩ ∧ b < n₁ ∧ ∀ j, j < ks.length → W.cell? ⟨b, j, none⟩ = some (.pointer (some ⟨ad (ks[j]?.getD 0), 0, none⟩)))

theorem PtrsAt.below {n₁ n₂ : Nat} {W W' : World} {v : Value} {ks : List Int} {ad : Int → Nat} (h : PtrsAt n₁ W v ks ad) (hn : n₁ ≤ n₂) (hb : Below n₁ W W') : PtrsAt n₂ W' v ks ad := by
  obtain ⟨g, cap, rfl, h⟩ := h
  refine ⟨g, cap, rfl, h.imp id ?_⟩
  rintro ⟨b, rfl, hlt, hc⟩
  exact ⟨b, rfl, by omega, fun j hj => (hb.cell (p := ⟨b, j, none⟩) hlt).trans (hc j hj)⟩
end Go.Proofs.Ytfjhpfgffbghdaa
