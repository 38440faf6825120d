/-
  A tree in memory, to be read: each node's block, its parent's pointer, the pointers to its kids.
-/
import Derived.Test.YtfjhpfgffbghdaaGreatDoorImplHangJ
namespace Go.Proofs.YtfjhpfgffbghdaaGreatDoor
open Go.RowKit

structure BranchAt (n₁ : Nat) (W : World) (ad : Int → Nat) (up : Int → Option Int) (x : PNode) : Prop where
  lt : ad x.id < n₁
  c0 : W.cell? ⟨ad x.id, 0, none⟩ = some (.int .i64 x.id)
  c1 : W.cell? ⟨ad x.id, 1, none⟩ = some (.int .i64 x.kind)
  c2 : W.cell? ⟨ad x.id, 2, none⟩ = some (.int .i64 x.attr)
  c3 : W.cell? ⟨ad x.id, 3, none⟩ = some (.string x.text)
  c4 : W.cell? ⟨ad x.id, 4, none⟩ = some (ptrTo ((up x.id).map ad))
  c5 : ∃ g cap, W.cell? ⟨ad x.id, 5, none⟩ = some (.slice g x.kids.length cap) ∧ (x.kids = [] ∨ ∃ b, g = some ⟨b, 0, none⟩ ∧ b < n₁ ∧ ∀ j, j < x.kids.length → W.cell? ⟨b, j, none⟩ = some (.pointer (some ⟨ad (x.kids[j]?.getD 0), 0, none⟩)))

/-- All nodes of the list are branches. -/
def TreeAt (n₁ : Nat) (W : World) (l : List PNode) (ad : Int → Nat) (up : Int → Option Int) : Prop := ∀ x ∈ l, BranchAt n₁ W ad up x

section
variable {n₁ n₂ : Nat} {W W' : World} {ad : Int → Nat} {up : Int → Option Int} {l : List PNode} {x : PNode}

theorem BranchAt.below (h : BranchAt n₁ W ad up x) (hn : n₁ ≤ n₂) (hb : Below n₁ W W') : BranchAt n₂ W' ad up x where
  lt := by have := h.lt; omega
  c0 := (hb.cell (p := ⟨ad x.id, 0, none⟩) h.lt).trans h.c0
  c1 := (hb.cell (p := ⟨ad x.id, 1, none⟩) h.lt).trans h.c1
  c2 := (hb.cell (p := ⟨ad x.id, 2, none⟩) h.lt).trans h.c2
  c3 := (hb.cell (p := ⟨ad x.id, 3, none⟩) h.lt).trans h.c3
  c4 := (hb.cell (p := ⟨ad x.id, 4, none⟩) h.lt).trans h.c4
  c5 := by
    obtain ⟨g, cap, hc, hk⟩ := h.c5
    refine ⟨g, cap, (hb.cell (p := ⟨ad x.id, 5, none⟩) h.lt).trans hc, hk.imp id ?_⟩
    rintro ⟨b, rfl, hlt, hj⟩
    exact ⟨b, rfl, by omega, fun j h => (hb.cell (p := ⟨b, j, none⟩) hlt).trans (hj j h)⟩

theorem TreeAt.below (h : TreeAt n₁ W l ad up) (hn : n₁ ≤ n₂) (hb : Below n₁ W W') : TreeAt n₂ W' l ad up := fun x hx => (h x hx).below hn hb

theorem Hung.tree {n₀ : Nat} {kv : Int → Value} (h : Hung n₀ W l ad up (kidsAt l) kv) (hr : (idsOf l).Pairwise (· < ·)) : TreeAt W.heap.size W l ad up := fun x hx => by
  have hn := h.node x hx
  refine ⟨h.lt hx, ?_, ?_, ?_, ?_, ?_, ?_⟩
  · simpa using cell_of_heap hn 0
  · simpa using cell_of_heap hn 1
  · simpa using cell_of_heap hn 2
  · simpa using cell_of_heap hn 3
  · simpa using cell_of_heap hn 4
  · have hrow := h.row x hx
    rw [kidsAt_of hr hx] at hrow
    have h5 : W.cell? ⟨ad x.id, 5, none⟩ = some (kv x.id) := by simpa using cell_of_heap hn 5
    have hrow' := hrow
    obtain ⟨_, ⟨e, h0⟩ | ⟨g, cap, cur, e, hg, hh, _⟩⟩ := hrow
    · refine ⟨none, 0, ?_, .inl (List.eq_nil_of_length_eq_zero h0)⟩
      rw [h5, e, h0]
    · refine ⟨_, cap, by rw [h5, e], .inr ⟨g, rfl, (Array.getElem?_eq_some_iff.1 hh).1, fun j hj => ?_⟩⟩
      rw [e] at hrow'
      have := hrow'.cells (g := g) rfl j (ptrTo (some (ad (x.kids[j]?.getD 0)))) (by simp [hj])
      have e2 : ((⟨g, 0, none⟩ : Addr).add j) = ⟨g, j, none⟩ := by unfold Addr.add; split <;> simp_all
      rw [e2] at this
      exact this

theorem node_of {l : List PNode} {i : Int} (h : i ∈ idsOf l) : ∃ x ∈ l, x.id = i := by
  obtain ⟨x, hx, e⟩ := List.mem_map.1 h; exact ⟨x, hx, e⟩
end

/-- An id of the list. -/
abbrev IdOf (l : List PNode) : Type := { i : Int // i ∈ idsOf l }

end Go.Proofs.YtfjhpfgffbghdaaGreatDoor
