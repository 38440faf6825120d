/-
  Branches in memory that are being hung up: each node's block, its parent's pointer, and the list of pointers to its kids so far.
-/
import Derived.Test.YtfjhpfgffbghdaaGreatDoorImplBranchesJ
import Derived.Deep.AppendLies
import Derived.OneCell
namespace Go.Proofs.YtfjhpfgffbghdaaGreatDoor
open Go.RowKit

/-- up: the parent that a node hangs on; kd: its kids so far; kv: the value of its list of kids. -/
structure Hung (n₀ : Nat) (W : World) (l : List PNode) (ad : Int → Nat) (up : Int → Option Int) (kd : Int → List Int) (kv : Int → Value) : Prop where
  base : ∀ x ∈ l, n₀ ≤ ad x.id
  node : ∀ x ∈ l, W.heap[ad x.id]? = some (.cells #[.int .i64 x.id, .int .i64 x.kind, .int .i64 x.attr, .string x.text, ptrTo ((up x.id).map ad), kv x.id] 143 (0, 0))
  row : ∀ x ∈ l, W.ownsRow n₀ 93 1 (kv x.id) (kd x.id).length ((kd x.id).map fun k => ptrTo (some (ad k)))
  inj : ∀ x ∈ l, ∀ y ∈ l, ad x.id = ad y.id → x.id = y.id
  apart : ∀ x ∈ l, ∀ y ∈ l, x.id ≠ y.id → (kv x.id).ownBlock = none ∨ (kv x.id).ownBlock ≠ (kv y.id).ownBlock

theorem Fresh.hung {n₀ : Nat} {W : World} {l : List PNode} {ad : Int → Nat} (h : Fresh n₀ W l ad) : Hung n₀ W l ad (fun _ => none) (fun _ => []) (fun _ => .slice none 0 0) where
  base := h.base
  node := h.node
  row := fun _ _ => World.ownsRow_nil _ _ _ _
  inj := h.inj
  apart := fun _ _ _ _ _ => .inl rfl

section
variable {n₀ : Nat} {W W' w1 : World} {l : List PNode} {ad : Int → Nat} {up : Int → Option Int} {kd : Int → List Int} {kv : Int → Value}

theorem Hung.lt (h : Hung n₀ W l ad up kd kv) {x : PNode} (hx : x ∈ l) : ad x.id < W.heap.size := (Array.getElem?_eq_some_iff.1 (h.node x hx)).1

theorem Hung.below (h : Hung n₀ W l ad up kd kv) (hb : Below W.heap.size W W') : Hung n₀ W' l ad up kd kv where
  base := h.base
  node := fun x hx => (hb.block _ (h.lt hx)).trans (h.node x hx)
  row := fun x hx => ownsRow_below (h.row x hx) hb
  inj := h.inj
  apart := h.apart

theorem Hung.setUp (h : Hung n₀ W l ad up kd kv) {i : Int} (p : Int) (hi : i ∈ idsOf l) : Hung n₀ (W.setCell ⟨ad i, 4, none⟩ (ptrTo (some (ad p)))) l ad (fun j => if j = i then some p else up j) kd kv := by
  obtain ⟨z, hz, rfl⟩ := List.mem_map.1 hi
  refine ⟨h.base, fun y hy => ?_, fun y hy => ?_, h.inj, h.apart⟩
  · by_cases e : y.id = z.id
    · rw [e, heap_setCell_same _ _ _ _ _ _ (h.node z hz)]
      have hyz := h.node y hy
      rw [e, h.node z hz] at hyz
      simp only [Option.some.injEq, Obj.cells.injEq] at hyz
      rw [hyz.1]
      simp [List.setIfInBounds_toArray]
    · rw [heap_setCell_other _ _ _ _ (fun e' => e (h.inj y hy z hz e')), h.node y hy]
      simp [e]
  · exact ownsRow_setCell_other (h.row y hy) (own_other (h.row y hy) (h.node z hz) (by decide)) _

theorem Hung.append (h : Hung n₀ W l ad up kd kv) {x : PNode} (hx : x ∈ l) {i : Int} {g cap : Nat}
    (hown : w1.ownsRow n₀ 93 1 (.slice (some ⟨g, 0, none⟩) ((kd x.id).length + 1) cap) ((kd x.id).length + 1) ((kd x.id).map (fun k => ptrTo (some (ad k))) ++ [ptrTo (some (ad i))]))
    (hgrow : W.grownBy w1 (kv x.id).ownBlock) (hat : (kv x.id).ownBlock = some g ∨ g = W.heap.size) :
    Hung n₀ (w1.setCell ⟨ad x.id, 5, none⟩ (.slice (some ⟨g, 0, none⟩) ((kd x.id).length + 1) cap)) l ad up (fun j => if j = x.id then kd j ++ [i] else kd j) (fun j => if j = x.id then .slice (some ⟨g, 0, none⟩) ((kd x.id).length + 1) cap else kv j) := by
  have hnode1 : ∀ y ∈ l, w1.heap[ad y.id]? = some (.cells #[.int .i64 y.id, .int .i64 y.kind, .int .i64 y.attr, .string y.text, ptrTo ((up y.id).map ad), kv y.id] 143 (0, 0)) := fun y hy =>
    (hgrow.block _ (h.lt hy) (fun e => own_other (h.row x hx) (h.node y hy) (by decide) e.symm)).trans (h.node y hy)
  refine ⟨h.base, fun y hy => ?_, fun y hy => ?_, h.inj, fun y hy z hz hne => ?_⟩
  · by_cases e : y.id = x.id
    · have hyx := h.node y hy
      rw [e, h.node x hx] at hyx
      simp only [Option.some.injEq, Obj.cells.injEq] at hyx
      rw [e, heap_setCell_same _ _ _ _ _ _ (hnode1 x hx), hyx.1]
      simp [List.setIfInBounds_toArray]
    · rw [heap_setCell_other _ _ _ _ (fun e' => e (h.inj y hy x hx e')), hnode1 y hy]
      simp [e]
  · by_cases e : y.id = x.id
    · rw [e, if_pos rfl, if_pos rfl]
      refine ownsRow_setCell_other ?_ (own_other hown (hnode1 x hx) (by decide)) _
      simpa using hown
    · rw [if_neg e, if_neg e]
      have h1 := (h.row y hy).kept hgrow (h.apart y hy x hx e)
      exact ownsRow_setCell_other h1 (own_other h1 (hnode1 x hx) (by decide)) _
  · by_cases e : y.id = x.id
    · have ez : z.id ≠ x.id := fun e' => hne (e.trans e'.symm)
      rw [if_pos e, if_neg ez]
      right
      intro e2
      rcases hat with hg | hg
      · rcases h.apart z hz x hx ez with h0 | h0
        · rw [h0] at e2; cases e2
        · exact h0 (e2.symm.trans hg.symm)
      · have := ((h.row z hz).lt g e2.symm).2
        omega
    · rw [if_neg e]
      by_cases ez : z.id = x.id
      · rw [if_pos ez]
        cases hb : (kv y.id).ownBlock with
        | none => exact .inl rfl
        | some gy =>
          right
          intro e2
          simp only [Value.ownBlock, Option.some.injEq] at e2
          rcases hat with hg | hg
          · rcases h.apart y hy x hx e with h0 | h0
            · rw [h0] at hb; cases hb
            · exact h0 (by rw [hb, hg, e2])
          · have := ((h.row y hy).lt gy hb).2
            omega
      · rw [if_neg ez]; exact h.apart y hy z hz hne
end
end Go.Proofs.YtfjhpfgffbghdaaGreatDoor
