/-
  Lists of holds that a call owns, cell by cell.
-/
import Derived.Test.YtfjhpfgffbghdaaJoinF
import Derived.Test.YtfjhpfgffbghdaaRowFactsJ
import Derived.Deep.AppendLies
namespace Go.Proofs.Ytfjhpfgffbghdaa
open Go.RowKit

def holdCells (x : PHold) : List Value := [.int .i64 x.session, .int .i64 x.node, .int .i64 x.mode]
def holdVals (L : List PHold) : List Value := L.flatMap holdCells
theorem holdVals_cons (x : PHold) (L : List PHold) : holdVals (x :: L) = holdCells x ++ holdVals L := rfl
theorem holdVals_snoc (L : List PHold) (x : PHold) : holdVals (L ++ [x]) = holdVals L ++ holdCells x := by simp [holdVals]
theorem holdVals_app (L K : List PHold) : holdVals (L ++ K) = holdVals L ++ holdVals K := by simp [holdVals]
theorem holdVals_len : ∀ L : List PHold, (holdVals L).length = L.length * 3
  | [] => rfl
  | x :: L => by rw [holdVals_cons, List.length_append, holdVals_len L]; simp [holdCells]; omega
theorem holdVals_get : ∀ {L : List PHold} {j o : Nat}, j < L.length → o < 3 → (holdVals L)[j * 3 + o]? = (holdCells (L[j]?.getD holdNil))[o]?
  | [], _, _, h, _ => by simp at h
  | x :: L, 0, o, _, ho => by
    rw [holdVals_cons, Nat.zero_mul, Nat.zero_add, List.getElem?_append_left (by simp [holdCells]; omega)]; rfl
  | x :: L, j + 1, o, h, ho => by
    have hl : (holdCells x).length = 3 := rfl
    rw [holdVals_cons, List.getElem?_append_right (by rw [hl]; omega), hl, show (j + 1) * 3 + o - 3 = j * 3 + o by omega]
    have := holdVals_get (L := L) (j := j) (o := o) (by simpa using h) ho
    rw [this]; rfl
theorem holdCells_one (x : PHold) : ∀ u ∈ holdCells x, u.oneCell' = true := by
  intro u hu
  simp only [holdCells, List.mem_cons, List.not_mem_nil, or_false] at hu
  rcases hu with rfl | rfl | rfl <;> rfl
theorem holdVals_one (L : List PHold) : ∀ u ∈ holdVals L, u.oneCell' = true := by
  intro u hu
  obtain ⟨x, _, hx⟩ := List.mem_flatMap.1 hu
  exact holdCells_one x u hx

theorem holds_of_row {w : World} {B : Nat} {v : Value} {L : List PHold} (h : w.ownsRow B 42 3 v L.length (holdVals L)) : HoldsAt w.heap.size w v L := by
  have h' := h
  obtain ⟨_, ⟨rfl, h0⟩ | ⟨g, cap, cur, rfl, hg, hh, _⟩⟩ := h
  · exact ⟨none, 0, by rw [h0], .inl (List.eq_nil_of_length_eq_zero h0)⟩
  · refine ⟨_, cap, rfl, .inr ⟨g, 0, rfl, (Array.getElem?_eq_some_iff.1 hh).1, fun j hj => ?_⟩⟩
    have G : ∀ o u, o < 3 → (holdCells (L[j]?.getD holdNil))[o]? = some u → w.cell? ⟨g, j * 3 + o, none⟩ = some u := fun o u ho hu => by
      have := h'.cells (g := g) rfl (j * 3 + o) u ((holdVals_get hj ho).trans hu)
      rwa [Go.WideShapes.add_plain, Nat.zero_add] at this
    rw [Nat.zero_add]
    exact ⟨by simpa using G 0 _ (by decide) rfl, G 1 _ (by decide) rfl, G 2 _ (by decide) rfl⟩

/-- The cells of holds in memory to be read. -/
theorem HoldsAt.news {n₀ : Nat} {w : World} {b off n cap : Nat} {L : List PHold} (h : HoldsAt n₀ w (.slice (some ⟨b, off, none⟩) n cap) L) : ∀ j u, (holdVals L)[j]? = some u → w.cell? ((⟨b, off, none⟩ : Addr).add j) = some u := by
  obtain ⟨a', c', e', h'⟩ := h
  simp only [Value.slice.injEq] at e'
  obtain ⟨rfl, rfl, rfl⟩ := e'
  intro j u hu
  have hj : j < L.length * 3 := by
    rcases Nat.lt_or_ge j (L.length * 3) with h | h
    · exact h
    · rw [List.getElem?_eq_none (by rw [holdVals_len]; exact h)] at hu; cases hu
  obtain ⟨b', o', e2, _, hc⟩ := h'.resolve_left (by intro e0; rw [e0] at hj; simp at hj)
  simp only [Option.some.injEq, Addr.mk.injEq, and_true] at e2
  obtain ⟨rfl, rfl⟩ := e2
  have hA := hc (j / 3) (by omega)
  have hg := holdVals_get (L := L) (j := j / 3) (o := j % 3) (by omega) (by omega)
  rw [show j / 3 * 3 + j % 3 = j by omega, hu] at hg
  rw [Go.WideShapes.add_plain]
  have h3 : j % 3 = 0 ∨ j % 3 = 1 ∨ j % 3 = 2 := by omega
  rcases h3 with e | e | e
  · rw [e] at hg
    rw [show off + j = off + j / 3 * 3 by omega, hA.c0]; exact hg.symm
  · rw [e] at hg
    rw [show off + j = off + j / 3 * 3 + 1 by omega, hA.c1]; exact hg.symm
  · rw [e] at hg
    rw [show off + j = off + j / 3 * 3 + 2 by omega, hA.c2]; exact hg.symm

theorem hrow_none (w : World) (base : Nat) (hb : base ≤ w.heap.size) : (w.alloc (.cells #[] 42)).ownsRow base 42 3 (.slice (some ⟨w.heap.size, 0, none⟩) 0 0) 0 [] :=
  World.ownsRow_made w #[] 0 hb (Nat.zero_le _) rfl

/-- A list of holds without a session's lock on a node. -/
def dropL (L : List PHold) (s i : Int) : List PHold := L.filter fun x => !isAt s i x
theorem dropL_hit {L : List PHold} {s i : Int} {k : Nat} (h : k < L.length) (hs : isAt s i (L[k]?.getD holdNil) = false) : dropL (L.take (k + 1)) s i = dropL (L.take k) s i ++ [L[k]?.getD holdNil] := by
  rw [List.getElem?_eq_getElem h, Option.getD_some] at hs ⊢
  rw [List.take_succ_eq_append_getElem h, dropL, List.filter_append, dropL]
  simp [hs]
theorem dropL_miss {L : List PHold} {s i : Int} {k : Nat} (h : k < L.length) (hs : isAt s i (L[k]?.getD holdNil) = true) : dropL (L.take (k + 1)) s i = dropL (L.take k) s i := by
  rw [List.getElem?_eq_getElem h, Option.getD_some] at hs
  rw [List.take_succ_eq_append_getElem h, dropL, List.filter_append, dropL]
  simp [hs]
theorem dropL_len (L : List PHold) (s i : Int) : (dropL L s i).length ≤ L.length := List.length_filter_le _ _
end Go.Proofs.Ytfjhpfgffbghdaa
