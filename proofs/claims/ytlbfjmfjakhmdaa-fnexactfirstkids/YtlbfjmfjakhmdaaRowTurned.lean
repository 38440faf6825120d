/-
  A row that is turned round from both ends.
-/
import Derived.Test.YtlbfjmfjakhmdaaTreeRep
namespace Go.Proofs.Ytlbfjmfjakhmdaa
open Go.RowKit

/-- A row that has been turned round from both ends, so far. -/
def Turned (xs : List Value) (i : Nat) (cs : Array Value) : Prop := cs.size ≥ xs.length ∧ ∀ p, p < xs.length → cs[p]? = if p < i ∨ xs.length - 1 - i < p then xs[xs.length - 1 - p]? else xs[p]?

theorem Turned.step {xs : List Value} {i : Nat} {cs : Array Value} (h : Turned xs i cs) (hi : i < xs.length - 1 - i) :
    Turned xs (i + 1) ((cs.setIfInBounds i (xs[xs.length - 1 - i]'(by omega))).setIfInBounds (xs.length - 1 - i) (xs[i]'(by omega))) := by
  obtain ⟨h1, h2⟩ := h
  refine ⟨by simpa using h1, fun p hp => ?_⟩
  rw [Array.getElem?_setIfInBounds, Array.getElem?_setIfInBounds]
  by_cases e1 : xs.length - 1 - i = p
  · rw [if_pos e1]
    simp only [Array.size_setIfInBounds]
    rw [if_pos (by omega), if_pos (by omega)]
    rw [List.getElem?_eq_getElem (by omega)]
    congr 1
    congr 1
    omega
  · rw [if_neg e1]
    by_cases e2 : i = p
    · rw [if_pos e2, if_pos (by omega), if_pos (by omega), List.getElem?_eq_getElem (by omega)]
      subst e2
      rfl
    · rw [if_neg e2, h2 p hp]
      by_cases c : p < i ∨ xs.length - 1 - i < p
      · rw [if_pos c, if_pos (by omega)]
      · rw [if_neg c, if_neg (by omega)]

theorem Turned.done {xs : List Value} {i : Nat} {cs : Array Value} (h : Turned xs i cs) (hi : xs.length ≤ 2 * i + 1) : ∀ p, p < xs.length → cs[p]? = xs.reverse[p]? := by
  intro p hp
  rw [h.2 p hp, List.getElem?_reverse hp]
  by_cases c : p < i ∨ xs.length - 1 - i < p
  · rw [if_pos c]
  · rw [if_neg c]
    have : p = xs.length - 1 - p := by omega
    rw [← this]
end Go.Proofs.Ytlbfjmfjakhmdaa
