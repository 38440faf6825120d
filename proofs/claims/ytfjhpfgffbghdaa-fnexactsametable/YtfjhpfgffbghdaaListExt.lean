/-
  Plain facts on lists and answers, with no program in them.
-/
import Derived.Test.YtfjhpfgffbghdaaBasicIn
namespace Go.Proofs.Ytfjhpfgffbghdaa
open Go.RowKit

theorem no_true {r : Bool} {p : Prop} (h : r = true ↔ p) (hn : ¬ p) : r = false := by
  cases r
  · rfl
  · exact absurd (h.1 rfl) hn

theorem list_getD_ext {α : Type} (z : α) {l l' : List α} (hl : l.length = l'.length) (h : ∀ j, j < l.length → l[j]?.getD z = l'[j]?.getD z) : l = l' := by
  refine List.ext_getElem hl fun j h1 h2 => ?_
  have := h j h1
  simpa [h1, h2] using this

theorem text_ne {a b : ByteArray} (h : a ≠ b) : (a.toList == b.toList) = false := by
  rw [beq_eq_false_iff_ne]
  intro e
  rw [ByteArray.toList_eq, ByteArray.toList_eq] at e
  exact h (ByteArray.ext (Array.ext' e))

theorem int_ne {a b : Int} (h : a ≠ b) : (a == b) = false ∧ (a != b) = true := by simp [h]
end Go.Proofs.Ytfjhpfgffbghdaa
