/-
  An argument that reads as a table lies in memory as such.
-/
import Derived.Test.YtfjhpfgffbghdaaTabRep
import Derived.Test.YtfjhpfgffbghdaaOpenHold
namespace Go.Proofs.Ytfjhpfgffbghdaa
open Go.ChangeShapes Go.WideShapes Go.ChangeAt Go.RowKit Go.Deep Go.Joins

section
variable {H : Type} {enc : TypeId × Value → H} {W : World} {spare : Nat → Bool} {held : Bool}

set_option maxRecDepth 100000 in
theorem read_table {r : Reach} {b0 : Nat} {v : Value} {D : DataW H} {p : List MemPlace} (hv : Value.okWide Try.prog W r b0 50 v) (h : DataW.Trod enc Try.prog W 0 spare held 50 v D p) :
    ∃ t, TabAt W.heap.size W v t ∧ FitsT t := by
  obtain ⟨v0, v1, y0, y1, n, rfl, _, _, h0, h1⟩ := open_agg2 Try.underlying50 (by kernel_rfl) (by kernel_rfl) hv h
  obtain ⟨l0, a0, b0⟩ := read_holds h0
  obtain ⟨l1, a1, b1⟩ := read_holds h1
  exact ⟨⟨l0, l1⟩, ⟨v0, v1, rfl, a0, a1⟩, b0, b1⟩
end
end Go.Proofs.Ytfjhpfgffbghdaa
