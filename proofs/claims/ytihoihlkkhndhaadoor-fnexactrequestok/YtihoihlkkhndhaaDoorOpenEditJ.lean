/-
  An argument that reads as an edit.
-/
import Derived.Test.YtihoihlkkhndhaaDoorEditRepJ
import Derived.Test.YtihoihlkkhndhaaDoorOpenCells
import Derived.Lib.SmallJoins
namespace Go.Proofs.YtihoihlkkhndhaaDoor
open Go.ChangeShapes Go.WideShapes Go.ChangeAt Go.RowKit Go.Deep Go.Joins

theorem cellsEdit : Tryd.prog.cellsOf 23 = 5 := by kernel_rfl
theorem cellsStr : Tryd.prog.cellsOf 9 = 1 := by kernel_rfl

theorem array5 {α : Type} {a : Array α} (h : a.size = 5) : ∃ x0 x1 x2 x3 x4, a = #[x0, x1, x2, x3, x4] := by
  obtain ⟨l⟩ := a
  match l, h with
  | [x0, x1, x2, x3, x4], _ => exact ⟨x0, x1, x2, x3, x4, rfl⟩

section
variable {H : Type} {enc : TypeId × Value → H} {W : World} {spare : Nat → Bool} {held : Bool}

set_option maxRecDepth 100000 in
/-- Five cells that read as an edit. -/
theorem read_edit {fuel : Nat} {cs : List Value} {x : DataW H × List MemPlace} (h : DataW.trod enc Tryd.prog W 0 spare held fuel 23 cs = some x) :
    ∃ y : PEdit, cs = [.int .i64 y.kind, .int .i64 y.node, .int .i64 y.a, .int .i64 y.b, .string y.text] ∧ y.text.size ≤ 9223372036854775807 := by
  obtain ⟨xs, n, _, _, hlen, hxs, hf⟩ := DataW.trod_struct Tryd.underlying23 h
  rw [cellsEdit] at hlen
  match cs, hlen with
  | [c0, c1, c2, c3, c4], _ =>
    have hget : ∀ i, i < 5 → ∃ y, xs[i]? = some y := fun i hi => ⟨xs[i]'(by rw [hxs]; exact hi), by simp⟩
    obtain ⟨y0, e0⟩ := hget 0 (by omega)
    obtain ⟨y1, e1⟩ := hget 1 (by omega)
    obtain ⟨y2, e2⟩ := hget 2 (by omega)
    obtain ⟨y3, e3⟩ := hget 3 (by omega)
    obtain ⟨y4, e4⟩ := hget 4 (by omega)
    have f0 : DataW.trod enc Tryd.prog W 0 spare held n 3 [c0] = some y0 := by rw [← e0, ← hf 0 _ rfl]; simp [cellsInt]
    have f1 : DataW.trod enc Tryd.prog W 0 spare held n 3 [c1] = some y1 := by rw [← e1, ← hf 1 _ rfl]; simp [cellsInt]
    have f2 : DataW.trod enc Tryd.prog W 0 spare held n 3 [c2] = some y2 := by rw [← e2, ← hf 2 _ rfl]; simp [cellsInt]
    have f3 : DataW.trod enc Tryd.prog W 0 spare held n 3 [c3] = some y3 := by rw [← e3, ← hf 3 _ rfl]; simp [cellsInt]
    have f4 : DataW.trod enc Tryd.prog W 0 spare held n 9 [c4] = some y4 := by rw [← e4, ← hf 4 _ rfl]; simp [cellsStr]
    obtain ⟨n0, h0, _, _⟩ := DataW.trod_int Tryd.underlying3 f0
    obtain ⟨n1, h1, _, _⟩ := DataW.trod_int Tryd.underlying3 f1
    obtain ⟨n2, h2, _, _⟩ := DataW.trod_int Tryd.underlying3 f2
    obtain ⟨n3, h3, _, _⟩ := DataW.trod_int Tryd.underlying3 f3
    obtain ⟨s4, h4, _, hs4⟩ := DataW.trod_string Tryd.underlying9 f4
    simp only [List.cons.injEq, and_true] at h0 h1 h2 h3 h4
    subst h0 h1 h2 h3 h4
    exact ⟨⟨n0, n1, n2, n3, s4⟩, rfl, by unfold maxLen at hs4; exact hs4⟩

set_option maxRecDepth 100000 in
/-- An edit as a value, read. -/
theorem read_edit_val {r : Reach} {b0 : Nat} {v : Value} {D : DataW H} {p : List MemPlace} (hv : Value.okWide Tryd.prog W r b0 23 v) (h : DataW.Trod enc Tryd.prog W 0 spare held 23 v D p) :
    ∃ y : PEdit, v = editVal y ∧ y.text.size ≤ 9223372036854775807 := by
  obtain ⟨cs, rfl, hsz⟩ := okWide_struct Tryd.underlying23 hv
  obtain ⟨c0, c1, c2, c3, c4, rfl⟩ := array5 (hsz.trans cellsEdit)
  obtain ⟨m, hm⟩ := h
  obtain ⟨y, e, hs⟩ := read_edit (fuel := m) (by simpa [Value.cells] using hm)
  simp only [List.cons.injEq, and_true] at e
  obtain ⟨rfl, rfl, rfl, rfl, rfl⟩ := e
  exact ⟨y, rfl, hs⟩
end
end Go.Proofs.YtihoihlkkhndhaaDoor
