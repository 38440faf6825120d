/-
  An argument that reads as a request.
-/
import Derived.Test.YtihoihlkkhndhaaDoorOpenEditJ
import Derived.Test.YtihoihlkkhndhaaDoorReqRepJ
namespace Go.Proofs.YtihoihlkkhndhaaDoor
open Go.ChangeShapes Go.WideShapes Go.ChangeAt Go.RowKit Go.Deep Go.Joins

theorem cellsReq : Tryd.prog.cellsOf 25 = 9 := by kernel_rfl

section
variable {H : Type} {enc : TypeId × Value → H} {W : World} {spare : Nat → Bool} {held : Bool}

set_option maxRecDepth 100000 in
/-- Nine cells that read as a request. -/
theorem read_req {fuel : Nat} {cs : List Value} {x : DataW H × List MemPlace} (h : DataW.trod enc Tryd.prog W 0 spare held fuel 25 cs = some x) :
    ∃ y : PReq, cs = (reqVal y).cells.toList ∧ y.edit.text.size ≤ 9223372036854775807 := by
  obtain ⟨xs, n, _, _, hlen, hxs, hf⟩ := DataW.trod_struct Tryd.underlying25 h
  rw [cellsReq] at hlen
  match cs, hlen with
  | [c0, c1, c2, c3, c4, c5, c6, c7, c8], _ =>
    have hget : ∀ i, i < 5 → ∃ y, xs[i]? = some y := fun i hi => ⟨xs[i]'(by rw [hxs]; exact hi), by simp⟩
    obtain ⟨y0, e0⟩ := hget 0 (by omega)
    obtain ⟨y1, e1⟩ := hget 1 (by omega)
    obtain ⟨y2, e2⟩ := hget 2 (by omega)
    obtain ⟨y3, e3⟩ := hget 3 (by omega)
    obtain ⟨y4, e4⟩ := hget 4 (by omega)
    have f0 : DataW.trod enc Tryd.prog W 0 spare held n 3 [c0] = some y0 := by rw [← e0, ← hf 0 _ rfl]; simp [cellsInt]
    have f1 : DataW.trod enc Tryd.prog W 0 spare held n 3 [c1] = some y1 := by rw [← e1, ← hf 1 _ rfl]; simp [cellsInt]
    have f2 : DataW.trod enc Tryd.prog W 0 spare held n 3 [c2] = some y2 := by rw [← e2, ← hf 2 _ rfl]; simp [cellsInt]
    have f3 : DataW.trod enc Tryd.prog W 0 spare held n 3 [c3] = some y3 := by rw [← e3, ← hf 3 _ rfl]; simp [cellsInt]
    have f4 : DataW.trod enc Tryd.prog W 0 spare held n 23 [c4, c5, c6, c7, c8] = some y4 := by rw [← e4, ← hf 4 _ rfl]; simp [cellsEdit]
    obtain ⟨n0, h0, _, _⟩ := DataW.trod_int Tryd.underlying3 f0
    obtain ⟨n1, h1, _, _⟩ := DataW.trod_int Tryd.underlying3 f1
    obtain ⟨n2, h2, _, _⟩ := DataW.trod_int Tryd.underlying3 f2
    obtain ⟨n3, h3, _, _⟩ := DataW.trod_int Tryd.underlying3 f3
    obtain ⟨ed, h4, hs4⟩ := read_edit f4
    simp only [List.cons.injEq, and_true] at h0 h1 h2 h3 h4
    obtain ⟨rfl, rfl, rfl, rfl, rfl⟩ := h4
    subst h0 h1 h2 h3
    exact ⟨⟨n0, n1, n2, n3, ed⟩, rfl, hs4⟩

set_option maxRecDepth 100000 in
/-- A request as a value, read. -/
theorem read_req_val {r : Reach} {b0 : Nat} {v : Value} {D : DataW H} {p : List MemPlace} (hv : Value.okWide Tryd.prog W r b0 25 v) (h : DataW.Trod enc Tryd.prog W 0 spare held 25 v D p) :
    ∃ y : PReq, v = reqVal y ∧ y.edit.text.size ≤ 9223372036854775807 := by
  obtain ⟨cs, rfl, hsz⟩ := okWide_struct Tryd.underlying25 hv
  obtain ⟨m, hm⟩ := h
  obtain ⟨y, e, hs⟩ := read_req (fuel := m) (by simpa [Value.cells] using hm)
  refine ⟨y, ?_, hs⟩
  have : cs = (reqVal y).cells := by
    have := congrArg List.toArray e
    simpa using this
  rw [this]; rfl
end
end Go.Proofs.YtihoihlkkhndhaaDoor
