/-
  An argument that reads as holds lies in memory as such.
-/
import Derived.Test.YtfjhpfgffbghdaaHoldRep
import Derived.Test.YtfjhpfgffbghdaaOpenInts
import Derived.Lib.SmallJoins
namespace Go.Proofs.Ytfjhpfgffbghdaa
open Go.ChangeShapes Go.WideShapes Go.ChangeAt Go.RowKit Go.Deep Go.Joins

theorem cellsHold : Try.prog.cellsOf 39 = 3 := by kernel_rfl

section
variable {H : Type} {enc : TypeId × Value → H} {W : World} {spare : Nat → Bool} {held : Bool}

instance : Inhabited PHold := ⟨holdNil⟩

set_option maxRecDepth 100000 in
/-- Three cells that read as a hold. -/
theorem read_hold {fuel : Nat} {cs : List Value} {x : DataW H × List MemPlace} (h : DataW.trod enc Try.prog W 0 spare held fuel 39 cs = some x) :
    ∃ y : PHold, cs = [.int .i64 y.session, .int .i64 y.node, .int .i64 y.mode] := by
  obtain ⟨xs, n, _, _, hlen, hxs, hf⟩ := DataW.trod_struct Try.underlying39 h
  rw [cellsHold] at hlen
  match cs, hlen with
  | [c0, c1, c2], _ =>
    have hget : ∀ i, i < 3 → ∃ y, xs[i]? = some y := fun i hi => ⟨xs[i]'(by rw [hxs]; exact hi), by simp⟩
    obtain ⟨y0, e0⟩ := hget 0 (by omega)
    obtain ⟨y1, e1⟩ := hget 1 (by omega)
    obtain ⟨y2, e2⟩ := hget 2 (by omega)
    have f0 : DataW.trod enc Try.prog W 0 spare held n 3 [c0] = some y0 := by rw [← e0, ← hf 0 _ rfl]; simp [cellsInt]
    have f1 : DataW.trod enc Try.prog W 0 spare held n 3 [c1] = some y1 := by rw [← e1, ← hf 1 _ rfl]; simp [cellsInt]
    have f2 : DataW.trod enc Try.prog W 0 spare held n 3 [c2] = some y2 := by rw [← e2, ← hf 2 _ rfl]; simp [cellsInt]
    obtain ⟨n0, h0, _, _⟩ := DataW.trod_int Try.underlying3 f0
    obtain ⟨n1, h1, _, _⟩ := DataW.trod_int Try.underlying3 f1
    obtain ⟨n2, h2, _, _⟩ := DataW.trod_int Try.underlying3 f2
    simp only [List.cons.injEq, and_true] at h0 h1 h2
    subst h0 h1 h2
    exact ⟨⟨n0, n1, n2⟩, rfl⟩

set_option maxRecDepth 100000 in
/-- A hold as a value, read. -/
theorem read_hold_val {r : Reach} {b0 : Nat} {v : Value} {D : DataW H} {p : List MemPlace} (hv : Value.okWide Try.prog W r b0 39 v) (h : DataW.Trod enc Try.prog W 0 spare held 39 v D p) :
    ∃ y : PHold, v = holdVal y := by
  obtain ⟨v0, v1, v2, y0, y1, y2, n, rfl, _, _, h0, h1, h2⟩ := open_agg3 Try.underlying39 (by kernel_rfl) (by kernel_rfl) hv h
  obtain ⟨n0, e0, _, _⟩ := DataW.trod_int Try.underlying3 h0
  obtain ⟨n1, e1, _, _⟩ := DataW.trod_int Try.underlying3 h1
  obtain ⟨n2, e2, _, _⟩ := DataW.trod_int Try.underlying3 h2
  simp only [List.cons.injEq, and_true] at e0 e1 e2
  subst e0 e1 e2
  exact ⟨⟨n0, n1, n2⟩, rfl⟩

set_option maxRecDepth 100000 in
/-- A list of holds, read. -/
theorem read_holds {fuel : Nat} {v : Value} {x : DataW H × List MemPlace} (h : DataW.trod enc Try.prog W 0 spare held fuel 25 [v] = some x) :
    ∃ l, HoldsAt W.heap.size W v l ∧ l.length ≤ 9223372036854775807 := by
  rcases open_slice Try.underlying25 h with ⟨hcs, _⟩ | ⟨a, len, cap, m, n, D, Pl, hcs, _, hl, hm, hmm, _, hx⟩
  · simp only [List.cons.injEq, and_true] at hcs
    subst hcs
    exact ⟨[], ⟨none, 0, rfl, .inl rfl⟩, by simp⟩
  · simp only [List.cons.injEq, and_true] at hcs
    subst hcs
    have hle : len ≤ m := by rw [hmm]; split <;> omega
    rw [cellsHold] at hx
    obtain ⟨f, hfn⟩ := choose_lt (α := PHold) (n := len) (p := fun i y => ∀ j, j < 3 → W.cell? ((a.add (i * 3)).add j) = [Value.int .i64 y.session, .int .i64 y.node, .int .i64 y.mode][j]?) (fun i hi => by
      obtain ⟨cs', h1, h2⟩ := hx i (by omega)
      obtain ⟨y, rfl⟩ := read_hold h2
      obtain ⟨_, _, h7⟩ := World.cells?_some h1
      exact ⟨y, h7⟩)
    refine ⟨(List.range len).map f, ⟨some a, cap, by simp, ?_⟩, by simp; unfold maxLen at hm; omega⟩
    by_cases h0 : len = 0
    · left; simp [h0]
    · right
      have hc00 := hfn 0 (by omega) 0 (by omega)
      obtain ⟨b, off, spot⟩ := a
      have hspot : spot = none := by simpa [Addr.add] using World.cell?_spot hc00
      subst hspot
      refine ⟨b, off, rfl, lt_of_cell (a := ⟨b, off, none⟩) (by simpa [Addr.add] using hc00), fun j hj => ?_⟩
      simp only [List.length_map, List.length_range] at hj
      have hc := hfn j hj
      have hcj : ∀ i, i < 3 → W.cell? ⟨b, off + j * 3 + i, none⟩ = [Value.int .i64 (f j).session, .int .i64 (f j).node, .int .i64 (f j).mode][i]? := fun i hi => by
        rw [← hc i hi, Go.WideShapes.add_plain, Go.WideShapes.add_plain]
      have e : ((List.range len).map f)[j]?.getD holdNil = f j := by simp [hj]
      rw [e]
      exact ⟨by simpa using hcj 0 (by omega), by simpa using hcj 1 (by omega), by simpa using hcj 2 (by omega)⟩

set_option maxRecDepth 100000 in
/-- A list of holds as a value, read. -/
theorem read_holds_val {r : Reach} {b0 : Nat} {v : Value} {D : DataW H} {p : List MemPlace} (hv : Value.okWide Try.prog W r b0 25 v) (h : DataW.Trod enc Try.prog W 0 spare held 25 v D p) :
    ∃ l, HoldsAt W.heap.size W v l ∧ l.length ≤ 9223372036854775807 := by
  obtain ⟨a, n, c, rfl⟩ := okWide_slice Try.underlying25 hv
  obtain ⟨m, hm⟩ := h
  exact read_holds (fuel := m) hm
end
end Go.Proofs.Ytfjhpfgffbghdaa
