/-
  An argument that reads as a machine lies in memory as one.
-/
import Derived.Test.YtlbfjmfjakhmdaaMachSz
import Derived.Test.YtlbfjmfjakhmdaaOpenInts
namespace Go.Proofs.Ytlbfjmfjakhmdaa
open Go.ChangeShapes Go.WideShapes Go.ChangeAt Go.RowKit Go.Deep Go.Joins

theorem cellsBool' : Try.prog.cellsOf 4 = 1 := by kernel_rfl

section
variable {H : Type} {enc : TypeId × Value → H} {W : World} {spare : Nat → Bool} {held : Bool}

/-- A list of bools, read. -/
theorem read_bools {fuel : Nat} {v : Value} {x : DataW H × List MemPlace} (h : DataW.trod enc Try.prog W 0 spare held fuel 23 [v] = some x) :
    ∃ l, BoolsAt W.heap.size W v l ∧ l.length ≤ 9223372036854775807 := by
  rcases open_slice Try.underlying23 h with ⟨hcs, _⟩ | ⟨a, len, cap, m, n, D, Pl, hcs, _, hl, hm, hmm, _, hx⟩
  · simp only [List.cons.injEq, and_true] at hcs
    subst hcs
    exact ⟨[], ⟨none, 0, rfl, .inl rfl⟩, by simp⟩
  · simp only [List.cons.injEq, and_true] at hcs
    subst hcs
    have hle : len ≤ m := by rw [hmm]; split <;> omega
    rw [cellsBool'] at hx
    obtain ⟨f, hfn⟩ := choose_lt (α := Bool) (n := len) (p := fun i y => W.cell? (a.add (i * 1)) = some (.bool y)) (fun i hi => by
      obtain ⟨cs', h1, h2⟩ := hx i (by omega)
      obtain ⟨y, rfl, _⟩ := DataW.trod_bool Try.underlying4 h2
      obtain ⟨_, _, h7⟩ := World.cells?_some h1
      have := h7 0 (by omega)
      exact ⟨y, by simpa [Addr.add] using this⟩)
    refine ⟨(List.range len).map f, ⟨some a, cap, by simp, ?_⟩, by simp; unfold maxLen at hm; omega⟩
    by_cases h0 : len = 0
    · left; simp [h0]
    · right
      have hc00 := hfn 0 (by omega)
      obtain ⟨b, off, spot⟩ := a
      have hspot : spot = none := by simpa [Addr.add] using World.cell?_spot hc00
      subst hspot
      refine ⟨b, off, rfl, lt_of_cell (a := ⟨b, off, none⟩) (by simpa [Addr.add] using hc00), fun j hj => ?_⟩
      simp only [List.length_map, List.length_range] at hj
      have hc := hfn j hj
      have e : ((List.range len).map f)[j]?.getD false = f j := by simp [hj]
      rw [e]
      rw [Go.WideShapes.add_plain] at hc
      simpa using hc

/-- A list of lists of numbers, read. -/
theorem read_rows {fuel : Nat} {v : Value} {x : DataW H × List MemPlace} (h : DataW.trod enc Try.prog W 0 spare held fuel 22 [v] = some x) :
    ∃ l, RowsAt W.heap.size W v l ∧ l.length ≤ 9223372036854775807 ∧ ∀ y ∈ l, y.length ≤ 9223372036854775807 := by
  rcases open_slice Try.underlying22 h with ⟨hcs, _⟩ | ⟨a, len, cap, m, n, D, Pl, hcs, _, hl, hm, hmm, _, hx⟩
  · simp only [List.cons.injEq, and_true] at hcs
    subst hcs
    exact ⟨[], ⟨none, 0, rfl, .inl rfl⟩, by simp, by simp⟩
  · simp only [List.cons.injEq, and_true] at hcs
    subst hcs
    have hle : len ≤ m := by rw [hmm]; split <;> omega
    rw [cellsInts] at hx
    obtain ⟨f, hfn⟩ := choose_lt (α := List Int) (n := len) (p := fun i y => ∃ kv, W.cell? (a.add (i * 1)) = some kv ∧ IntsAt W.heap.size W kv y ∧ y.length ≤ 9223372036854775807) (fun i hi => by
      obtain ⟨cs', h1, h2⟩ := hx i (by omega)
      obtain ⟨h6, _, h7⟩ := World.cells?_some h1
      match cs', h6 with
      | [kv], _ =>
        obtain ⟨ks, h3, h4, _⟩ := read_ints h2
        have := h7 0 (by omega)
        exact ⟨ks, kv, by simpa [Addr.add] using this, h3, h4⟩)
    refine ⟨(List.range len).map f, ⟨some a, cap, by simp, ?_⟩, by simp; unfold maxLen at hm; omega, ?_⟩
    · by_cases h0 : len = 0
      · left; simp [h0]
      · right
        obtain ⟨kv0, hc00, _⟩ := hfn 0 (by omega)
        obtain ⟨b, off, spot⟩ := a
        have hspot : spot = none := by simpa [Addr.add] using World.cell?_spot hc00
        subst hspot
        refine ⟨b, off, rfl, lt_of_cell (a := ⟨b, off, none⟩) (by simpa [Addr.add] using hc00), fun j hj => ?_⟩
        simp only [List.length_map, List.length_range] at hj
        obtain ⟨kv, hc, hk, _⟩ := hfn j hj
        have e : ((List.range len).map f)[j]?.getD [] = f j := by simp [hj]
        rw [e]
        rw [Go.WideShapes.add_plain] at hc
        exact ⟨kv, by simpa using hc, hk⟩
    · intro y hy
      obtain ⟨i, hi, rfl⟩ := List.mem_map.1 hy
      obtain ⟨_, _, _, h4⟩ := hfn i (by simpa using hi)
      exact h4

set_option maxRecDepth 100000 in
/-- A machine as a value, read. -/
theorem read_mach_val {r : Reach} {b0 : Nat} {v : Value} {D : DataW H} {p : List MemPlace} (hv : Value.okWide Try.prog W r b0 25 v) (h : DataW.Trod enc Try.prog W 0 spare held 25 v D p) :
    ∃ y, MachVal W.heap.size W v y ∧ FitsMach y := by
  obtain ⟨v0, v1, y0, y1, n, rfl, _, _, h0, h1⟩ := open_agg2 Try.underlying25 (by kernel_rfl) (by kernel_rfl) hv h
  obtain ⟨l, hl, hf, hr⟩ := read_rows h0
  obtain ⟨l2, hl2, hf2⟩ := read_bools h1
  exact ⟨⟨l, l2⟩, ⟨v0, v1, rfl, hl, hl2⟩, ⟨hf, hr, hf2⟩⟩

set_option maxRecDepth 100000 in
/-- A list of numbers as a value, read. -/
theorem read_nums_val {r : Reach} {b0 : Nat} {v : Value} {D : DataW H} {p : List MemPlace} (hv : Value.okWide Try.prog W r b0 32 v) (h : DataW.Trod enc Try.prog W 0 spare held 32 v D p) :
    ∃ l, IntsAt W.heap.size W v l ∧ l.length ≤ 9223372036854775807 := by
  obtain ⟨a, n, c, rfl⟩ := okWide_slice Try.underlying32 hv
  obtain ⟨m, hm⟩ := h
  obtain ⟨ks, h1, h2, _⟩ := read_ints (fuel := m) hm
  exact ⟨ks, h1, h2⟩
end
end Go.Proofs.Ytlbfjmfjakhmdaa
