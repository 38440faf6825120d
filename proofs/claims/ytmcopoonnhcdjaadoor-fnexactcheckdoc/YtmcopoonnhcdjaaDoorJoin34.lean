/-
  An argument that reads as a list of numbers lies in memory as one.
  An argument that reads as terms lies in memory as such.
-/
import Derived.Test.YtmcopoonnhcdjaaDoorJoin1
import Derived.Test.YtmcopoonnhcdjaaDoorRows
import Derived.Deep.Slices
import Derived.Lib.SmallJoins
import Derived.ChangeOld
import Derived.OpenShut
import Derived.ProofKit
import Derived.Test.YtmcopoonnhcdjaaDoorJoin26
namespace Go.Proofs.YtmcopoonnhcdjaaDoor
open Go.ChangeShapes Go.WideShapes Go.ChangeAt Go.RowKit Go.Deep Go.Joins

theorem cellsInt : Tryd.prog.cellsOf 3 = 1 := by kernel_rfl
theorem cellsString : Tryd.prog.cellsOf 9 = 1 := by kernel_rfl
theorem cellsInts : Tryd.prog.cellsOf 41 = 1 := by kernel_rfl
theorem lt_of_cell {w : World} {a : Addr} {v : Value} (h : w.cell? a = some v) : a.block < w.heap.size := by
  rcases Nat.lt_or_ge a.block w.heap.size with h' | h'
  · exact h'
  · simp [World.cell?, Array.getElem?_eq_none h'] at h

section
variable {H : Type} {enc : TypeId × Value → H} {W : World} {spare : Nat → Bool} {held : Bool}

/-- A list of numbers, read. -/
theorem read_ints {fuel : Nat} {v : Value} {x : DataW H × List MemPlace} (h : DataW.trod enc Tryd.prog W 0 spare held fuel 41 [v] = some x) :
    ∃ ks, IntsAt W.heap.size W v ks ∧ ks.length ≤ 9223372036854775807 ∧ ∀ k ∈ ks, Wf64 k := by
  rcases open_ints Tryd.underlying41 Tryd.underlying3 cellsInt h with ⟨hcs, _⟩ | ⟨a, len, cap, zs, hcs, _, hl, hm, hz, _, hcell, hwz⟩
  · simp only [List.cons.injEq, and_true] at hcs
    subst hcs
    exact ⟨[], ⟨none, 0, rfl, .inl rfl⟩, by simp, by simp⟩
  · simp only [List.cons.injEq, and_true] at hcs
    subst hcs
    have hle : len ≤ zs.length := by rw [hz]; split <;> omega
    refine ⟨zs.take len, ⟨some a, cap, by rw [List.length_take, Nat.min_eq_left hle], ?_⟩, by rw [List.length_take]; unfold maxLen at hm; omega, fun k hk => hwz k (List.mem_of_mem_take hk)⟩
    by_cases h0 : len = 0
    · left; simp [h0]
    · right
      obtain ⟨b, off, rfl, hc⟩ := ints_at hcell (by omega)
      refine ⟨b, off, rfl, lt_of_cell (hc 0 (by omega)), fun j hj => ?_⟩
      rw [List.length_take, Nat.min_eq_left hle] at hj
      rw [hc j (by omega)]
      simp [hj, List.getD]

theorem take_one_drop {cs : List Value} {i : Nat} (h : i < cs.length) : (cs.drop i).take 1 = [cs[i]] := by
  rw [List.drop_eq_getElem_cons h]; rfl
end
end Go.Proofs.YtmcopoonnhcdjaaDoor

namespace Go.Proofs.YtmcopoonnhcdjaaDoor
open Go.ChangeShapes Go.WideShapes Go.ChangeAt Go.RowKit Go.Deep Go.Joins

theorem cellsTerm : Tryd.prog.cellsOf 135 = 2 := by kernel_rfl

section
variable {H : Type} {enc : TypeId × Value → H} {W : World} {spare : Nat → Bool} {held : Bool}

set_option maxRecDepth 100000 in
/-- Two cells that read as a term. -/
theorem read_term {fuel : Nat} {cs : List Value} {x : DataW H × List MemPlace} (h : DataW.trod enc Tryd.prog W 0 spare held fuel 135 cs = some x) :
    ∃ (y : PTerm) (kv : Value), cs = [kv, .int .i64 y.many] ∧ IntsAt W.heap.size W kv y.kinds ∧ y.kinds.length ≤ 9223372036854775807 := by
  obtain ⟨xs, n, _, _, hlen, hxs, hf⟩ := DataW.trod_struct Tryd.underlying135 h
  rw [cellsTerm] at hlen
  match cs, hlen with
  | [c0, c1], _ =>
    have hget : ∀ i, i < 2 → ∃ y, xs[i]? = some y := fun i hi => ⟨xs[i]'(by rw [hxs]; exact hi), by simp⟩
    obtain ⟨y0, e0⟩ := hget 0 (by omega)
    obtain ⟨y1, e1⟩ := hget 1 (by omega)
    have f0 : DataW.trod enc Tryd.prog W 0 spare held n 41 [c0] = some y0 := by rw [← e0, ← hf 0 _ rfl]; simp [cellsInts]
    have f1 : DataW.trod enc Tryd.prog W 0 spare held n 3 [c1] = some y1 := by rw [← e1, ← hf 1 _ rfl]; simp [cellsInt]
    obtain ⟨n1, h1, _, _⟩ := DataW.trod_int Tryd.underlying3 f1
    obtain ⟨ks, hk, hkl, _⟩ := read_ints f0
    simp only [List.cons.injEq, and_true] at h1
    subst h1
    exact ⟨⟨ks, n1⟩, c0, rfl, hk, hkl⟩

instance : Inhabited PTerm := ⟨termNil⟩

/-- A list of terms, read. -/
theorem read_terms {fuel : Nat} {v : Value} {x : DataW H × List MemPlace} (h : DataW.trod enc Tryd.prog W 0 spare held fuel 62 [v] = some x) :
    ∃ l, TermsAt W.heap.size W v l ∧ FitsTerms l := by
  rcases open_slice Tryd.underlying62 h with ⟨hcs, _⟩ | ⟨a, len, cap, m, n, D, Pl, hcs, _, hl, hm, hmm, _, hx⟩
  · simp only [List.cons.injEq, and_true] at hcs
    subst hcs
    exact ⟨[], ⟨none, 0, rfl, .inl rfl⟩, by simp, by simp⟩
  · simp only [List.cons.injEq, and_true] at hcs
    subst hcs
    have hle : len ≤ m := by rw [hmm]; split <;> omega
    rw [cellsTerm] at hx
    obtain ⟨f, hfn⟩ := choose_lt (α := PTerm) (n := len) (p := fun i y => ∃ kv, (∀ j, j < 2 → W.cell? ((a.add (i * 2)).add j) = [kv, Value.int .i64 y.many][j]?) ∧ IntsAt W.heap.size W kv y.kinds ∧ y.kinds.length ≤ 9223372036854775807) (fun i hi => by
      obtain ⟨cs', h1, h2⟩ := hx i (by omega)
      obtain ⟨y, kv, rfl, h3, h4⟩ := read_term h2
      obtain ⟨_, _, h7⟩ := World.cells?_some h1
      exact ⟨y, kv, h7, h3, h4⟩)
    refine ⟨(List.range len).map f, ⟨some a, cap, by simp, ?_⟩, by simp; unfold maxLen at hm; omega, ?_⟩
    · by_cases h0 : len = 0
      · left; simp [h0]
      · right
        obtain ⟨kv0, hc0, _⟩ := hfn 0 (by omega)
        have hc00 := hc0 0 (by omega)
        obtain ⟨b, off, spot⟩ := a
        have hspot : spot = none := by simpa [Addr.add] using World.cell?_spot hc00
        subst hspot
        refine ⟨b, off, rfl, lt_of_cell (a := ⟨b, off, none⟩) (by simpa [Addr.add] using hc00), fun j hj => ?_⟩
        simp only [List.length_map, List.length_range] at hj
        obtain ⟨kv, hc, hk, _⟩ := hfn j hj
        have hcj : ∀ i, i < 2 → W.cell? ⟨b, off + j * 2 + i, none⟩ = [kv, Value.int .i64 (f j).many][i]? := fun i hi => by
          rw [← hc i hi, Go.WideShapes.add_plain, Go.WideShapes.add_plain]
        have e : ((List.range len).map f)[j]?.getD termNil = f j := by simp [hj]
        rw [e]
        exact ⟨⟨kv, by simpa using hcj 0 (by omega), hk⟩, by simpa using hcj 1 (by omega)⟩
    · intro y hy
      obtain ⟨i, hi, rfl⟩ := List.mem_map.1 hy
      obtain ⟨_, _, _, h4⟩ := hfn i (by simpa using hi)
      exact h4

set_option maxRecDepth 100000 in
/-- A list of terms as a value, read. -/
theorem read_terms_val {r : Reach} {b0 : Nat} {v : Value} {D : DataW H} {p : List MemPlace} (hv : Value.okWide Tryd.prog W r b0 62 v) (h : DataW.Trod enc Tryd.prog W 0 spare held 62 v D p) :
    ∃ l, TermsAt W.heap.size W v l ∧ FitsTerms l := by
  obtain ⟨a, n, c, rfl⟩ := okWide_slice Tryd.underlying62 hv
  obtain ⟨m, hm⟩ := h
  exact read_terms (fuel := m) hm

set_option maxRecDepth 100000 in
/-- A list of numbers as a value, read. -/
theorem read_ints_val {r : Reach} {b0 : Nat} {v : Value} {D : DataW H} {p : List MemPlace} (hv : Value.okWide Tryd.prog W r b0 41 v) (h : DataW.Trod enc Tryd.prog W 0 spare held 41 v D p) :
    ∃ l, IntsAt W.heap.size W v l ∧ l.length ≤ 9223372036854775807 := by
  obtain ⟨a, n, c, rfl⟩ := okWide_slice Tryd.underlying41 hv
  obtain ⟨m, hm⟩ := h
  obtain ⟨ks, h1, h2, _⟩ := read_ints (fuel := m) hm
  exact ⟨ks, h1, h2⟩
end
end Go.Proofs.YtmcopoonnhcdjaaDoor
