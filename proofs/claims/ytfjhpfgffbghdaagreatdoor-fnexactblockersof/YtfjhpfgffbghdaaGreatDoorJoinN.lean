/-
  What a row's list of both tables gives.
  An argument that reads as a list of numbers lies in memory as one.
  An argument that reads as a document lies in memory as one.
  An argument that reads as holds lies in memory as such.
  An argument that reads as a table lies in memory as such.
-/
import Derived.Test.YtfjhpfgffbghdaaGreatDoorJoinK
import Derived.Stop.LaidErr
import Derived.Test.YtfjhpfgffbghdaaGreatDoorJoinA
import Derived.Test.YtfjhpfgffbghdaaGreatDoorRows
import Derived.Deep.Slices
import Derived.Lib.SmallJoins
import Derived.ChangeOld
import Derived.OpenShut
import Derived.ProofKit
import Derived.Test.YtfjhpfgffbghdaaGreatDoorImplTreeJ
import Derived.Test.YtfjhpfgffbghdaaGreatDoorJoinL
import Derived.Test.YtfjhpfgffbghdaaGreatDoorJoinE
import Derived.Test.YtfjhpfgffbghdaaGreatDoorJoinG
namespace Go.Proofs.YtfjhpfgffbghdaaGreatDoor
open Go.RowKit

theorem both_of_laid {W : World} {rest : List (String × DataW Unit)} (h : laidMet Tryz.prog (("loop.example/g00701/impl.fits", Rows.laid_loop_example_g00701_impl_fits) :: ("loop.example/g00701/impl.intents", Rows.laid_loop_example_g00701_impl_intents) :: rest) W) : FitsAt W ∧ IntentsAt W :=
  ⟨fitsAt_of_laid h, intentsAt_of_laid (laidMet.tail h)⟩
end Go.Proofs.YtfjhpfgffbghdaaGreatDoor

namespace Go.Proofs.YtfjhpfgffbghdaaGreatDoor
open Go.ChangeShapes Go.WideShapes Go.ChangeAt Go.RowKit Go.Deep Go.Joins

theorem cellsInt : Tryz.prog.cellsOf 3 = 1 := by kernel_rfl
theorem cellsString : Tryz.prog.cellsOf 9 = 1 := by kernel_rfl
theorem cellsInts : Tryz.prog.cellsOf 33 = 1 := by kernel_rfl
theorem lt_of_cell {w : World} {a : Addr} {v : Value} (h : w.cell? a = some v) : a.block < w.heap.size := by
  rcases Nat.lt_or_ge a.block w.heap.size with h' | h'
  · exact h'
  · simp [World.cell?, Array.getElem?_eq_none h'] at h

section
variable {H : Type} {enc : TypeId × Value → H} {W : World} {spare : Nat → Bool} {held : Bool}

/-- A list of numbers, read. -/
theorem read_ints {fuel : Nat} {v : Value} {x : DataW H × List MemPlace} (h : DataW.trod enc Tryz.prog W 0 spare held fuel 33 [v] = some x) :
    ∃ ks, IntsAt W.heap.size W v ks ∧ ks.length ≤ 9223372036854775807 ∧ ∀ k ∈ ks, Wf64 k := by
  rcases open_ints Tryz.underlying33 Tryz.underlying3 cellsInt h with ⟨hcs, _⟩ | ⟨a, len, cap, zs, hcs, _, hl, hm, hz, _, hcell, hwz⟩
  · simp only [List.cons.injEq, and_true] at hcs
    subst hcs
    exact ⟨[], ⟨none, 0, rfl, .inl rfl⟩, by simp, by simp⟩
  · simp only [List.cons.injEq, and_true] at hcs
    subst hcs
    have hle : len ≤ zs.length := by rw [hz]; split <;> omega
    refine ⟨zs.take len, ⟨some a, cap, by rw [List.length_take, Nat.min_eq_left hle], ?_⟩, by rw [List.length_take]; unfold maxLen at hm; omega, fun k hk => hwz k (List.mem_of_mem_take hk)⟩
    by_cases h0 : len = 0
    · left; simp [h0]
    · right
      obtain ⟨b, off, rfl, hc⟩ := ints_at hcell (by omega)
      refine ⟨b, off, rfl, lt_of_cell (hc 0 (by omega)), fun j hj => ?_⟩
      rw [List.length_take, Nat.min_eq_left hle] at hj
      rw [hc j (by omega)]
      simp [hj, List.getD]

theorem take_one_drop {cs : List Value} {i : Nat} (h : i < cs.length) : (cs.drop i).take 1 = [cs[i]] := by
  rw [List.drop_eq_getElem_cons h]; rfl
end
end Go.Proofs.YtfjhpfgffbghdaaGreatDoor

namespace Go.Proofs.YtfjhpfgffbghdaaGreatDoor
open Go.ChangeShapes Go.WideShapes Go.ChangeAt Go.RowKit Go.Deep Go.Joins

theorem cellsNode : Tryz.prog.cellsOf 81 = 5 := by kernel_rfl

section
variable {H : Type} {enc : TypeId × Value → H} {W : World} {spare : Nat → Bool} {held : Bool}

set_option maxRecDepth 100000 in
/-- Five cells that read as a node. -/
theorem read_node {fuel : Nat} {cs : List Value} {x : DataW H × List MemPlace} (h : DataW.trod enc Tryz.prog W 0 spare held fuel 81 cs = some x) :
    ∃ (y : PNode) (kv : Value), cs = [.int .i64 y.id, .int .i64 y.kind, .int .i64 y.attr, .string y.text, kv] ∧ IntsAt W.heap.size W kv y.kids ∧ y.kids.length ≤ 9223372036854775807 ∧ y.text.size ≤ 9223372036854775807 ∧ ∀ k ∈ y.kids, Wf64 k := by
  obtain ⟨xs, n, _, _, hlen, hxs, hf⟩ := DataW.trod_struct Tryz.underlying81 h
  rw [cellsNode] at hlen
  match cs, hlen with
  | [c0, c1, c2, c3, c4], _ =>
    have hget : ∀ i, i < 5 → ∃ y, xs[i]? = some y := fun i hi => ⟨xs[i]'(by rw [hxs]; exact hi), by simp⟩
    obtain ⟨y0, e0⟩ := hget 0 (by omega)
    obtain ⟨y1, e1⟩ := hget 1 (by omega)
    obtain ⟨y2, e2⟩ := hget 2 (by omega)
    obtain ⟨y3, e3⟩ := hget 3 (by omega)
    obtain ⟨y4, e4⟩ := hget 4 (by omega)
    have f0 : DataW.trod enc Tryz.prog W 0 spare held n 3 [c0] = some y0 := by rw [← e0, ← hf 0 _ rfl]; simp [cellsInt]
    have f1 : DataW.trod enc Tryz.prog W 0 spare held n 3 [c1] = some y1 := by rw [← e1, ← hf 1 _ rfl]; simp [cellsInt]
    have f2 : DataW.trod enc Tryz.prog W 0 spare held n 3 [c2] = some y2 := by rw [← e2, ← hf 2 _ rfl]; simp [cellsInt]
    have f3 : DataW.trod enc Tryz.prog W 0 spare held n 9 [c3] = some y3 := by rw [← e3, ← hf 3 _ rfl]; simp [cellsString]
    have f4 : DataW.trod enc Tryz.prog W 0 spare held n 33 [c4] = some y4 := by rw [← e4, ← hf 4 _ rfl]; simp [cellsInts]
    obtain ⟨n0, h0, _, _⟩ := DataW.trod_int Tryz.underlying3 f0
    obtain ⟨n1, h1, _, _⟩ := DataW.trod_int Tryz.underlying3 f1
    obtain ⟨n2, h2, _, _⟩ := DataW.trod_int Tryz.underlying3 f2
    obtain ⟨s3, h3, _, hs3⟩ := DataW.trod_string Tryz.underlying9 f3
    obtain ⟨ks, hk, hkl, hkw⟩ := read_ints f4
    simp only [List.cons.injEq, and_true] at h0 h1 h2 h3
    subst h0 h1 h2 h3
    exact ⟨⟨n0, n1, n2, s3, ks⟩, c4, rfl, hk, hkl, by unfold maxLen at hs3; exact hs3, hkw⟩

instance : Inhabited PNode := ⟨nodeNil⟩

/-- A list of nodes, read. -/
theorem read_nodes {fuel : Nat} {v : Value} {x : DataW H × List MemPlace} (h : DataW.trod enc Tryz.prog W 0 spare held fuel 22 [v] = some x) :
    ∃ l, NodesAt W.heap.size W v l ∧ l.length ≤ 9223372036854775807 ∧ (∀ y ∈ l, y.kids.length ≤ 9223372036854775807 ∧ y.text.size ≤ 9223372036854775807) ∧ ∀ y ∈ l, ∀ k ∈ y.kids, Wf64 k := by
  rcases open_slice Tryz.underlying22 h with ⟨hcs, _⟩ | ⟨a, len, cap, m, n, D, Pl, hcs, _, hl, hm, hmm, _, hx⟩
  · simp only [List.cons.injEq, and_true] at hcs
    subst hcs
    exact ⟨[], ⟨none, 0, rfl, .inl rfl⟩, by simp, by simp, by simp⟩
  · simp only [List.cons.injEq, and_true] at hcs
    subst hcs
    have hle : len ≤ m := by rw [hmm]; split <;> omega
    rw [cellsNode] at hx
    obtain ⟨f, hfn⟩ := choose_lt (α := PNode) (n := len) (p := fun i y => ∃ kv, (∀ j, j < 5 → W.cell? ((a.add (i * 5)).add j) = [Value.int .i64 y.id, .int .i64 y.kind, .int .i64 y.attr, .string y.text, kv][j]?) ∧ IntsAt W.heap.size W kv y.kids ∧ y.kids.length ≤ 9223372036854775807 ∧ y.text.size ≤ 9223372036854775807 ∧ ∀ k ∈ y.kids, Wf64 k) (fun i hi => by
      obtain ⟨cs', h1, h2⟩ := hx i (by omega)
      obtain ⟨y, kv, rfl, h3, h4, h5, h6⟩ := read_node h2
      obtain ⟨_, _, h7⟩ := World.cells?_some h1
      exact ⟨y, kv, h7, h3, h4, h5, h6⟩)
    refine ⟨(List.range len).map f, ⟨some a, cap, by simp, ?_⟩, by simp; unfold maxLen at hm; omega, ?_, ?_⟩
    · by_cases h0 : len = 0
      · left; simp [h0]
      · right
        obtain ⟨kv0, hc0, _⟩ := hfn 0 (by omega)
        have hc00 := hc0 0 (by omega)
        obtain ⟨b, off, spot⟩ := a
        have hspot : spot = none := by simpa [Addr.add] using World.cell?_spot hc00
        subst hspot
        refine ⟨b, off, rfl, lt_of_cell (a := ⟨b, off, none⟩) (by simpa [Addr.add] using hc00), fun j hj => ?_⟩
        simp only [List.length_map, List.length_range] at hj
        obtain ⟨kv, hc, hk, _⟩ := hfn j hj
        have hcj : ∀ i, i < 5 → W.cell? ⟨b, off + j * 5 + i, none⟩ = [Value.int .i64 (f j).id, .int .i64 (f j).kind, .int .i64 (f j).attr, .string (f j).text, kv][i]? := fun i hi => by
          rw [← hc i hi, Go.WideShapes.add_plain, Go.WideShapes.add_plain]
        have e : ((List.range len).map f)[j]?.getD nodeNil = f j := by simp [hj]
        rw [e]
        exact ⟨by simpa using hcj 0 (by omega), by simpa using hcj 1 (by omega), by simpa using hcj 2 (by omega), by simpa using hcj 3 (by omega), kv, by simpa using hcj 4 (by omega), hk⟩
    · intro y hy
      obtain ⟨i, hi, rfl⟩ := List.mem_map.1 hy
      obtain ⟨_, _, _, h4, h5, _⟩ := hfn i (by simpa using hi)
      exact ⟨h4, h5⟩
    · intro y hy
      obtain ⟨i, hi, rfl⟩ := List.mem_map.1 hy
      obtain ⟨_, _, _, _, _, h6⟩ := hfn i (by simpa using hi)
      exact h6

set_option maxRecDepth 100000 in
/-- A document, read. -/
theorem read_doc {r : Reach} {b0 : Nat} {v : Value} {D : DataW H} {p : List MemPlace} (hv : Value.okWide Tryz.prog W r b0 24 v) (h : DataW.Trod enc Tryz.prog W 0 spare held 24 v D p) :
    ∃ d, DocAt W.heap.size W v d ∧ Fits d ∧ WfDoc d := by
  obtain ⟨v0, v1, v2, y0, y1, y2, n, rfl, _, _, h0, h1, h2⟩ := open_agg3 Tryz.underlying24 (by kernel_rfl) (by kernel_rfl) hv h
  obtain ⟨n0, e0, _, w0⟩ := DataW.trod_int Tryz.underlying3 h0
  obtain ⟨n1, e1, _, _⟩ := DataW.trod_int Tryz.underlying3 h1
  obtain ⟨l, hl, hlen, hn, hk⟩ := read_nodes h2
  simp only [List.cons.injEq, and_true] at e0 e1
  subst e0 e1
  exact ⟨⟨n0, n1, l⟩, ⟨v2, rfl, hl⟩, ⟨hlen, hn⟩, ⟨w0, hk⟩⟩
end
end Go.Proofs.YtfjhpfgffbghdaaGreatDoor

namespace Go.Proofs.YtfjhpfgffbghdaaGreatDoor
open Go.ChangeShapes Go.WideShapes Go.ChangeAt Go.RowKit Go.Deep Go.Joins

theorem cellsHold : Tryz.prog.cellsOf 90 = 3 := by kernel_rfl

section
variable {H : Type} {enc : TypeId × Value → H} {W : World} {spare : Nat → Bool} {held : Bool}

instance : Inhabited PHold := ⟨holdNil⟩

set_option maxRecDepth 100000 in
/-- Three cells that read as a hold. -/
theorem read_hold {fuel : Nat} {cs : List Value} {x : DataW H × List MemPlace} (h : DataW.trod enc Tryz.prog W 0 spare held fuel 90 cs = some x) :
    ∃ y : PHold, cs = [.int .i64 y.session, .int .i64 y.node, .int .i64 y.mode] := by
  obtain ⟨xs, n, _, _, hlen, hxs, hf⟩ := DataW.trod_struct Tryz.underlying90 h
  rw [cellsHold] at hlen
  match cs, hlen with
  | [c0, c1, c2], _ =>
    have hget : ∀ i, i < 3 → ∃ y, xs[i]? = some y := fun i hi => ⟨xs[i]'(by rw [hxs]; exact hi), by simp⟩
    obtain ⟨y0, e0⟩ := hget 0 (by omega)
    obtain ⟨y1, e1⟩ := hget 1 (by omega)
    obtain ⟨y2, e2⟩ := hget 2 (by omega)
    have f0 : DataW.trod enc Tryz.prog W 0 spare held n 3 [c0] = some y0 := by rw [← e0, ← hf 0 _ rfl]; simp [cellsInt]
    have f1 : DataW.trod enc Tryz.prog W 0 spare held n 3 [c1] = some y1 := by rw [← e1, ← hf 1 _ rfl]; simp [cellsInt]
    have f2 : DataW.trod enc Tryz.prog W 0 spare held n 3 [c2] = some y2 := by rw [← e2, ← hf 2 _ rfl]; simp [cellsInt]
    obtain ⟨n0, h0, _, _⟩ := DataW.trod_int Tryz.underlying3 f0
    obtain ⟨n1, h1, _, _⟩ := DataW.trod_int Tryz.underlying3 f1
    obtain ⟨n2, h2, _, _⟩ := DataW.trod_int Tryz.underlying3 f2
    simp only [List.cons.injEq, and_true] at h0 h1 h2
    subst h0 h1 h2
    exact ⟨⟨n0, n1, n2⟩, rfl⟩

set_option maxRecDepth 100000 in
/-- A hold as a value, read. -/
theorem read_hold_val {r : Reach} {b0 : Nat} {v : Value} {D : DataW H} {p : List MemPlace} (hv : Value.okWide Tryz.prog W r b0 90 v) (h : DataW.Trod enc Tryz.prog W 0 spare held 90 v D p) :
    ∃ y : PHold, v = holdVal y := by
  obtain ⟨v0, v1, v2, y0, y1, y2, n, rfl, _, _, h0, h1, h2⟩ := open_agg3 Tryz.underlying90 (by kernel_rfl) (by kernel_rfl) hv h
  obtain ⟨n0, e0, _, _⟩ := DataW.trod_int Tryz.underlying3 h0
  obtain ⟨n1, e1, _, _⟩ := DataW.trod_int Tryz.underlying3 h1
  obtain ⟨n2, e2, _, _⟩ := DataW.trod_int Tryz.underlying3 h2
  simp only [List.cons.injEq, and_true] at e0 e1 e2
  subst e0 e1 e2
  exact ⟨⟨n0, n1, n2⟩, rfl⟩

set_option maxRecDepth 100000 in
/-- A list of holds, read. -/
theorem read_holds {fuel : Nat} {v : Value} {x : DataW H × List MemPlace} (h : DataW.trod enc Tryz.prog W 0 spare held fuel 25 [v] = some x) :
    ∃ l, HoldsAt W.heap.size W v l ∧ l.length ≤ 9223372036854775807 := by
  rcases open_slice Tryz.underlying25 h with ⟨hcs, _⟩ | ⟨a, len, cap, m, n, D, Pl, hcs, _, hl, hm, hmm, _, hx⟩
  · simp only [List.cons.injEq, and_true] at hcs
    subst hcs
    exact ⟨[], ⟨none, 0, rfl, .inl rfl⟩, by simp⟩
  · simp only [List.cons.injEq, and_true] at hcs
    subst hcs
    have hle : len ≤ m := by rw [hmm]; split <;> omega
    rw [cellsHold] at hx
    obtain ⟨f, hfn⟩ := choose_lt (α := PHold) (n := len) (p := fun i y => ∀ j, j < 3 → W.cell? ((a.add (i * 3)).add j) = [Value.int .i64 y.session, .int .i64 y.node, .int .i64 y.mode][j]?) (fun i hi => by
      obtain ⟨cs', h1, h2⟩ := hx i (by omega)
      obtain ⟨y, rfl⟩ := read_hold h2
      obtain ⟨_, _, h7⟩ := World.cells?_some h1
      exact ⟨y, h7⟩)
    refine ⟨(List.range len).map f, ⟨some a, cap, by simp, ?_⟩, by simp; unfold maxLen at hm; omega⟩
    by_cases h0 : len = 0
    · left; simp [h0]
    · right
      have hc00 := hfn 0 (by omega) 0 (by omega)
      obtain ⟨b, off, spot⟩ := a
      have hspot : spot = none := by simpa [Addr.add] using World.cell?_spot hc00
      subst hspot
      refine ⟨b, off, rfl, lt_of_cell (a := ⟨b, off, none⟩) (by simpa [Addr.add] using hc00), fun j hj => ?_⟩
      simp only [List.length_map, List.length_range] at hj
      have hc := hfn j hj
      have hcj : ∀ i, i < 3 → W.cell? ⟨b, off + j * 3 + i, none⟩ = [Value.int .i64 (f j).session, .int .i64 (f j).node, .int .i64 (f j).mode][i]? := fun i hi => by
        rw [← hc i hi, Go.WideShapes.add_plain, Go.WideShapes.add_plain]
      have e : ((List.range len).map f)[j]?.getD holdNil = f j := by simp [hj]
      rw [e]
      exact ⟨by simpa using hcj 0 (by omega), by simpa using hcj 1 (by omega), by simpa using hcj 2 (by omega)⟩

set_option maxRecDepth 100000 in
/-- A list of holds as a value, read. -/
theorem read_holds_val {r : Reach} {b0 : Nat} {v : Value} {D : DataW H} {p : List MemPlace} (hv : Value.okWide Tryz.prog W r b0 25 v) (h : DataW.Trod enc Tryz.prog W 0 spare held 25 v D p) :
    ∃ l, HoldsAt W.heap.size W v l ∧ l.length ≤ 9223372036854775807 := by
  obtain ⟨a, n, c, rfl⟩ := okWide_slice Tryz.underlying25 hv
  obtain ⟨m, hm⟩ := h
  exact read_holds (fuel := m) hm
end
end Go.Proofs.YtfjhpfgffbghdaaGreatDoor

namespace Go.Proofs.YtfjhpfgffbghdaaGreatDoor
open Go.ChangeShapes Go.WideShapes Go.ChangeAt Go.RowKit Go.Deep Go.Joins

section
variable {H : Type} {enc : TypeId × Value → H} {W : World} {spare : Nat → Bool} {held : Bool}

set_option maxRecDepth 100000 in
theorem read_table {r : Reach} {b0 : Nat} {v : Value} {D : DataW H} {p : List MemPlace} (hv : Value.okWide Tryz.prog W r b0 27 v) (h : DataW.Trod enc Tryz.prog W 0 spare held 27 v D p) :
    ∃ t, TabAt W.heap.size W v t ∧ FitsT t := by
  obtain ⟨v0, v1, y0, y1, n, rfl, _, _, h0, h1⟩ := open_agg2 Tryz.underlying27 (by kernel_rfl) (by kernel_rfl) hv h
  obtain ⟨l0, a0, b0⟩ := read_holds h0
  obtain ⟨l1, a1, b1⟩ := read_holds h1
  exact ⟨⟨l0, l1⟩, ⟨v0, v1, rfl, a0, a1⟩, b0, b1⟩
end
end Go.Proofs.YtfjhpfgffbghdaaGreatDoor
