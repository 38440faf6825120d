/-
  An argument that reads as a list of numbers lies in memory as one.
  An argument that reads as terms lies in memory as such.
  An argument that reads as rules lies in memory as such.
  An argument that reads as a document lies in memory as one.
-/
import Derived.Test.YtpkblnponeonkaaDoorTreeRep
import Derived.Test.YtpkblnponeonkaaDoorRows
import Derived.Deep.Slices
import Derived.Lib.SmallJoins
import Derived.ChangeOld
import Derived.OpenShut
import Derived.ProofKit
import Derived.Test.YtpkblnponeonkaaDoorJoinE
import Derived.Test.YtpkblnponeonkaaDoorImplTree
import Derived.Test.YtpkblnponeonkaaDoorJoinF
namespace Go.Proofs.YtpkblnponeonkaaDoor
open Go.ChangeShapes Go.WideShapes Go.ChangeAt Go.RowKit Go.Deep Go.Joins

theorem cellsInt : Tryd.prog.cellsOf 3 = 1 := by kernel_rfl
theorem cellsString : Tryd.prog.cellsOf 9 = 1 := by kernel_rfl
theorem cellsInts : Tryd.prog.cellsOf 41 = 1 := by kernel_rfl
theorem lt_of_cell {w : World} {a : Addr} {v : Value} (h : w.cell? a = some v) : a.block < w.heap.size := by
  rcases Nat.lt_or_ge a.block w.heap.size with h' | h'
  · exact h'
  · simp [World.cell?, Array.getElem?_eq_none h'] at h

section
variable {H : Type} {enc : TypeId × Value → H} {W : World} {spare : Nat → Bool} {held : Bool}

/-- A list of numbers, read. -/
theorem read_ints {fuel : Nat} {v : Value} {x : DataW H × List MemPlace} (h : DataW.trod enc Tryd.prog W 0 spare held fuel 41 [v] = some x) :
    ∃ ks, IntsAt W.heap.size W v ks ∧ ks.length ≤ 9223372036854775807 ∧ ∀ k ∈ ks, Wf64 k := by
  rcases open_ints Tryd.underlying41 Tryd.underlying3 cellsInt h with ⟨hcs, _⟩ | ⟨a, len, cap, zs, hcs, _, hl, hm, hz, _, hcell, hwz⟩
  · simp only [List.cons.injEq, and_true] at hcs
    subst hcs
    exact ⟨[], ⟨none, 0, rfl, .inl rfl⟩, by simp, by simp⟩
  · simp only [List.cons.injEq, and_true] at hcs
    subst hcs
    have hle : len ≤ zs.length := by rw [hz]; split <;> omega
    refine ⟨zs.take len, ⟨some a, cap, by rw [List.length_take, Nat.min_eq_left hle], ?_⟩, by rw [List.length_take]; unfold maxLen at hm; omega, fun k hk => hwz k (List.mem_of_mem_take hk)⟩
    by_cases h0 : len = 0
    · left; simp [h0]
    · right
      obtain ⟨b, off, rfl, hc⟩ := ints_at hcell (by omega)
      refine ⟨b, off, rfl, lt_of_cell (hc 0 (by omega)), fun j hj => ?_⟩
      rw [List.length_take, Nat.min_eq_left hle] at hj
      rw [hc j (by omega)]
      simp [hj, List.getD]

theorem take_one_drop {cs : List Value} {i : Nat} (h : i < cs.length) : (cs.drop i).take 1 = [cs[i]] := by
  rw [List.drop_eq_getElem_cons h]; rfl
end
end Go.Proofs.YtpkblnponeonkaaDoor

namespace Go.Proofs.YtpkblnponeonkaaDoor
open Go.ChangeShapes Go.WideShapes Go.ChangeAt Go.RowKit Go.Deep Go.Joins

theorem cellsTerm : Tryd.prog.cellsOf 153 = 2 := by kernel_rfl

section
variable {H : Type} {enc : TypeId × Value → H} {W : World} {spare : Nat → Bool} {held : Bool}

set_option maxRecDepth 100000 in
/-- Two cells that read as a term. -/
theorem read_term {fuel : Nat} {cs : List Value} {x : DataW H × List MemPlace} (h : DataW.trod enc Tryd.prog W 0 spare held fuel 153 cs = some x) :
    ∃ (y : PTerm) (kv : Value), cs = [kv, .int .i64 y.many] ∧ IntsAt W.heap.size W kv y.kinds ∧ y.kinds.length ≤ 9223372036854775807 := by
  obtain ⟨xs, n, _, _, hlen, hxs, hf⟩ := DataW.trod_struct Tryd.underlying153 h
  rw [cellsTerm] at hlen
  match cs, hlen with
  | [c0, c1], _ =>
    have hget : ∀ i, i < 2 → ∃ y, xs[i]? = some y := fun i hi => ⟨xs[i]'(by rw [hxs]; exact hi), by simp⟩
    obtain ⟨y0, e0⟩ := hget 0 (by omega)
    obtain ⟨y1, e1⟩ := hget 1 (by omega)
    have f0 : DataW.trod enc Tryd.prog W 0 spare held n 41 [c0] = some y0 := by rw [← e0, ← hf 0 _ rfl]; simp [cellsInts]
    have f1 : DataW.trod enc Tryd.prog W 0 spare held n 3 [c1] = some y1 := by rw [← e1, ← hf 1 _ rfl]; simp [cellsInt]
    obtain ⟨n1, h1, _, _⟩ := DataW.trod_int Tryd.underlying3 f1
    obtain ⟨ks, hk, hkl, _⟩ := read_ints f0
    simp only [List.cons.injEq, and_true] at h1
    subst h1
    exact ⟨⟨ks, n1⟩, c0, rfl, hk, hkl⟩

instance : Inhabited PTerm := ⟨termNil⟩

/-- A list of terms, read. -/
theorem read_terms {fuel : Nat} {v : Value} {x : DataW H × List MemPlace} (h : DataW.trod enc Tryd.prog W 0 spare held fuel 77 [v] = some x) :
    ∃ l, TermsAt W.heap.size W v l ∧ FitsTerms l := by
  rcases open_slice Tryd.underlying77 h with ⟨hcs, _⟩ | ⟨a, len, cap, m, n, D, Pl, hcs, _, hl, hm, hmm, _, hx⟩
  · simp only [List.cons.injEq, and_true] at hcs
    subst hcs
    exact ⟨[], ⟨none, 0, rfl, .inl rfl⟩, by simp, by simp⟩
  · simp only [List.cons.injEq, and_true] at hcs
    subst hcs
    have hle : len ≤ m := by rw [hmm]; split <;> omega
    rw [cellsTerm] at hx
    obtain ⟨f, hfn⟩ := choose_lt (α := PTerm) (n := len) (p := fun i y => ∃ kv, (∀ j, j < 2 → W.cell? ((a.add (i * 2)).add j) = [kv, Value.int .i64 y.many][j]?) ∧ IntsAt W.heap.size W kv y.kinds ∧ y.kinds.length ≤ 9223372036854775807) (fun i hi => by
      obtain ⟨cs', h1, h2⟩ := hx i (by omega)
      obtain ⟨y, kv, rfl, h3, h4⟩ := read_term h2
      obtain ⟨_, _, h7⟩ := World.cells?_some h1
      exact ⟨y, kv, h7, h3, h4⟩)
    refine ⟨(List.range len).map f, ⟨some a, cap, by simp, ?_⟩, by simp; unfold maxLen at hm; omega, ?_⟩
    · by_cases h0 : len = 0
      · left; simp [h0]
      · right
        obtain ⟨kv0, hc0, _⟩ := hfn 0 (by omega)
        have hc00 := hc0 0 (by omega)
        obtain ⟨b, off, spot⟩ := a
        have hspot : spot = none := by simpa [Addr.add] using World.cell?_spot hc00
        subst hspot
        refine ⟨b, off, rfl, lt_of_cell (a := ⟨b, off, none⟩) (by simpa [Addr.add] using hc00), fun j hj => ?_⟩
        simp only [List.length_map, List.length_range] at hj
        obtain ⟨kv, hc, hk, _⟩ := hfn j hj
        have hcj : ∀ i, i < 2 → W.cell? ⟨b, off + j * 2 + i, none⟩ = [kv, Value.int .i64 (f j).many][i]? := fun i hi => by
          rw [← hc i hi, Go.WideShapes.add_plain, Go.WideShapes.add_plain]
        have e : ((List.range len).map f)[j]?.getD termNil = f j := by simp [hj]
        rw [e]
        exact ⟨⟨kv, by simpa using hcj 0 (by omega), hk⟩, by simpa using hcj 1 (by omega)⟩
    · intro y hy
      obtain ⟨i, hi, rfl⟩ := List.mem_map.1 hy
      obtain ⟨_, _, _, h4⟩ := hfn i (by simpa using hi)
      exact h4

set_option maxRecDepth 100000 in
/-- A list of terms as a value, read. -/
theorem read_terms_val {r : Reach} {b0 : Nat} {v : Value} {D : DataW H} {p : List MemPlace} (hv : Value.okWide Tryd.prog W r b0 77 v) (h : DataW.Trod enc Tryd.prog W 0 spare held 77 v D p) :
    ∃ l, TermsAt W.heap.size W v l ∧ FitsTerms l := by
  obtain ⟨a, n, c, rfl⟩ := okWide_slice Tryd.underlying77 hv
  obtain ⟨m, hm⟩ := h
  exact read_terms (fuel := m) hm

set_option maxRecDepth 100000 in
/-- A list of numbers as a value, read. -/
theorem read_ints_val {r : Reach} {b0 : Nat} {v : Value} {D : DataW H} {p : List MemPlace} (hv : Value.okWide Tryd.prog W r b0 41 v) (h : DataW.Trod enc Tryd.prog W 0 spare held 41 v D p) :
    ∃ l, IntsAt W.heap.size W v l ∧ l.length ≤ 9223372036854775807 := by
  obtain ⟨a, n, c, rfl⟩ := okWide_slice Tryd.underlying41 hv
  obtain ⟨m, hm⟩ := h
  obtain ⟨ks, h1, h2, _⟩ := read_ints (fuel := m) hm
  exact ⟨ks, h1, h2⟩
end
end Go.Proofs.YtpkblnponeonkaaDoor

namespace Go.Proofs.YtpkblnponeonkaaDoor
open Go.ChangeShapes Go.WideShapes Go.ChangeAt Go.RowKit Go.Deep Go.Joins

theorem cellsBool : Tryd.prog.cellsOf 4 = 1 := by kernel_rfl
theorem cellsTerms : Tryd.prog.cellsOf 77 = 1 := by kernel_rfl
theorem cellsRule : Tryd.prog.cellsOf 79 = 3 := by kernel_rfl

section
variable {H : Type} {enc : TypeId × Value → H} {W : World} {spare : Nat → Bool} {held : Bool}

instance : Inhabited PRule := ⟨ruleNil⟩

set_option maxRecDepth 100000 in
/-- Three cells that read as a rule. -/
theorem read_rule {fuel : Nat} {cs : List Value} {x : DataW H × List MemPlace} (h : DataW.trod enc Tryd.prog W 0 spare held fuel 79 cs = some x) :
    ∃ (y : PRule) (kv : Value), cs = [.string y.name, .bool y.leaf, kv] ∧ TermsAt W.heap.size W kv y.terms ∧ FitsRule y := by
  obtain ⟨xs, n, _, _, hlen, hxs, hf⟩ := DataW.trod_struct Tryd.underlying79 h
  rw [cellsRule] at hlen
  match cs, hlen with
  | [c0, c1, c2], _ =>
    have hget : ∀ i, i < 3 → ∃ y, xs[i]? = some y := fun i hi => ⟨xs[i]'(by rw [hxs]; exact hi), by simp⟩
    obtain ⟨y0, e0⟩ := hget 0 (by omega)
    obtain ⟨y1, e1⟩ := hget 1 (by omega)
    obtain ⟨y2, e2⟩ := hget 2 (by omega)
    have f0 : DataW.trod enc Tryd.prog W 0 spare held n 9 [c0] = some y0 := by rw [← e0, ← hf 0 _ rfl]; simp [cellsString]
    have f1 : DataW.trod enc Tryd.prog W 0 spare held n 4 [c1] = some y1 := by rw [← e1, ← hf 1 _ rfl]; simp [cellsBool]
    have f2 : DataW.trod enc Tryd.prog W 0 spare held n 77 [c2] = some y2 := by rw [← e2, ← hf 2 _ rfl]; simp [cellsTerms]
    obtain ⟨s0, h0, _, hs0⟩ := DataW.trod_string Tryd.underlying9 f0
    obtain ⟨n1, h1, _⟩ := DataW.trod_bool Tryd.underlying4 f1
    obtain ⟨ts, hk, hkl⟩ := read_terms f2
    simp only [List.cons.injEq, and_true] at h0 h1
    subst h0 h1
    exact ⟨⟨s0, n1, ts⟩, c2, rfl, hk, ⟨by unfold maxLen at hs0; exact hs0, hkl⟩⟩

/-- A list of rules, read. -/
theorem read_rules {fuel : Nat} {v : Value} {x : DataW H × List MemPlace} (h : DataW.trod enc Tryd.prog W 0 spare held fuel 35 [v] = some x) :
    ∃ l, RulesAt W.heap.size W v l ∧ FitsRules l := by
  rcases open_slice Tryd.underlying35 h with ⟨hcs, _⟩ | ⟨a, len, cap, m, n, D, Pl, hcs, _, hl, hm, hmm, _, hx⟩
  · simp only [List.cons.injEq, and_true] at hcs
    subst hcs
    exact ⟨[], ⟨none, 0, rfl, .inl rfl⟩, by simp, by simp⟩
  · simp only [List.cons.injEq, and_true] at hcs
    subst hcs
    have hle : len ≤ m := by rw [hmm]; split <;> omega
    rw [cellsRule] at hx
    obtain ⟨f, hfn⟩ := choose_lt (α := PRule) (n := len) (p := fun i y => ∃ kv, (∀ j, j < 3 → W.cell? ((a.add (i * 3)).add j) = [Value.string y.name, .bool y.leaf, kv][j]?) ∧ TermsAt W.heap.size W kv y.terms ∧ FitsRule y) (fun i hi => by
      obtain ⟨cs', h1, h2⟩ := hx i (by omega)
      obtain ⟨y, kv, rfl, h3, h4⟩ := read_rule h2
      obtain ⟨_, _, h7⟩ := World.cells?_some h1
      exact ⟨y, kv, h7, h3, h4⟩)
    refine ⟨(List.range len).map f, ⟨some a, cap, by simp, ?_⟩, by simp; unfold maxLen at hm; omega, ?_⟩
    · by_cases h0 : len = 0
      · left; simp [h0]
      · right
        obtain ⟨kv0, hc0, _⟩ := hfn 0 (by omega)
        have hc00 := hc0 0 (by omega)
        obtain ⟨b, off, spot⟩ := a
        have hspot : spot = none := by simpa [Addr.add] using World.cell?_spot hc00
        subst hspot
        refine ⟨b, off, rfl, lt_of_cell (a := ⟨b, off, none⟩) (by simpa [Addr.add] using hc00), fun j hj => ?_⟩
        simp only [List.length_map, List.length_range] at hj
        obtain ⟨kv, hc, hk, _⟩ := hfn j hj
        have hcj : ∀ i, i < 3 → W.cell? ⟨b, off + j * 3 + i, none⟩ = [Value.string (f j).name, .bool (f j).leaf, kv][i]? := fun i hi => by
          rw [← hc i hi, Go.WideShapes.add_plain, Go.WideShapes.add_plain]
        have e : ((List.range len).map f)[j]?.getD ruleNil = f j := by simp [hj]
        rw [e]
        exact ⟨by simpa using hcj 0 (by omega), by simpa using hcj 1 (by omega), kv, by simpa using hcj 2 (by omega), hk⟩
    · intro y hy
      obtain ⟨i, hi, rfl⟩ := List.mem_map.1 hy
      obtain ⟨_, _, _, h4⟩ := hfn i (by simpa using hi)
      exact h4

set_option maxRecDepth 100000 in
/-- A rule as a value, read. -/
theorem read_rule_val {r : Reach} {b0 : Nat} {v : Value} {D : DataW H} {p : List MemPlace} (hv : Value.okWide Tryd.prog W r b0 79 v) (h : DataW.Trod enc Tryd.prog W 0 spare held 79 v D p) :
    ∃ y, RuleVal W.heap.size W v y ∧ FitsRule y := by
  obtain ⟨v0, v1, v2, y0, y1, y2, n, rfl, _, _, h0, h1, h2⟩ := open_agg3 Tryd.underlying79 (by kernel_rfl) (by kernel_rfl) hv h
  obtain ⟨s0, e0, _, hs0⟩ := DataW.trod_string Tryd.underlying9 h0
  obtain ⟨n1, e1, _⟩ := DataW.trod_bool Tryd.underlying4 h1
  obtain ⟨l, hl, hf⟩ := read_terms h2
  simp only [List.cons.injEq, and_true] at e0 e1
  subst e0 e1
  exact ⟨⟨s0, n1, l⟩, ⟨v2, rfl, hl⟩, ⟨by unfold maxLen at hs0; exact hs0, hf⟩⟩

set_option maxRecDepth 100000 in
/-- A list of rules as a value, read. -/
theorem read_rules_val {r : Reach} {b0 : Nat} {v : Value} {D : DataW H} {p : List MemPlace} (hv : Value.okWide Tryd.prog W r b0 35 v) (h : DataW.Trod enc Tryd.prog W 0 spare held 35 v D p) :
    ∃ l, RulesAt W.heap.size W v l ∧ FitsRules l := by
  obtain ⟨a, n, c, rfl⟩ := okWide_slice Tryd.underlying35 hv
  obtain ⟨m, hm⟩ := h
  exact read_rules (fuel := m) hm
end
end Go.Proofs.YtpkblnponeonkaaDoor

namespace Go.Proofs.YtpkblnponeonkaaDoor
open Go.ChangeShapes Go.WideShapes Go.ChangeAt Go.RowKit Go.Deep Go.Joins

theorem cellsNode : Tryd.prog.cellsOf 127 = 5 := by kernel_rfl

section
variable {H : Type} {enc : TypeId × Value → H} {W : World} {spare : Nat → Bool} {held : Bool}

set_option maxRecDepth 100000 in
/-- Five cells that read as a node. -/
theorem read_node {fuel : Nat} {cs : List Value} {x : DataW H × List MemPlace} (h : DataW.trod enc Tryd.prog W 0 spare held fuel 127 cs = some x) :
    ∃ (y : PNode) (kv : Value), cs = [.int .i64 y.id, .int .i64 y.kind, .int .i64 y.attr, .string y.text, kv] ∧ IntsAt W.heap.size W kv y.kids ∧ y.kids.length ≤ 9223372036854775807 ∧ y.text.size ≤ 9223372036854775807 ∧ ∀ k ∈ y.kids, Wf64 k := by
  obtain ⟨xs, n, _, _, hlen, hxs, hf⟩ := DataW.trod_struct Tryd.underlying127 h
  rw [cellsNode] at hlen
  match cs, hlen with
  | [c0, c1, c2, c3, c4], _ =>
    have hget : ∀ i, i < 5 → ∃ y, xs[i]? = some y := fun i hi => ⟨xs[i]'(by rw [hxs]; exact hi), by simp⟩
    obtain ⟨y0, e0⟩ := hget 0 (by omega)
    obtain ⟨y1, e1⟩ := hget 1 (by omega)
    obtain ⟨y2, e2⟩ := hget 2 (by omega)
    obtain ⟨y3, e3⟩ := hget 3 (by omega)
    obtain ⟨y4, e4⟩ := hget 4 (by omega)
    have f0 : DataW.trod enc Tryd.prog W 0 spare held n 3 [c0] = some y0 := by rw [← e0, ← hf 0 _ rfl]; simp [cellsInt]
    have f1 : DataW.trod enc Tryd.prog W 0 spare held n 3 [c1] = some y1 := by rw [← e1, ← hf 1 _ rfl]; simp [cellsInt]
    have f2 : DataW.trod enc Tryd.prog W 0 spare held n 3 [c2] = some y2 := by rw [← e2, ← hf 2 _ rfl]; simp [cellsInt]
    have f3 : DataW.trod enc Tryd.prog W 0 spare held n 9 [c3] = some y3 := by rw [← e3, ← hf 3 _ rfl]; simp [cellsString]
    have f4 : DataW.trod enc Tryd.prog W 0 spare held n 41 [c4] = some y4 := by rw [← e4, ← hf 4 _ rfl]; simp [cellsInts]
    obtain ⟨n0, h0, _, _⟩ := DataW.trod_int Tryd.underlying3 f0
    obtain ⟨n1, h1, _, _⟩ := DataW.trod_int Tryd.underlying3 f1
    obtain ⟨n2, h2, _, _⟩ := DataW.trod_int Tryd.underlying3 f2
    obtain ⟨s3, h3, _, hs3⟩ := DataW.trod_string Tryd.underlying9 f3
    obtain ⟨ks, hk, hkl, hkw⟩ := read_ints f4
    simp only [List.cons.injEq, and_true] at h0 h1 h2 h3
    subst h0 h1 h2 h3
    exact ⟨⟨n0, n1, n2, s3, ks⟩, c4, rfl, hk, hkl, by unfold maxLen at hs3; exact hs3, hkw⟩

instance : Inhabited PNode := ⟨nodeNil⟩

/-- A list of nodes, read. -/
theorem read_nodes {fuel : Nat} {v : Value} {x : DataW H × List MemPlace} (h : DataW.trod enc Tryd.prog W 0 spare held fuel 36 [v] = some x) :
    ∃ l, NodesAt W.heap.size W v l ∧ l.length ≤ 9223372036854775807 ∧ (∀ y ∈ l, y.kids.length ≤ 9223372036854775807 ∧ y.text.size ≤ 9223372036854775807) ∧ ∀ y ∈ l, ∀ k ∈ y.kids, Wf64 k := by
  rcases open_slice Tryd.underlying36 h with ⟨hcs, _⟩ | ⟨a, len, cap, m, n, D, Pl, hcs, _, hl, hm, hmm, _, hx⟩
  · simp only [List.cons.injEq, and_true] at hcs
    subst hcs
    exact ⟨[], ⟨none, 0, rfl, .inl rfl⟩, by simp, by simp, by simp⟩
  · simp only [List.cons.injEq, and_true] at hcs
    subst hcs
    have hle : len ≤ m := by rw [hmm]; split <;> omega
    rw [cellsNode] at hx
    obtain ⟨f, hfn⟩ := choose_lt (α := PNode) (n := len) (p := fun i y => ∃ kv, (∀ j, j < 5 → W.cell? ((a.add (i * 5)).add j) = [Value.int .i64 y.id, .int .i64 y.kind, .int .i64 y.attr, .string y.text, kv][j]?) ∧ IntsAt W.heap.size W kv y.kids ∧ y.kids.length ≤ 9223372036854775807 ∧ y.text.size ≤ 9223372036854775807 ∧ ∀ k ∈ y.kids, Wf64 k) (fun i hi => by
      obtain ⟨cs', h1, h2⟩ := hx i (by omega)
      obtain ⟨y, kv, rfl, h3, h4, h5, h6⟩ := read_node h2
      obtain ⟨_, _, h7⟩ := World.cells?_some h1
      exact ⟨y, kv, h7, h3, h4, h5, h6⟩)
    refine ⟨(List.range len).map f, ⟨some a, cap, by simp, ?_⟩, by simp; unfold maxLen at hm; omega, ?_, ?_⟩
    · by_cases h0 : len = 0
      · left; simp [h0]
      · right
        obtain ⟨kv0, hc0, _⟩ := hfn 0 (by omega)
        have hc00 := hc0 0 (by omega)
        obtain ⟨b, off, spot⟩ := a
        have hspot : spot = none := by simpa [Addr.add] using World.cell?_spot hc00
        subst hspot
        refine ⟨b, off, rfl, lt_of_cell (a := ⟨b, off, none⟩) (by simpa [Addr.add] using hc00), fun j hj => ?_⟩
        simp only [List.length_map, List.length_range] at hj
        obtain ⟨kv, hc, hk, _⟩ := hfn j hj
        have hcj : ∀ i, i < 5 → W.cell? ⟨b, off + j * 5 + i, none⟩ = [Value.int .i64 (f j).id, .int .i64 (f j).kind, .int .i64 (f j).attr, .string (f j).text, kv][i]? := fun i hi => by
          rw [← hc i hi, Go.WideShapes.add_plain, Go.WideShapes.add_plain]
        have e : ((List.range len).map f)[j]?.getD nodeNil = f j := by simp [hj]
        rw [e]
        exact ⟨by simpa using hcj 0 (by omega), by simpa using hcj 1 (by omega), by simpa using hcj 2 (by omega), by simpa using hcj 3 (by omega), kv, by simpa using hcj 4 (by omega), hk⟩
    · intro y hy
      obtain ⟨i, hi, rfl⟩ := List.mem_map.1 hy
      obtain ⟨_, _, _, h4, h5, _⟩ := hfn i (by simpa using hi)
      exact ⟨h4, h5⟩
    · intro y hy
      obtain ⟨i, hi, rfl⟩ := List.mem_map.1 hy
      obtain ⟨_, _, _, _, _, h6⟩ := hfn i (by simpa using hi)
      exact h6

set_option maxRecDepth 100000 in
/-- A document, read. -/
theorem read_doc {r : Reach} {b0 : Nat} {v : Value} {D : DataW H} {p : List MemPlace} (hv : Value.okWide Tryd.prog W r b0 38 v) (h : DataW.Trod enc Tryd.prog W 0 spare held 38 v D p) :
    ∃ d, DocAt W.heap.size W v d ∧ Fits d ∧ WfDoc d := by
  obtain ⟨v0, v1, v2, y0, y1, y2, n, rfl, _, _, h0, h1, h2⟩ := open_agg3 Tryd.underlying38 (by kernel_rfl) (by kernel_rfl) hv h
  obtain ⟨n0, e0, _, w0⟩ := DataW.trod_int Tryd.underlying3 h0
  obtain ⟨n1, e1, _, _⟩ := DataW.trod_int Tryd.underlying3 h1
  obtain ⟨l, hl, hlen, hn, hk⟩ := read_nodes h2
  simp only [List.cons.injEq, and_true] at e0 e1
  subst e0 e1
  exact ⟨⟨n0, n1, l⟩, ⟨v2, rfl, hl⟩, ⟨hlen, hn⟩, ⟨w0, hk⟩⟩
end
end Go.Proofs.YtpkblnponeonkaaDoor
