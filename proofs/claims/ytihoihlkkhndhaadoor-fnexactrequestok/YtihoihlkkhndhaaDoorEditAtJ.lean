/-
  What the row's list gives of the table of the forms of edits: its cells, row by row.
-/
import Derived.Test.YtihoihlkkhndhaaDoorBasicInJ
import Derived.Test.YtihoihlkkhndhaaDoorRows
import Derived.OpenShut
import Derived.ChangeArms
import Derived.FnData
import Derived.MakeChecks
import Derived.Lib.LaidTab
namespace Go.Proofs.YtihoihlkkhndhaaDoor
open Go.RowKit

/-- The bounds of a kind of edits: the least and the most of A, the most of B, the most bytes of the Text. -/
def edLow (k : Nat) : Int := if k = 1 ∨ k = 5 ∨ k = 6 then 1 else 0
def edTop (k : Nat) : Int := if k = 1 ∨ k = 6 then 8 else if k = 4 then 99 else if k = 5 then 999999 else if k = 8 then 20 else 0
def edB (k : Nat) : Int := if k = 1 ∨ k = 5 then 12 else 0
def edText (k : Nat) : Int := if k = 3 then 20 else 0
/-- The word of a kind of edits. -/
def edWord (k : Nat) : List UInt8 :=
  if k = 1 then [105, 110, 115, 101, 114, 116] else if k = 2 then [100, 101, 108, 101, 116, 101] else if k = 3 then [116, 101, 120, 116] else if k = 4 then [97, 116, 116, 114] else if k = 5 then [109, 111, 118, 101] else if k = 6 then [119, 114, 97, 112] else if k = 7 then [108, 105, 102, 116] else if k = 8 then [115, 112, 108, 105, 116] else if k = 9 then [106, 111, 105, 110] else []

/-- The table of forms, cell for cell. -/
structure EditAt (w : World) : Prop where
  cw : ∀ k, k < 10 → w.cell? ⟨1, k * 5, none⟩ = some (.string ⟨(edWord k).toArray⟩)
  c0 : ∀ k, k < 10 → w.cell? ⟨1, k * 5 + 1, none⟩ = some (.int .i64 (edLow k))
  c1 : ∀ k, k < 10 → w.cell? ⟨1, k * 5 + 2, none⟩ = some (.int .i64 (edTop k))
  c2 : ∀ k, k < 10 → w.cell? ⟨1, k * 5 + 3, none⟩ = some (.int .i64 (edB k))
  c3 : ∀ k, k < 10 → w.cell? ⟨1, k * 5 + 4, none⟩ = some (.int .i64 (edText k))

theorem EditAt.lt {w : World} (h : EditAt w) : 1 < w.heap.size := World.block_lt_of_cell? w _ (h.cw 0 (by decide))

theorem EditAt.below {w w' : World} (h : EditAt w) (hb : Below w.heap.size w w') : EditAt w' := by
  have hg := h.lt
  exact ⟨fun k hk => (hb.cell (p := ⟨_, _, none⟩) hg).trans (h.cw k hk), fun k hk => (hb.cell (p := ⟨_, _, none⟩) hg).trans (h.c0 k hk), fun k hk => (hb.cell (p := ⟨_, _, none⟩) hg).trans (h.c1 k hk), fun k hk => (hb.cell (p := ⟨_, _, none⟩) hg).trans (h.c2 k hk), fun k hk => (hb.cell (p := ⟨_, _, none⟩) hg).trans (h.c3 k hk)⟩

set_option maxRecDepth 100000 in
/-- Five cells that read as a text and four numbers hold these. -/
theorem bounds_elem {H : Type} {enc : TypeId × Value → H} {w : World} {base fuel : Nat} {sp : Nat → Bool} {held : Bool} {cs : List Value} {l : List UInt8} {a b c d : Int} {p : List MemPlace}
    (h : DataW.trod enc Tryd.prog w base sp held fuel 44 cs = some (.agg [.lit (.string l), .lit (.int .i64 a), .lit (.int .i64 b), .lit (.int .i64 c), .lit (.int .i64 d)], p)) :
    cs = [.string ⟨l.toArray⟩, .int .i64 a, .int .i64 b, .int .i64 c, .int .i64 d] := by
  have cI : Tryd.prog.cellsOf 3 = 1 := by kernel_rfl
  have cS : Tryd.prog.cellsOf 9 = 1 := by kernel_rfl
  have cA : Tryd.prog.cellsOf 44 = 5 := by kernel_rfl
  obtain ⟨xs, n, _, ex, hlen, hxs, hf⟩ := DataW.trod_struct Tryd.underlying44 h
  rw [cA] at hlen
  have e := (DataW.agg.inj (Prod.mk.inj ex).1)
  match cs, hlen with
  | [z0, x0, x1, x2, x3], _ =>
    match xs, hxs with
    | [yz, y0, y1, y2, y3], _ =>
      simp only [List.map_cons, List.map_nil, List.cons.injEq, and_true] at e
      obtain ⟨qz, q0, q1, q2, q3⟩ := e
      have fz : DataW.trod enc Tryd.prog w base sp held n 9 [z0] = some yz := by have := hf 0 _ rfl; simpa [cS] using this
      have f0 : DataW.trod enc Tryd.prog w base sp held n 3 [x0] = some y0 := by have := hf 1 _ rfl; simpa [cI] using this
      have f1 : DataW.trod enc Tryd.prog w base sp held n 3 [x1] = some y1 := by have := hf 2 _ rfl; simpa [cI] using this
      have f2 : DataW.trod enc Tryd.prog w base sp held n 3 [x2] = some y2 := by have := hf 3 _ rfl; simpa [cI] using this
      have f3 : DataW.trod enc Tryd.prog w base sp held n 3 [x3] = some y3 := by have := hf 4 _ rfl; simpa [cI] using this
      obtain ⟨sz, hz, ez, _⟩ := DataW.trod_string Tryd.underlying9 fz
      obtain ⟨n0, h0, e0, _⟩ := DataW.trod_int Tryd.underlying3 f0
      obtain ⟨n1, h1, e1, _⟩ := DataW.trod_int Tryd.underlying3 f1
      obtain ⟨n2, h2, e2, _⟩ := DataW.trod_int Tryd.underlying3 f2
      obtain ⟨n3, h3, e3, _⟩ := DataW.trod_int Tryd.underlying3 f3
      subst ez e0 e1 e2 e3
      simp only [DataW.lit.injEq, Lit.string.injEq, Lit.int.injEq, true_and] at qz q0 q1 q2 q3
      simp only [List.cons.injEq, and_true] at hz h0 h1 h2 h3
      subst qz q0 q1 q2 q3 hz h0 h1 h2 h3
      rfl

def rowLit {H : Type} (k : Nat) : DataW H := .agg [.lit (.string (edWord k)), .lit (.int .i64 (edLow k)), .lit (.int .i64 (edTop k)), .lit (.int .i64 (edB k)), .lit (.int .i64 (edText k))]

def tenRows {H : Type} : List (DataW H) := [rowLit 0, rowLit 1, rowLit 2, rowLit 3, rowLit 4, rowLit 5, rowLit 6, rowLit 7, rowLit 8, rowLit 9]
theorem tenRows_at {H : Type} : ∀ k, k < 10 → (tenRows (H := H))[k]? = some (rowLit k)
  | 0, _ | 1, _ | 2, _ | 3, _ | 4, _ | 5, _ | 6, _ | 7, _ | 8, _ | 9, _ => rfl

set_option maxRecDepth 100000 in
theorem editAt_of_laid {W : World} {rest : List (String × DataW Unit)} (h : laidMet Tryd.prog (("loop.example/g00701/impl.editForms", Rows.laid_loop_example_g00701_impl_editForms) :: rest) W) : EditAt W := by
  obtain ⟨ps, ⟨g, t, cs, fuel, p, q, hg, ht, hv, hd, _, _⟩, _, _⟩ := h
  obtain rfl := Option.some.inj ((show Tryd.prog.globalNamed "loop.example/g00701/impl.editForms" = some 1 by kernel_rfl).symm.trans hg)
  obtain rfl := Option.some.inj ((show (Tryd.prog.globals[1]?).map (·.type) = some 45 by kernel_rfl).symm.trans ht)
  have cA : Tryd.prog.cellsOf 44 = 5 := by kernel_rfl
  have hd' : DataW.trod _ Tryd.prog W _ _ _ fuel 45 cs.toList = some (.agg tenRows, p) := hd
  obtain ⟨xs, m, _, ex, hlen, hl, hel⟩ := DataW.trod_array Tryd.underlying45 hd'
  have e := (DataW.agg.inj (Prod.mk.inj ex).1)
  have G : ∀ k j, k < 10 → j < 5 → W.cell? ⟨1, k * 5 + j, none⟩ = ((cs.toList.drop (k * 5)).take 5)[j]? := fun k j _ hj => by
    rw [World.var?_cell hg hv, List.getElem?_take, if_pos hj, List.getElem?_drop, Array.getElem?_toList]
  have K : ∀ k, k < 10 → ((cs.toList.drop (k * 5)).take 5) = [.string ⟨(edWord k).toArray⟩, .int .i64 (edLow k), .int .i64 (edTop k), .int .i64 (edB k), .int .i64 (edText k)] := by
    intro k hk
    have h1 := hel k hk
    rw [cA] at h1
    have e1 := tenRows_at (H := Unit) k hk
    rw [e, List.getElem?_map] at e1
    obtain ⟨y, hy1, hy2⟩ := Option.map_eq_some_iff.1 e1
    obtain ⟨d, p1⟩ := y
    obtain rfl : d = rowLit k := hy2
    rw [hy1] at h1
    exact bounds_elem h1
  refine ⟨fun k hk => ?_, fun k hk => ?_, fun k hk => ?_, fun k hk => ?_, fun k hk => ?_⟩
  · have := G k 0 hk (by decide)
    rw [Nat.add_zero] at this
    rw [this, K k hk]; rfl
  · rw [G k 1 hk (by decide), K k hk]; rfl
  · rw [G k 2 hk (by decide), K k hk]; rfl
  · rw [G k 3 hk (by decide), K k hk]; rfl
  · rw [G k 4 hk (by decide), K k hk]; rfl
end Go.Proofs.YtihoihlkkhndhaaDoor
