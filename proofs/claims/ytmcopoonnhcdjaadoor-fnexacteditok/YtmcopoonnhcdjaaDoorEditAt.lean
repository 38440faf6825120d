/-
  What the row's list gives of the table of bounds of edits: its cells, row by row.
-/
import Derived.Test.YtmcopoonnhcdjaaDoorBasicIn
import Derived.Test.YtmcopoonnhcdjaaDoorRows
import Derived.OpenShut
import Derived.ChangeArms
import Derived.FnData
import Derived.MakeChecks
import Derived.Lib.LaidTab
namespace Go.Proofs.YtmcopoonnhcdjaaDoor
open Go.RowKit

/-- The bounds of a kind of edits: the least and the most of A, the most of B, the most bytes of the Text. -/
def edLow (k : Nat) : Int := if k = 1 ∨ k = 5 ∨ k = 6 then 1 else 0
def edTop (k : Nat) : Int := if k = 1 ∨ k = 6 then 8 else if k = 4 then 99 else if k = 5 then 999999 else if k = 8 then 20 else 0
def edB (k : Nat) : Int := if k = 1 ∨ k = 5 then 12 else 0
def edText (k : Nat) : Int := if k = 3 then 20 else 0

/-- The table of bounds, cell for cell. -/
structure EditAt (w : World) : Prop where
  c0 : ∀ k, k < 10 → w.cell? ⟨0, k * 4, none⟩ = some (.int .i64 (edLow k))
  c1 : ∀ k, k < 10 → w.cell? ⟨0, k * 4 + 1, none⟩ = some (.int .i64 (edTop k))
  c2 : ∀ k, k < 10 → w.cell? ⟨0, k * 4 + 2, none⟩ = some (.int .i64 (edB k))
  c3 : ∀ k, k < 10 → w.cell? ⟨0, k * 4 + 3, none⟩ = some (.int .i64 (edText k))

theorem EditAt.lt {w : World} (h : EditAt w) : 0 < w.heap.size := World.block_lt_of_cell? w _ (h.c0 0 (by decide))

theorem EditAt.below {w w' : World} (h : EditAt w) (hb : Below w.heap.size w w') : EditAt w' := by
  have hg := h.lt
  exact ⟨fun k hk => (hb.cell (p := ⟨_, _, none⟩) hg).trans (h.c0 k hk), fun k hk => (hb.cell (p := ⟨_, _, none⟩) hg).trans (h.c1 k hk), fun k hk => (hb.cell (p := ⟨_, _, none⟩) hg).trans (h.c2 k hk), fun k hk => (hb.cell (p := ⟨_, _, none⟩) hg).trans (h.c3 k hk)⟩

set_option maxRecDepth 100000 in
/-- Four cells that read as four numbers hold these. -/
theorem bounds_elem {H : Type} {enc : TypeId × Value → H} {w : World} {base fuel : Nat} {sp : Nat → Bool} {held : Bool} {cs : List Value} {a b c d : Int} {p : List MemPlace}
    (h : DataW.trod enc Tryd.prog w base sp held fuel 102 cs = some (.agg [.lit (.int .i64 a), .lit (.int .i64 b), .lit (.int .i64 c), .lit (.int .i64 d)], p)) :
    cs = [.int .i64 a, .int .i64 b, .int .i64 c, .int .i64 d] := by
  have cI : Tryd.prog.cellsOf 3 = 1 := by kernel_rfl
  have cA : Tryd.prog.cellsOf 102 = 4 := by kernel_rfl
  obtain ⟨xs, n, _, ex, hlen, hxs, hf⟩ := DataW.trod_struct Tryd.underlying102 h
  rw [cA] at hlen
  have e := (DataW.agg.inj (Prod.mk.inj ex).1)
  match cs, hlen with
  | [x0, x1, x2, x3], _ =>
    match xs, hxs with
    | [y0, y1, y2, y3], _ =>
      simp only [List.map_cons, List.map_nil, List.cons.injEq, and_true] at e
      obtain ⟨q0, q1, q2, q3⟩ := e
      have f0 : DataW.trod enc Tryd.prog w base sp held n 3 [x0] = some y0 := by have := hf 0 _ rfl; simpa [cI] using this
      have f1 : DataW.trod enc Tryd.prog w base sp held n 3 [x1] = some y1 := by have := hf 1 _ rfl; simpa [cI] using this
      have f2 : DataW.trod enc Tryd.prog w base sp held n 3 [x2] = some y2 := by have := hf 2 _ rfl; simpa [cI] using this
      have f3 : DataW.trod enc Tryd.prog w base sp held n 3 [x3] = some y3 := by have := hf 3 _ rfl; simpa [cI] using this
      obtain ⟨n0, h0, e0, _⟩ := DataW.trod_int Tryd.underlying3 f0
      obtain ⟨n1, h1, e1, _⟩ := DataW.trod_int Tryd.underlying3 f1
      obtain ⟨n2, h2, e2, _⟩ := DataW.trod_int Tryd.underlying3 f2
      obtain ⟨n3, h3, e3, _⟩ := DataW.trod_int Tryd.underlying3 f3
      subst e0 e1 e2 e3
      simp only [DataW.lit.injEq, Lit.int.injEq, true_and] at q0 q1 q2 q3
      simp only [List.cons.injEq, and_true] at h0 h1 h2 h3
      subst q0 q1 q2 q3 h0 h1 h2 h3
      rfl

def rowLit {H : Type} (k : Nat) : DataW H := .agg [.lit (.int .i64 (edLow k)), .lit (.int .i64 (edTop k)), .lit (.int .i64 (edB k)), .lit (.int .i64 (edText k))]

def tenRows {H : Type} : List (DataW H) := [rowLit 0, rowLit 1, rowLit 2, rowLit 3, rowLit 4, rowLit 5, rowLit 6, rowLit 7, rowLit 8, rowLit 9]
theorem tenRows_at {H : Type} : ∀ k, k < 10 → (tenRows (H := H))[k]? = some (rowLit k)
  | 0, _ | 1, _ | 2, _ | 3, _ | 4, _ | 5, _ | 6, _ | 7, _ | 8, _ | 9, _ => rfl

set_option maxRecDepth 100000 in
theorem editAt_of_laid {W : World} {rest : List (String × DataW Unit)} (h : laidMet Tryd.prog (("loop.example/g00701/impl.editRows", Rows.laid_loop_example_g00701_impl_editRows) :: rest) W) : EditAt W := by
  obtain ⟨ps, ⟨g, t, cs, fuel, p, q, hg, ht, hv, hd, _, _⟩, _, _⟩ := h
  obtain rfl := Option.some.inj ((show Tryd.prog.globalNamed "loop.example/g00701/impl.editRows" = some 0 by kernel_rfl).symm.trans hg)
  obtain rfl := Option.some.inj ((show (Tryd.prog.globals[0]?).map (·.type) = some 103 by kernel_rfl).symm.trans ht)
  have cA : Tryd.prog.cellsOf 102 = 4 := by kernel_rfl
  have hd' : DataW.trod _ Tryd.prog W _ _ _ fuel 103 cs.toList = some (.agg tenRows, p) := hd
  obtain ⟨xs, m, _, ex, hlen, hl, hel⟩ := DataW.trod_array Tryd.underlying103 hd'
  have e := (DataW.agg.inj (Prod.mk.inj ex).1)
  have G : ∀ k j, k < 10 → j < 4 → W.cell? ⟨0, k * 4 + j, none⟩ = ((cs.toList.drop (k * 4)).take 4)[j]? := fun k j _ hj => by
    rw [World.var?_cell hg hv, List.getElem?_take, if_pos hj, List.getElem?_drop, Array.getElem?_toList]
  have K : ∀ k, k < 10 → ((cs.toList.drop (k * 4)).take 4) = [.int .i64 (edLow k), .int .i64 (edTop k), .int .i64 (edB k), .int .i64 (edText k)] := by
    intro k hk
    have h1 := hel k hk
    rw [cA] at h1
    have e1 := tenRows_at (H := Unit) k hk
    rw [e, List.getElem?_map] at e1
    obtain ⟨y, hy1, hy2⟩ := Option.map_eq_some_iff.1 e1
    obtain ⟨d, p1⟩ := y
    obtain rfl : d = rowLit k := hy2
    rw [hy1] at h1
    exact bounds_elem h1
  refine ⟨fun k hk => ?_, fun k hk => ?_, fun k hk => ?_, fun k hk => ?_⟩
  · have := G k 0 hk (by decide)
    rw [Nat.add_zero] at this
    rw [this, K k hk]; rfl
  · rw [G k 1 hk (by decide), K k hk]; rfl
  · rw [G k 2 hk (by decide), K k hk]; rfl
  · rw [G k 3 hk (by decide), K k hk]; rfl
end Go.Proofs.YtmcopoonnhcdjaaDoor
