/-
  What the row's list gives of the table of the forms of requests: its cells, row by row.
-/
import Derived.Test.YtihoihlkkhndhaaDoorBasicInJ
import Derived.Test.YtihoihlkkhndhaaDoorRows
import Derived.OpenShut
import Derived.ChangeArms
import Derived.FnData
import Derived.MakeChecks
import Derived.Lib.LaidTab
namespace Go.Proofs.YtihoihlkkhndhaaDoor
open Go.RowKit

/-- What a kind of requests has, and the bounds of its A. -/
def rqS (k : Nat) : Bool := decide (2 ≤ k ∧ k ≤ 10)
def rqN (k : Nat) : Bool := decide (k = 4 ∨ k = 5 ∨ k = 6 ∨ k = 10)
def rqE (k : Nat) : Bool := decide (k = 7)
def rqLow (k : Nat) : Int := if k = 4 ∨ k = 11 then 1 else 0
def rqTop (k : Nat) : Int := if k = 4 then 5 else if k = 11 then 500 else 0

/-- The table of forms, cell for cell. -/
structure ReqAt (w : World) : Prop where
  c0 : ∀ k, k < 12 → w.cell? ⟨0, k * 5, none⟩ = some (.bool (rqS k))
  c1 : ∀ k, k < 12 → w.cell? ⟨0, k * 5 + 1, none⟩ = some (.bool (rqN k))
  c2 : ∀ k, k < 12 → w.cell? ⟨0, k * 5 + 2, none⟩ = some (.bool (rqE k))
  c3 : ∀ k, k < 12 → w.cell? ⟨0, k * 5 + 3, none⟩ = some (.int .i64 (rqLow k))
  c4 : ∀ k, k < 12 → w.cell? ⟨0, k * 5 + 4, none⟩ = some (.int .i64 (rqTop k))

theorem ReqAt.lt {w : World} (h : ReqAt w) : 0 < w.heap.size := World.block_lt_of_cell? w _ (h.c0 0 (by decide))

theorem ReqAt.below {w w' : World} (h : ReqAt w) (hb : Below w.heap.size w w') : ReqAt w' := by
  have hg := h.lt
  exact ⟨fun k hk => (hb.cell (p := ⟨_, _, none⟩) hg).trans (h.c0 k hk), fun k hk => (hb.cell (p := ⟨_, _, none⟩) hg).trans (h.c1 k hk), fun k hk => (hb.cell (p := ⟨_, _, none⟩) hg).trans (h.c2 k hk), fun k hk => (hb.cell (p := ⟨_, _, none⟩) hg).trans (h.c3 k hk), fun k hk => (hb.cell (p := ⟨_, _, none⟩) hg).trans (h.c4 k hk)⟩

set_option maxRecDepth 100000 in
/-- Five cells that read as three truths and two numbers hold these. -/
theorem form_elem {H : Type} {enc : TypeId × Value → H} {w : World} {base fuel : Nat} {sp : Nat → Bool} {held : Bool} {cs : List Value} {a b c : Bool} {d e : Int} {p : List MemPlace}
    (h : DataW.trod enc Tryd.prog w base sp held fuel 39 cs = some (.agg [.lit (.bool a), .lit (.bool b), .lit (.bool c), .lit (.int .i64 d), .lit (.int .i64 e)], p)) :
    cs = [.bool a, .bool b, .bool c, .int .i64 d, .int .i64 e] := by
  have cI : Tryd.prog.cellsOf 3 = 1 := by kernel_rfl
  have cB : Tryd.prog.cellsOf 4 = 1 := by kernel_rfl
  have cA : Tryd.prog.cellsOf 39 = 5 := by kernel_rfl
  obtain ⟨xs, n, _, ex, hlen, hxs, hf⟩ := DataW.trod_struct Tryd.underlying39 h
  rw [cA] at hlen
  have e := (DataW.agg.inj (Prod.mk.inj ex).1)
  match cs, hlen with
  | [z0, x0, x1, x2, x3], _ =>
    match xs, hxs with
    | [yz, y0, y1, y2, y3], _ =>
      simp only [List.map_cons, List.map_nil, List.cons.injEq, and_true] at e
      obtain ⟨qz, q0, q1, q2, q3⟩ := e
      have fz : DataW.trod enc Tryd.prog w base sp held n 4 [z0] = some yz := by have := hf 0 _ rfl; simpa [cB] using this
      have f0 : DataW.trod enc Tryd.prog w base sp held n 4 [x0] = some y0 := by have := hf 1 _ rfl; simpa [cB] using this
      have f1 : DataW.trod enc Tryd.prog w base sp held n 4 [x1] = some y1 := by have := hf 2 _ rfl; simpa [cB] using this
      have f2 : DataW.trod enc Tryd.prog w base sp held n 3 [x2] = some y2 := by have := hf 3 _ rfl; simpa [cI] using this
      have f3 : DataW.trod enc Tryd.prog w base sp held n 3 [x3] = some y3 := by have := hf 4 _ rfl; simpa [cI] using this
      obtain ⟨bz, hz, ez⟩ := DataW.trod_bool Tryd.underlying4 fz
      obtain ⟨b0, h0, e0⟩ := DataW.trod_bool Tryd.underlying4 f0
      obtain ⟨b1, h1, e1⟩ := DataW.trod_bool Tryd.underlying4 f1
      obtain ⟨n2, h2, e2, _⟩ := DataW.trod_int Tryd.underlying3 f2
      obtain ⟨n3, h3, e3, _⟩ := DataW.trod_int Tryd.underlying3 f3
      subst ez e0 e1 e2 e3
      simp only [DataW.lit.injEq, Lit.bool.injEq, Lit.int.injEq, true_and] at qz q0 q1 q2 q3
      simp only [List.cons.injEq, and_true] at hz h0 h1 h2 h3
      subst qz q0 q1 q2 q3 hz h0 h1 h2 h3
      rfl

def formLit {H : Type} (k : Nat) : DataW H := .agg [.lit (.bool (rqS k)), .lit (.bool (rqN k)), .lit (.bool (rqE k)), .lit (.int .i64 (rqLow k)), .lit (.int .i64 (rqTop k))]

def twelveForms {H : Type} : List (DataW H) := [formLit 0, formLit 1, formLit 2, formLit 3, formLit 4, formLit 5, formLit 6, formLit 7, formLit 8, formLit 9, formLit 10, formLit 11]
theorem twelveForms_at {H : Type} : ∀ k, k < 12 → (twelveForms (H := H))[k]? = some (formLit k)
  | 0, _ | 1, _ | 2, _ | 3, _ | 4, _ | 5, _ | 6, _ | 7, _ | 8, _ | 9, _ | 10, _ | 11, _ => rfl

set_option maxRecDepth 100000 in
theorem reqAt_of_laid {W : World} {rest : List (String × DataW Unit)} (h : laidMet Tryd.prog (("loop.example/g00701/impl.requestForms", Rows.laid_loop_example_g00701_impl_requestForms) :: rest) W) : ReqAt W := by
  obtain ⟨ps, ⟨g, t, cs, fuel, p, q, hg, ht, hv, hd, _, _⟩, _, _⟩ := h
  obtain rfl := Option.some.inj ((show Tryd.prog.globalNamed "loop.example/g00701/impl.requestForms" = some 0 by kernel_rfl).symm.trans hg)
  obtain rfl := Option.some.inj ((show (Tryd.prog.globals[0]?).map (·.type) = some 40 by kernel_rfl).symm.trans ht)
  have cA : Tryd.prog.cellsOf 39 = 5 := by kernel_rfl
  have hd' : DataW.trod _ Tryd.prog W _ _ _ fuel 40 cs.toList = some (.agg twelveForms, p) := hd
  obtain ⟨xs, m, _, ex, hlen, hl, hel⟩ := DataW.trod_array Tryd.underlying40 hd'
  have e := (DataW.agg.inj (Prod.mk.inj ex).1)
  have G : ∀ k j, k < 12 → j < 5 → W.cell? ⟨0, k * 5 + j, none⟩ = ((cs.toList.drop (k * 5)).take 5)[j]? := fun k j _ hj => by
    rw [World.var?_cell hg hv, List.getElem?_take, if_pos hj, List.getElem?_drop, Array.getElem?_toList]
  have K : ∀ k, k < 12 → ((cs.toList.drop (k * 5)).take 5) = [.bool (rqS k), .bool (rqN k), .bool (rqE k), .int .i64 (rqLow k), .int .i64 (rqTop k)] := by
    intro k hk
    have h1 := hel k hk
    rw [cA] at h1
    have e1 := twelveForms_at (H := Unit) k hk
    rw [e, List.getElem?_map] at e1
    obtain ⟨y, hy1, hy2⟩ := Option.map_eq_some_iff.1 e1
    obtain ⟨d, p1⟩ := y
    obtain rfl : d = formLit k := hy2
    rw [hy1] at h1
    exact form_elem h1
  refine ⟨fun k hk => ?_, fun k hk => ?_, fun k hk => ?_, fun k hk => ?_, fun k hk => ?_⟩
  · have := G k 0 hk (by decide)
    rw [Nat.add_zero] at this
    rw [this, K k hk]; rfl
  · rw [G k 1 hk (by decide), K k hk]; rfl
  · rw [G k 2 hk (by decide), K k hk]; rfl
  · rw [G k 3 hk (by decide), K k hk]; rfl
  · rw [G k 4 hk (by decide), K k hk]; rfl
end Go.Proofs.YtihoihlkkhndhaaDoor
