/-
  Tables of numbers and of answers yes or no, as laid: what their cells hold.
  What a row's list gives of the table of intentions.
  What a row's list gives of the table of modes that fit.
  What a row's list of both tables gives.
-/
import Derived.Test.YtfjhpfgffbghdaaDoorRows
import Derived.OpenShut
import Derived.ChangeArms
import Derived.FnData
import Derived.MakeChecks
import Derived.Lib.LaidTab
import Derived.Below
import Derived.Test.YtfjhpfgffbghdaaDoorJoinG
import Derived.Stop.LaidErr
namespace Go.Proofs.YtfjhpfgffbghdaaDoor
open Go.RowKit

theorem int_elem {H : Type} {enc : TypeId × Value → H} {w : World} {base fuel : Nat} {sp : Nat → Bool} {held : Bool} {cs : List Value} {a : Int} {p : List MemPlace}
    (h : DataW.trod enc Tryd.prog w base sp held fuel 3 cs = some (.lit (.int .i64 a), p)) : cs = [.int .i64 a] := by
  obtain ⟨n1, h1, e1, _⟩ := DataW.trod_int Tryd.underlying3 h
  have e2 := (Prod.mk.inj e1).1
  simp only [DataW.lit.injEq, Lit.int.injEq, true_and] at e2
  rw [h1, e2]

theorem list6 {α : Type} : ∀ {l : List α}, l.length = 6 → ∃ a b c d e f, l = [a, b, c, d, e, f]
  | [a, b, c, d, e, f], _ => ⟨a, b, c, d, e, f, rfl⟩

theorem six_of {α : Type} {p : Nat → α → Prop} {l : List α} {a b c d e f : α} (hl : l = [a, b, c, d, e, f]) (h0 : p 0 a) (h1 : p 1 b) (h2 : p 2 c) (h3 : p 3 d) (h4 : p 4 e) (h5 : p 5 f) : ∀ j x, l[j]? = some x → p j x := by
  subst hl
  intro j x hx
  match j with
  | 0 => cases hx; exact h0
  | 1 => cases hx; exact h1
  | 2 => cases hx; exact h2
  | 3 => cases hx; exact h3
  | 4 => cases hx; exact h4
  | 5 => cases hx; exact h5
  | j + 6 => simp at hx

theorem take_one {α : Type} {l : List α} {j : Nat} {v : α} (h : (l.drop (j * 1)).take 1 = [v]) : l[j]? = some v := by
  have := congrArg (fun z => z[0]?) h
  simpa using this

set_option maxRecDepth 100000 in
/-- Six numbers in a row. -/
theorem row_ints6 {H : Type} {enc : TypeId × Value → H} {w : World} {base fuel : Nat} {sp : Nat → Bool} {held : Bool} {cs : List Value} {a b c d e f : Int} {p : List MemPlace}
    (h : DataW.trod enc Tryd.prog w base sp held fuel 118 cs = some (.agg [.lit (.int .i64 a), .lit (.int .i64 b), .lit (.int .i64 c), .lit (.int .i64 d), .lit (.int .i64 e), .lit (.int .i64 f)], p)) :
    ∀ (j : Nat) (x : Int), [a, b, c, d, e, f][j]? = some x → cs[j]? = some (Value.int .i64 x) := by
  have cI : Tryd.prog.cellsOf 3 = 1 := by kernel_rfl
  obtain ⟨xs, m, _, ex, hlen, hl, hel⟩ := DataW.trod_array Tryd.underlying118 h
  have e := (DataW.agg.inj (Prod.mk.inj ex).1)
  obtain ⟨⟨d0, p0⟩, ⟨d1, p1⟩, ⟨d2, p2⟩, ⟨d3, p3⟩, ⟨d4, p4⟩, ⟨d5, p5⟩, rfl⟩ := list6 hl
  simp only [List.map_cons, List.map_nil, List.cons.injEq, and_true] at e
  obtain ⟨q0, q1, q2, q3, q4, q5⟩ := e
  subst q0 q1 q2 q3 q4 q5
  have h0 := hel 0 (by decide)
  have h1 := hel 1 (by decide)
  have h2 := hel 2 (by decide)
  have h3 := hel 3 (by decide)
  have h4 := hel 4 (by decide)
  have h5 := hel 5 (by decide)
  rw [cI] at h0 h1 h2 h3 h4 h5
  exact six_of (p := fun j x => cs[j]? = some (.int .i64 x)) rfl (take_one (int_elem h0)) (take_one (int_elem h1)) (take_one (int_elem h2)) (take_one (int_elem h3)) (take_one (int_elem h4)) (take_one (int_elem h5))
end Go.Proofs.YtfjhpfgffbghdaaDoor

namespace Go.Proofs.YtfjhpfgffbghdaaDoor
open Go.RowKit

/-- The table of intentions, cell for cell. -/
def IntentsAt (w : World) : Prop := ∀ m : Nat, m < 6 → w.cell? ⟨0, m, none⟩ = some (.int .i64 (intentI m))

theorem IntentsAt.lt {w : World} (h : IntentsAt w) : 0 < w.heap.size := World.block_lt_of_cell? w _ (h 0 (by decide))
theorem IntentsAt.below {n : Nat} {w w' : World} (h : IntentsAt w) (hb : Below n w w') (hn : 0 < n) : IntentsAt w' := fun m hm => (hb.cell (p := ⟨_, _, none⟩) hn).trans (h m hm)

theorem six_cases {p : Nat → Prop} (h0 : p 0) (h1 : p 1) (h2 : p 2) (h3 : p 3) (h4 : p 4) (h5 : p 5) : ∀ m, m < 6 → p m := by
  intro m hm
  rcases (by omega : m = 0 ∨ m = 1 ∨ m = 2 ∨ m = 3 ∨ m = 4 ∨ m = 5) with rfl | rfl | rfl | rfl | rfl | rfl <;> assumption

set_option maxRecDepth 100000 in
theorem intentsAt_of_laid {W : World} {rest : List (String × DataW Unit)} (h : laidMet Tryd.prog (("loop.example/g00701/impl.intents", Rows.laid_loop_example_g00701_impl_intents) :: rest) W) : IntentsAt W := by
  obtain ⟨ps, ⟨g, t, cs, fuel, p, q, hg, ht, hv, hd, _, _⟩, _, _⟩ := h
  obtain rfl := Option.some.inj ((show Tryd.prog.globalNamed "loop.example/g00701/impl.intents" = some 0 by kernel_rfl).symm.trans hg)
  obtain rfl := Option.some.inj ((show (Tryd.prog.globals[0]?).map (·.type) = some 118 by kernel_rfl).symm.trans ht)
  have hd' : DataW.trod _ Tryd.prog W _ _ _ fuel 118 cs.toList = some (.agg [.lit (.int .i64 0), .lit (.int .i64 1), .lit (.int .i64 2), .lit (.int .i64 1), .lit (.int .i64 2), .lit (.int .i64 2)], p) := hd
  have hr := row_ints6 hd'
  have G : ∀ m (x : Int), [(0 : Int), 1, 2, 1, 2, 2][m]? = some x → W.cell? ⟨0, m, none⟩ = some (.int .i64 x) := fun m x hx => by
    rw [World.var?_cell hg hv, ← Array.getElem?_toList]; exact hr m x hx
  exact six_cases (p := fun m => W.cell? ⟨0, m, none⟩ = some (.int .i64 (intentI m))) (G 0 _ rfl) (G 1 _ rfl) (G 2 _ rfl) (G 3 _ rfl) (G 4 _ rfl) (G 5 _ rfl)
end Go.Proofs.YtfjhpfgffbghdaaDoor

namespace Go.Proofs.YtfjhpfgffbghdaaDoor
open Go.RowKit

/-- The table of what fits, cell for cell. -/
def FitsAt (w : World) : Prop := ∀ a b : Nat, a < 6 → b < 6 → w.cell? ⟨2, a * 6 + b, none⟩ = some (.bool (fitsB a b))

theorem FitsAt.lt {w : World} (h : FitsAt w) : 2 < w.heap.size := World.block_lt_of_cell? w _ (h 0 0 (by decide) (by decide))
theorem FitsAt.below {n : Nat} {w w' : World} (h : FitsAt w) (hb : Below n w w') (hn : 2 < n) : FitsAt w' := fun a b ha hb' => (hb.cell (p := ⟨_, _, none⟩) hn).trans (h a b ha hb')

theorem bool_elem {H : Type} {enc : TypeId × Value → H} {w : World} {base fuel : Nat} {sp : Nat → Bool} {held : Bool} {cs : List Value} {a : Bool} {p : List MemPlace}
    (h : DataW.trod enc Tryd.prog w base sp held fuel 4 cs = some (.lit (.bool a), p)) : cs = [.bool a] := by
  obtain ⟨n1, h1, e1⟩ := DataW.trod_bool Tryd.underlying4 h
  have e2 := (Prod.mk.inj e1).1
  simp only [DataW.lit.injEq, Lit.bool.injEq] at e2
  rw [h1, e2]

set_option maxRecDepth 100000 in
/-- Six answers in a row. -/
theorem row_bools6 {H : Type} {enc : TypeId × Value → H} {w : World} {base fuel : Nat} {sp : Nat → Bool} {held : Bool} {cs : List Value} {a b c d e f : Bool} {p : List MemPlace}
    (h : DataW.trod enc Tryd.prog w base sp held fuel 131 cs = some (.agg [.lit (.bool a), .lit (.bool b), .lit (.bool c), .lit (.bool d), .lit (.bool e), .lit (.bool f)], p)) :
    ∀ (j : Nat) (x : Bool), [a, b, c, d, e, f][j]? = some x → cs[j]? = some (Value.bool x) := by
  have cI : Tryd.prog.cellsOf 4 = 1 := by kernel_rfl
  obtain ⟨xs, m, _, ex, hlen, hl, hel⟩ := DataW.trod_array Tryd.underlying131 h
  have e := (DataW.agg.inj (Prod.mk.inj ex).1)
  obtain ⟨⟨d0, p0⟩, ⟨d1, p1⟩, ⟨d2, p2⟩, ⟨d3, p3⟩, ⟨d4, p4⟩, ⟨d5, p5⟩, rfl⟩ := list6 hl
  simp only [List.map_cons, List.map_nil, List.cons.injEq, and_true] at e
  obtain ⟨q0, q1, q2, q3, q4, q5⟩ := e
  subst q0 q1 q2 q3 q4 q5
  have h0 := hel 0 (by decide)
  have h1 := hel 1 (by decide)
  have h2 := hel 2 (by decide)
  have h3 := hel 3 (by decide)
  have h4 := hel 4 (by decide)
  have h5 := hel 5 (by decide)
  rw [cI] at h0 h1 h2 h3 h4 h5
  exact six_of (p := fun j x => cs[j]? = some (.bool x)) rfl (take_one (bool_elem h0)) (take_one (bool_elem h1)) (take_one (bool_elem h2)) (take_one (bool_elem h3)) (take_one (bool_elem h4)) (take_one (bool_elem h5))

theorem take_six {α : Type} {l : List α} {a b : Nat} (hb : b < 6) {v : α} (h : ((l.drop (a * 6)).take 6)[b]? = some v) : l[a * 6 + b]? = some v := by
  rwa [List.getElem?_take, if_pos hb, List.getElem?_drop] at h

theorem six_six {p : Nat → Nat → Prop} (h : ∀ b, b < 6 → p 0 b ∧ p 1 b ∧ p 2 b ∧ p 3 b ∧ p 4 b ∧ p 5 b) : ∀ a b, a < 6 → b < 6 → p a b := by
  intro a b ha hb
  obtain ⟨h0, h1, h2, h3, h4, h5⟩ := h b hb
  rcases (by omega : a = 0 ∨ a = 1 ∨ a = 2 ∨ a = 3 ∨ a = 4 ∨ a = 5) with rfl | rfl | rfl | rfl | rfl | rfl <;> assumption

theorem six_row {p : Nat → Prop} (h0 : p 0) (h1 : p 1) (h2 : p 2) (h3 : p 3) (h4 : p 4) (h5 : p 5) : ∀ m, m < 6 → p m := by
  intro m hm
  rcases (by omega : m = 0 ∨ m = 1 ∨ m = 2 ∨ m = 3 ∨ m = 4 ∨ m = 5) with rfl | rfl | rfl | rfl | rfl | rfl <;> assumption

set_option maxRecDepth 100000 in
theorem fitsAt_of_laid {W : World} {rest : List (String × DataW Unit)} (h : laidMet Tryd.prog (("loop.example/g00701/impl.fits", Rows.laid_loop_example_g00701_impl_fits) :: rest) W) : FitsAt W := by
  obtain ⟨ps, ⟨g, t, cs, fuel, p, q, hg, ht, hv, hd, _, _⟩, _, _⟩ := h
  obtain rfl := Option.some.inj ((show Tryd.prog.globalNamed "loop.example/g00701/impl.fits" = some 2 by kernel_rfl).symm.trans hg)
  obtain rfl := Option.some.inj ((show (Tryd.prog.globals[2]?).map (·.type) = some 132 by kernel_rfl).symm.trans ht)
  have cR : Tryd.prog.cellsOf 131 = 6 := by kernel_rfl
  have hd' : DataW.trod _ Tryd.prog W _ _ _ fuel 132 cs.toList = some (.agg [.agg [.lit (.bool true), .lit (.bool true), .lit (.bool true), .lit (.bool true), .lit (.bool true), .lit (.bool true)], .agg [.lit (.bool true), .lit (.bool true), .lit (.bool true), .lit (.bool true), .lit (.bool true), .lit (.bool false)], .agg [.lit (.bool true), .lit (.bool true), .lit (.bool true), .lit (.bool false), .lit (.bool false), .lit (.bool false)], .agg [.lit (.bool true), .lit (.bool true), .lit (.bool false), .lit (.bool true), .lit (.bool false), .lit (.bool false)], .agg [.lit (.bool true), .lit (.bool true), .lit (.bool false), .lit (.bool false), .lit (.bool false), .lit (.bool false)], .agg [.lit (.bool true), .lit (.bool false), .lit (.bool false), .lit (.bool false), .lit (.bool false), .lit (.bool false)]], p) := hd
  obtain ⟨xs, m, _, ex, hlen, hl, hel⟩ := DataW.trod_array Tryd.underlying132 hd'
  have e := (DataW.agg.inj (Prod.mk.inj ex).1)
  obtain ⟨⟨d0, p0⟩, ⟨d1, p1⟩, ⟨d2, p2⟩, ⟨d3, p3⟩, ⟨d4, p4⟩, ⟨d5, p5⟩, rfl⟩ := list6 hl
  simp only [List.map_cons, List.map_nil, List.cons.injEq, and_true] at e
  obtain ⟨q0, q1, q2, q3, q4, q5⟩ := e
  subst q0 q1 q2 q3 q4 q5
  have h0 := hel 0 (by decide)
  have h1 := hel 1 (by decide)
  have h2 := hel 2 (by decide)
  have h3 := hel 3 (by decide)
  have h4 := hel 4 (by decide)
  have h5 := hel 5 (by decide)
  rw [cR] at h0 h1 h2 h3 h4 h5
  have r0 := row_bools6 h0
  have r1 := row_bools6 h1
  have r2 := row_bools6 h2
  have r3 := row_bools6 h3
  have r4 := row_bools6 h4
  have r5 := row_bools6 h5
  have G : ∀ a b x, b < 6 → ((cs.toList.drop (a * 6)).take 6)[b]? = some (.bool x) → W.cell? ⟨2, a * 6 + b, none⟩ = some (.bool x) := fun a b x hb hx => by
    rw [World.var?_cell hg hv, ← Array.getElem?_toList]; exact take_six hb hx
  refine six_six (p := fun a b => W.cell? ⟨2, a * 6 + b, none⟩ = some (.bool (fitsB a b))) ?_
  refine six_row ?_ ?_ ?_ ?_ ?_ ?_
  all_goals exact ⟨G 0 _ _ (by decide) (r0 _ _ rfl), G 1 _ _ (by decide) (r1 _ _ rfl), G 2 _ _ (by decide) (r2 _ _ rfl), G 3 _ _ (by decide) (r3 _ _ rfl), G 4 _ _ (by decide) (r4 _ _ rfl), G 5 _ _ (by decide) (r5 _ _ rfl)⟩
end Go.Proofs.YtfjhpfgffbghdaaDoor

namespace Go.Proofs.YtfjhpfgffbghdaaDoor
open Go.RowKit

theorem both_of_laid {W : World} {rest : List (String × DataW Unit)} (h : laidMet Tryd.prog (("loop.example/g00701/impl.fits", Rows.laid_loop_example_g00701_impl_fits) :: ("loop.example/g00701/impl.intents", Rows.laid_loop_example_g00701_impl_intents) :: rest) W) : FitsAt W ∧ IntentsAt W :=
  ⟨fitsAt_of_laid h, intentsAt_of_laid (laidMet.tail h)⟩
end Go.Proofs.YtfjhpfgffbghdaaDoor
