/-
  What a row's list gives of the table of modes that fit.
-/
import Derived.Test.YtahdgbfcaclflaaDoorTabElem
import Derived.Test.YtahdgbfcaclflaaDoorLockPlain
namespace Go.Proofs.YtahdgbfcaclflaaDoor
open Go.RowKit

/-- The table of what fits, cell for cell. -/
def FitsAt (w : World) : Prop := ∀ a b : Nat, a < 6 → b < 6 → w.cell? ⟨0, a * 6 + b, none⟩ = some (.bool (fitsB a b))

theorem FitsAt.lt {w : World} (h : FitsAt w) : 0 < w.heap.size := World.block_lt_of_cell? w _ (h 0 0 (by decide) (by decide))
theorem FitsAt.below {n : Nat} {w w' : World} (h : FitsAt w) (hb : Below n w w') (hn : 0 < n) : FitsAt w' := fun a b ha hb' => (hb.cell (p := ⟨_, _, none⟩) hn).trans (h a b ha hb')

theorem bool_elem {H : Type} {enc : TypeId × Value → H} {w : World} {base fuel : Nat} {sp : Nat → Bool} {held : Bool} {cs : List Value} {a : Bool} {p : List MemPlace}
    (h : DataW.trod enc Tryd.prog w base sp held fuel 4 cs = some (.lit (.bool a), p)) : cs = [.bool a] := by
  obtain ⟨n1, h1, e1⟩ := DataW.trod_bool Tryd.underlying4 h
  have e2 := (Prod.mk.inj e1).1
  simp only [DataW.lit.injEq, Lit.bool.injEq] at e2
  rw [h1, e2]

set_option maxRecDepth 100000 in
/-- Six answers in a row. -/
theorem row_bools6 {H : Type} {enc : TypeId × Value → H} {w : World} {base fuel : Nat} {sp : Nat → Bool} {held : Bool} {cs : List Value} {a b c d e f : Bool} {p : List MemPlace}
    (h : DataW.trod enc Tryd.prog w base sp held fuel 62 cs = some (.agg [.lit (.bool a), .lit (.bool b), .lit (.bool c), .lit (.bool d), .lit (.bool e), .lit (.bool f)], p)) :
    ∀ (j : Nat) (x : Bool), [a, b, c, d, e, f][j]? = some x → cs[j]? = some (Value.bool x) := by
  have cI : Tryd.prog.cellsOf 4 = 1 := by kernel_rfl
  obtain ⟨xs, m, _, ex, hlen, hl, hel⟩ := DataW.trod_array Tryd.underlying62 h
  have e := (DataW.agg.inj (Prod.mk.inj ex).1)
  obtain ⟨⟨d0, p0⟩, ⟨d1, p1⟩, ⟨d2, p2⟩, ⟨d3, p3⟩, ⟨d4, p4⟩, ⟨d5, p5⟩, rfl⟩ := list6 hl
  simp only [List.map_cons, List.map_nil, List.cons.injEq, and_true] at e
  obtain ⟨q0, q1, q2, q3, q4, q5⟩ := e
  subst q0 q1 q2 q3 q4 q5
  have h0 := hel 0 (by decide)
  have h1 := hel 1 (by decide)
  have h2 := hel 2 (by decide)
  have h3 := hel 3 (by decide)
  have h4 := hel 4 (by decide)
  have h5 := hel 5 (by decide)
  rw [cI] at h0 h1 h2 h3 h4 h5
  exact six_of (p := fun j x => cs[j]? = some (.bool x)) rfl (take_one (bool_elem h0)) (take_one (bool_elem h1)) (take_one (bool_elem h2)) (take_one (bool_elem h3)) (take_one (bool_elem h4)) (take_one (bool_elem h5))

theorem take_six {α : Type} {l : List α} {a b : Nat} (hb : b < 6) {v : α} (h : ((l.drop (a * 6)).take 6)[b]? = some v) : l[a * 6 + b]? = some v := by
  rwa [List.getElem?_take, if_pos hb, List.getElem?_drop] at h

theorem six_six {p : Nat → Nat → Prop} (h : ∀ b, b < 6 → p 0 b ∧ p 1 b ∧ p 2 b ∧ p 3 b ∧ p 4 b ∧ p 5 b) : ∀ a b, a < 6 → b < 6 → p a b := by
  intro a b ha hb
  obtain ⟨h0, h1, h2, h3, h4, h5⟩ := h b hb
  rcases (by omega : a = 0 ∨ a = 1 ∨ a = 2 ∨ a = 3 ∨ a = 4 ∨ a = 5) with rfl | rfl | rfl | rfl | rfl | rfl <;> assumption

theorem six_row {p : Nat → Prop} (h0 : p 0) (h1 : p 1) (h2 : p 2) (h3 : p 3) (h4 : p 4) (h5 : p 5) : ∀ m, m < 6 → p m := by
  intro m hm
  rcases (by omega : m = 0 ∨ m = 1 ∨ m = 2 ∨ m = 3 ∨ m = 4 ∨ m = 5) with rfl | rfl | rfl | rfl | rfl | rfl <;> assumption

set_option maxRecDepth 100000 in
theorem fitsAt_of_laid {W : World} {rest : List (String × DataW Unit)} (h : laidMet Tryd.prog (("loop.example/g00701/impl.fits", Rows.laid_loop_example_g00701_impl_fits) :: rest) W) : FitsAt W := by
  obtain ⟨ps, ⟨g, t, cs, fuel, p, q, hg, ht, hv, hd, _, _⟩, _, _⟩ := h
  obtain rfl := Option.some.inj ((show Tryd.prog.globalNamed "loop.example/g00701/impl.fits" = some 0 by kernel_rfl).symm.trans hg)
  obtain rfl := Option.some.inj ((show (Tryd.prog.globals[0]?).map (·.type) = some 63 by kernel_rfl).symm.trans ht)
  have cR : Tryd.prog.cellsOf 62 = 6 := by kernel_rfl
  have hd' : DataW.trod _ Tryd.prog W _ _ _ fuel 63 cs.toList = some (.agg [.agg [.lit (.bool true), .lit (.bool true), .lit (.bool true), .lit (.bool true), .lit (.bool true), .lit (.bool true)], .agg [.lit (.bool true), .lit (.bool true), .lit (.bool true), .lit (.bool true), .lit (.bool true), .lit (.bool false)], .agg [.lit (.bool true), .lit (.bool true), .lit (.bool true), .lit (.bool false), .lit (.bool false), .lit (.bool false)], .agg [.lit (.bool true), .lit (.bool true), .lit (.bool false), .lit (.bool true), .lit (.bool false), .lit (.bool false)], .agg [.lit (.bool true), .lit (.bool true), .lit (.bool false), .lit (.bool false), .lit (.bool false), .lit (.bool false)], .agg [.lit (.bool true), .lit (.bool false), .lit (.bool false), .lit (.bool false), .lit (.bool false), .lit (.bool false)]], p) := hd
  obtain ⟨xs, m, _, ex, hlen, hl, hel⟩ := DataW.trod_array Tryd.underlying63 hd'
  have e := (DataW.agg.inj (Prod.mk.inj ex).1)
  obtain ⟨⟨d0, p0⟩, ⟨d1, p1⟩, ⟨d2, p2⟩, ⟨d3, p3⟩, ⟨d4, p4⟩, ⟨d5, p5⟩, rfl⟩ := list6 hl
  simp only [List.map_cons, List.map_nil, List.cons.injEq, and_true] at e
  obtain ⟨q0, q1, q2, q3, q4, q5⟩ := e
  subst q0 q1 q2 q3 q4 q5
  have h0 := hel 0 (by decide)
  have h1 := hel 1 (by decide)
  have h2 := hel 2 (by decide)
  have h3 := hel 3 (by decide)
  have h4 := hel 4 (by decide)
  have h5 := hel 5 (by decide)
  rw [cR] at h0 h1 h2 h3 h4 h5
  have r0 := row_bools6 h0
  have r1 := row_bools6 h1
  have r2 := row_bools6 h2
  have r3 := row_bools6 h3
  have r4 := row_bools6 h4
  have r5 := row_bools6 h5
  have G : ∀ a b x, b < 6 → ((cs.toList.drop (a * 6)).take 6)[b]? = some (.bool x) → W.cell? ⟨0, a * 6 + b, none⟩ = some (.bool x) := fun a b x hb hx => by
    rw [World.var?_cell hg hv, ← Array.getElem?_toList]; exact take_six hb hx
  refine six_six (p := fun a b => W.cell? ⟨0, a * 6 + b, none⟩ = some (.bool (fitsB a b))) ?_
  refine six_row ?_ ?_ ?_ ?_ ?_ ?_
  all_goals exact ⟨G 0 _ _ (by decide) (r0 _ _ rfl), G 1 _ _ (by decide) (r1 _ _ rfl), G 2 _ _ (by decide) (r2 _ _ rfl), G 3 _ _ (by decide) (r3 _ _ rfl), G 4 _ _ (by decide) (r4 _ _ rfl), G 5 _ _ (by decide) (r5 _ _ rfl)⟩
end Go.Proofs.YtahdgbfcaclflaaDoor
