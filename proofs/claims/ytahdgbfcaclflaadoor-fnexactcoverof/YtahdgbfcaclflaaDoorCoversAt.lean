/-
  What a row's list gives of the table of what is covered below.
-/
import Derived.Test.YtahdgbfcaclflaaDoorTabElem
import Derived.Test.YtahdgbfcaclflaaDoorLockPlain
namespace Go.Proofs.YtahdgbfcaclflaaDoor
open Go.RowKit

/-- The table of what is covered below, cell for cell. -/
def CoversAt (w : World) : Prop := ∀ m : Nat, m < 6 → w.cell? ⟨2, m, none⟩ = some (.int .i64 (coverI m))

theorem CoversAt.lt {w : World} (h : CoversAt w) : 2 < w.heap.size := World.block_lt_of_cell? w _ (h 0 (by decide))
theorem CoversAt.below {n : Nat} {w w' : World} (h : CoversAt w) (hb : Below n w w') (hn : 2 < n) : CoversAt w' := fun m hm => (hb.cell (p := ⟨_, _, none⟩) hn).trans (h m hm)

theorem six_coverings {p : Nat → Prop} (h0 : p 0) (h1 : p 1) (h2 : p 2) (h3 : p 3) (h4 : p 4) (h5 : p 5) : ∀ m, m < 6 → p m := by
  intro m hm
  rcases (by omega : m = 0 ∨ m = 1 ∨ m = 2 ∨ m = 3 ∨ m = 4 ∨ m = 5) with rfl | rfl | rfl | rfl | rfl | rfl <;> assumption

set_option maxRecDepth 100000 in
theorem coversAt_of_laid {W : World} {rest : List (String × DataW Unit)} (h : laidMet Tryd.prog (("loop.example/g00701/impl.coversBelow", Rows.laid_loop_example_g00701_impl_coversBelow) :: rest) W) : CoversAt W := by
  obtain ⟨ps, ⟨g, t, cs, fuel, p, q, hg, ht, hv, hd, _, _⟩, _, _⟩ := h
  obtain rfl := Option.some.inj ((show Tryd.prog.globalNamed "loop.example/g00701/impl.coversBelow" = some 2 by kernel_rfl).symm.trans hg)
  obtain rfl := Option.some.inj ((show (Tryd.prog.globals[2]?).map (·.type) = some 65 by kernel_rfl).symm.trans ht)
  have hd' : DataW.trod _ Tryd.prog W _ _ _ fuel 65 cs.toList = some (.agg [.lit (.int .i64 0), .lit (.int .i64 0), .lit (.int .i64 0), .lit (.int .i64 3), .lit (.int .i64 3), .lit (.int .i64 5)], p) := hd
  have hr := row_ints6 hd'
  have G : ∀ m (x : Int), [(0 : Int), 0, 0, 3, 3, 5][m]? = some x → W.cell? ⟨2, m, none⟩ = some (.int .i64 x) := fun m x hx => by
    rw [World.var?_cell hg hv, ← Array.getElem?_toList]; exact hr m x hx
  exact six_coverings (p := fun m => W.cell? ⟨2, m, none⟩ = some (.int .i64 (coverI m))) (G 0 _ rfl) (G 1 _ rfl) (G 2 _ rfl) (G 3 _ rfl) (G 4 _ rfl) (G 5 _ rfl)
end Go.Proofs.YtahdgbfcaclflaaDoor
