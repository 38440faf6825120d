/-
  What the row's list gives of the table of amounts: its cells hold the least and the most of each Many, and its mark.
  The least number of kids of a term, and whether terms are right: what the specification answers.
-/
import Derived.Test.YtmcopoonnhcdjaaDoorJoin14
import Derived.Test.YtmcopoonnhcdjaaDoorRows
import Derived.OpenShut
import Derived.ChangeArms
import Derived.FnData
import Derived.MakeChecks
import Derived.Lib.LaidTab
import Derived.Test.YtmcopoonnhcdjaaDoorJoin17
import Derived.Test.YtmcopoonnhcdjaaDoorJoin3
namespace Go.Proofs.YtmcopoonnhcdjaaDoor
open Go.RowKit

def markOfMany (k : Nat) : ByteArray := if k = 0 then ⟨#[]⟩ else if k = 1 then ⟨#[63]⟩ else if k = 2 then ⟨#[42]⟩ else ⟨#[43]⟩
def topOf (k : Nat) : Nat := if k < 2 then 1 else 12

/-- The table of amounts, cell for cell. -/
structure AmtAt (w : World) : Prop where
  mark : ∀ k, k < 4 → w.cell? ⟨1, k * 3, none⟩ = some (.string (markOfMany k))
  least : ∀ k, k < 4 → w.cell? ⟨1, k * 3 + 1, none⟩ = some (.int .i64 (leastOf (k : Int)))
  most : ∀ k, k < 4 → w.cell? ⟨1, k * 3 + 2, none⟩ = some (.int .i64 (topOf k))

theorem AmtAt.below {w w' : World} (h : AmtAt w) (hb : Below w.heap.size w w') : AmtAt w' := by
  have hg : 1 < w.heap.size := World.block_lt_of_cell? w _ (h.mark 0 (by decide))
  exact ⟨fun k hk => (hb.cell (p := ⟨_, _, none⟩) hg).trans (h.mark k hk), fun k hk => (hb.cell (p := ⟨_, _, none⟩) hg).trans (h.least k hk), fun k hk => (hb.cell (p := ⟨_, _, none⟩) hg).trans (h.most k hk)⟩

set_option maxRecDepth 100000 in
/-- Three cells that read as a text and two numbers hold these. -/
theorem amt_elem {H : Type} {enc : TypeId × Value → H} {w : World} {base fuel : Nat} {sp : Nat → Bool} {held : Bool} {cs : List Value} {l : List UInt8} {a b : Int} {p : List MemPlace}
    (h : DataW.trod enc Tryd.prog w base sp held fuel 147 cs = some (.agg [.lit (.string l), .lit (.int .i64 a), .lit (.int .i64 b)], p)) :
    cs = [.string ⟨l.toArray⟩, .int .i64 a, .int .i64 b] := by
  have cI : Tryd.prog.cellsOf 3 = 1 := by kernel_rfl
  have cS : Tryd.prog.cellsOf 9 = 1 := by kernel_rfl
  have cA : Tryd.prog.cellsOf 147 = 3 := by kernel_rfl
  obtain ⟨xs, n, _, ex, hlen, hxs, hf⟩ := DataW.trod_struct Tryd.underlying147 h
  rw [cA] at hlen
  have e := (DataW.agg.inj (Prod.mk.inj ex).1)
  match cs, hlen with
  | [c0, c1, c2], _ =>
    match xs, hxs with
    | [y0, y1, y2], _ =>
      simp only [List.map_cons, List.map_nil, List.cons.injEq, and_true] at e
      obtain ⟨q0, q1, q2⟩ := e
      have f0 : DataW.trod enc Tryd.prog w base sp held n 9 [c0] = some y0 := by have := hf 0 _ rfl; simpa [cS] using this
      have f1 : DataW.trod enc Tryd.prog w base sp held n 3 [c1] = some y1 := by have := hf 1 _ rfl; simpa [cI] using this
      have f2 : DataW.trod enc Tryd.prog w base sp held n 3 [c2] = some y2 := by have := hf 2 _ rfl; simpa [cI] using this
      obtain ⟨s0, h0, e0, _⟩ := DataW.trod_string Tryd.underlying9 f0
      obtain ⟨n1, h1, e1, _⟩ := DataW.trod_int Tryd.underlying3 f1
      obtain ⟨n2, h2, e2, _⟩ := DataW.trod_int Tryd.underlying3 f2
      subst e0 e1 e2
      simp only [DataW.lit.injEq, Lit.string.injEq, Lit.int.injEq, true_and] at q0 q1 q2
      simp only [List.cons.injEq, and_true] at h0 h1 h2
      subst q0 q1 q2 h0 h1 h2
      rfl

theorem list4 {α : Type} : ∀ {l : List α}, l.length = 4 → ∃ a b c d, l = [a, b, c, d]
  | [a, b, c, d], _ => ⟨a, b, c, d, rfl⟩

set_option maxRecDepth 100000 in
theorem amtAt_of_laid {W : World} {rest : List (String × DataW Unit)} (h : laidMet Tryd.prog (("loop.example/g00701/impl.amounts", Rows.laid_loop_example_g00701_impl_amounts) :: rest) W) : AmtAt W := by
  obtain ⟨ps, ⟨g, t, cs, fuel, p, q, hg, ht, hv, hd, _, _⟩, _, _⟩ := h
  obtain rfl := Option.some.inj ((show Tryd.prog.globalNamed "loop.example/g00701/impl.amounts" = some 1 by kernel_rfl).symm.trans hg)
  obtain rfl := Option.some.inj ((show (Tryd.prog.globals[1]?).map (·.type) = some 148 by kernel_rfl).symm.trans ht)
  have cA : Tryd.prog.cellsOf 147 = 3 := by kernel_rfl
  have hd' : DataW.trod _ Tryd.prog W _ _ _ fuel 148 cs.toList = some (.agg [.agg [.lit (.string []), .lit (.int .i64 1), .lit (.int .i64 1)], .agg [.lit (.string [63]), .lit (.int .i64 0), .lit (.int .i64 1)], .agg [.lit (.string [42]), .lit (.int .i64 0), .lit (.int .i64 12)], .agg [.lit (.string [43]), .lit (.int .i64 1), .lit (.int .i64 12)]], p) := hd
  obtain ⟨xs, m, _, ex, hlen, hl, hel⟩ := DataW.trod_array Tryd.underlying148 hd'
  have e := (DataW.agg.inj (Prod.mk.inj ex).1)
  obtain ⟨y0, y1, y2, y3, rfl⟩ := list4 hl
  simp only [List.map_cons, List.map_nil, List.cons.injEq, and_true] at e
  obtain ⟨q0, q1, q2, q3⟩ := e
  obtain ⟨d0, p0⟩ := y0
  obtain ⟨d1, p1⟩ := y1
  obtain ⟨d2, p2⟩ := y2
  obtain ⟨d3, p3⟩ := y3
  subst q0 q1 q2 q3
  have h0 := hel 0 (by decide)
  have h1 := hel 1 (by decide)
  have h2 := hel 2 (by decide)
  have h3 := hel 3 (by decide)
  rw [cA] at h0 h1 h2 h3
  have k0 := amt_elem h0
  have k1 := amt_elem h1
  have k2 := amt_elem h2
  have k3 := amt_elem h3
  have G : ∀ k j, k < 4 → j < 3 → W.cell? ⟨1, k * 3 + j, none⟩ = ((cs.toList.drop (k * 3)).take 3)[j]? := fun k j _ hj => by
    rw [World.var?_cell hg hv, List.getElem?_take, if_pos hj, List.getElem?_drop, Array.getElem?_toList]
  refine ⟨fun k hk => ?_, fun k hk => ?_, fun k hk => ?_⟩
  · have := G k 0 hk (by decide)
    rw [Nat.add_zero] at this
    rw [this]
    match k, hk with
    | 0, _ => rw [k0]; rfl
    | 1, _ => rw [k1]; rfl
    | 2, _ => rw [k2]; rfl
    | 3, _ => rw [k3]; rfl
  · rw [G k 1 hk (by decide)]
    match k, hk with
    | 0, _ => rw [k0]; rfl
    | 1, _ => rw [k1]; rfl
    | 2, _ => rw [k2]; rfl
    | 3, _ => rw [k3]; rfl
  · rw [G k 2 hk (by decide)]
    match k, hk with
    | 0, _ => rw [k0]; rfl
    | 1, _ => rw [k1]; rfl
    | 2, _ => rw [k2]; rfl
    | 3, _ => rw [k3]; rfl
end Go.Proofs.YtmcopoonnhcdjaaDoor

namespace Go.Proofs.YtmcopoonnhcdjaaDoor
open Go.RowKit

set_option maxHeartbeats 400000 in
theorem specLeast_any (m : Int) (w : World) :
    Calls Tryd.prog 82 #[.int .i64 m] w fun e w' => e = .returned (.int .i64 (leastOf m)) ∧ w' = w := by
  by_cases h0 : m = 0
  · subst h0
    go_enter Tryd.func82, Tryd.ntmps82
    go_wp2
    go_ret
    exact ⟨rfl, rfl⟩
  · have h00 : (m == 0) = false := by simpa using h0
    by_cases h3 : m = 3
    · subst h3
      go_enter Tryd.func82, Tryd.ntmps82
      go_wp2
      go_ret
      exact ⟨rfl, rfl⟩
    · have h33 : (m == 3) = false := by simpa using h3
      have HE : Hid ((leastOf m : Int) = 0) := by simp [Hid, leastOf, h0, h3]
      clear h0 h3
      go_enter Tryd.func82, Tryd.ntmps82
      go_wp2
      go_ret
      exact ⟨ret_int HE.out.symm, rfl⟩
end Go.Proofs.YtmcopoonnhcdjaaDoor
