/-
  A world in which all blocks below a number are as they were, but for one.
-/
import Derived.Test.YtpkblnponeonkaaDoorRowFacts
import Derived.Test.YtpkblnponeonkaaDoorSchRep
import Derived.Test.YtpkblnponeonkaaDoorLawTo
namespace Go.Proofs.YtpkblnponeonkaaDoor
open Go.RowKit

/-- Below N all is as it was, but for block O. -/
structure KeptBut (O N : Nat) (w w' : World) : Prop where
  os : w'.os = w.os
  tape : w'.tape = w.tape
  output : w'.output = w.output
  size : w.heap.size ≤ w'.heap.size
  block : ∀ k, k < N → k ≠ O → w'.heap[k]? = w.heap[k]?

theorem KeptBut.refl (O N : Nat) (w : World) : KeptBut O N w w := ⟨rfl, rfl, rfl, Nat.le_refl _, fun _ _ _ => rfl⟩
theorem KeptBut.below {O N : Nat} {a b c : World} (h : KeptBut O N a b) (hb : Below N b c) : KeptBut O N a c :=
  ⟨hb.os.trans h.os, hb.tape.trans h.tape, hb.output.trans h.output, Nat.le_trans h.size hb.size, fun k hk hne => (hb.block k hk).trans (h.block k hk hne)⟩
theorem KeptBut.under {O N B : Nat} {w w' : World} (h : KeptBut O N w w') (hO : B ≤ O) (hN : B ≤ N) : Below B w w' :=
  ⟨h.os, h.tape, h.output, h.size, fun k hk => h.block k (by omega) (by omega)⟩
theorem KeptBut.cell {O N : Nat} {w w' : World} (h : KeptBut O N w w') (b o : Nat) (hb : b < N) (hne : b ≠ O) : w'.cell? ⟨b, o, none⟩ = w.cell? ⟨b, o, none⟩ := by
  simp [World.cell?, h.block b hb hne]
theorem KeptBut.grown {O N : Nat} {a b c : World} {v : Value} (h : KeptBut O N a b) (hg : b.grownBy c v.ownBlock) (hv : ∀ k, v.ownBlock = some k → k = O ∨ N ≤ k) (hN : N ≤ b.heap.size) : KeptBut O N a c :=
  ⟨hg.os.trans h.os, hg.tape.trans h.tape, hg.output.trans h.output, Nat.le_trans h.size hg.size, fun k hk hne => (hg.block k (by omega) (fun e => by rcases hv k e.symm with h | h <;> omega)).trans (h.block k hk hne)⟩

theorem IntsAt.but {O N : Nat} {w w' : World} {g cap : Nat} {ks : List Int} (h : IntsAt N w (.slice (some ⟨g, 0, none⟩) ks.length cap) ks) (hb : KeptBut O N w w') (hO : g ≠ O) : IntsAt N w' (.slice (some ⟨g, 0, none⟩) ks.length cap) ks := by
  obtain ⟨a, cap', e, h⟩ := h
  simp only [Value.slice.injEq, true_and] at e
  obtain ⟨rfl, rfl⟩ := e
  refine ⟨_, _, rfl, h.imp id ?_⟩
  rintro ⟨b, off, e, hlt, hc⟩
  simp only [Option.some.injEq, Addr.mk.injEq] at e
  obtain ⟨rfl, rfl, -⟩ := e
  exact ⟨g, 0, rfl, hlt, fun j hj => (hb.cell g _ hlt hO).trans (hc j hj)⟩

theorem keep_cell {W w1 : World} (hb : Below W.heap.size W w1) (b o : Nat) (v : Value) (h : W.cell? ⟨b, o, none⟩ = some v) : w1.cell? ⟨b, o, none⟩ = some v :=
  (hb.cell (p := ⟨b, o, none⟩) (World.block_lt_of_cell? W _ h)).trans h
theorem keep_soft {W w1 : World} (hb : Below W.heap.size W w1) (b o : Nat) (v : Value) (h : W.cell? ⟨b, o, none⟩ = some v) (h' : W.frozen? ⟨b, o, none⟩ = false) : w1.frozen? ⟨b, o, none⟩ = false :=
  (hb.frozen (p := ⟨b, o, none⟩) (World.block_lt_of_cell? W _ h)).trans h'

theorem below_set5 {n : Nat} {W w1 : World} {B : Nat} (hb : Below n W w1) (h : n ≤ B) (a b c d e : Value) :
    Below n W (((((w1.setCell ⟨B, 0, none⟩ a).setCell ⟨B, 1, none⟩ b).setCell ⟨B, 2, none⟩ c).setCell ⟨B, 3, none⟩ d).setCell ⟨B, 4, none⟩ e) :=
  ((((hb.setCell (p := ⟨B, 0, none⟩) h a).setCell (p := ⟨B, 1, none⟩) h b).setCell (p := ⟨B, 2, none⟩) h c).setCell (p := ⟨B, 3, none⟩) h d).setCell (p := ⟨B, 4, none⟩) h e

/-- A block of five cells that reads as these. -/
def Five (w : World) (B : Nat) (a b c d e : Value) : Prop :=
  B < w.heap.size ∧ w.cell? ⟨B, 0, none⟩ = some a ∧ w.cell? ⟨B, 1, none⟩ = some b ∧ w.cell? ⟨B, 2, none⟩ = some c ∧ w.cell? ⟨B, 3, none⟩ = some d ∧ w.cell? ⟨B, 4, none⟩ = some e
theorem five_new (w : World) (t : TypeId) (a b c d e : Value) : Five (w.alloc (.cells #[a, b, c, d, e] t)) w.heap.size a b c d e := by
  have h := alloc_new w (.cells #[a, b, c, d, e] t)
  exact ⟨(Array.getElem?_eq_some_iff.1 h).1, cell_of_heap h 0, cell_of_heap h 1, cell_of_heap h 2, cell_of_heap h 3, cell_of_heap h 4⟩
theorem five_set {w : World} {B : Nat} {t : TypeId} {b0 b1 b2 b3 b4 : Value} (h : w.heap[B]? = some (.cells #[b0, b1, b2, b3, b4] t (0, 0))) (a b c d e : Value) :
    Five (((((w.setCell ⟨B, 0, none⟩ a).setCell ⟨B, 1, none⟩ b).setCell ⟨B, 2, none⟩ c).setCell ⟨B, 3, none⟩ d).setCell ⟨B, 4, none⟩ e) B a b c d e := by
  have h5 := (five_world w B 0 a b c d e h).1
  simp only [Nat.zero_add] at h5
  exact ⟨(Array.getElem?_eq_some_iff.1 h5).1, cell_of_heap h5 0, cell_of_heap h5 1, cell_of_heap h5 2, cell_of_heap h5 3, cell_of_heap h5 4⟩
theorem Five.below {w w' : World} {B N : Nat} {a b c d e : Value} (h : Five w B a b c d e) (hb : Below N w w') (hN : B < N) : Five w' B a b c d e :=
  ⟨Nat.lt_of_lt_of_le h.1 hb.size, (hb.cell (p := ⟨B, 0, none⟩) hN).trans h.2.1, (hb.cell (p := ⟨B, 1, none⟩) hN).trans h.2.2.1, (hb.cell (p := ⟨B, 2, none⟩) hN).trans h.2.2.2.1, (hb.cell (p := ⟨B, 3, none⟩) hN).trans h.2.2.2.2.1, (hb.cell (p := ⟨B, 4, none⟩) hN).trans h.2.2.2.2.2⟩
theorem Five.but {w w' : World} {O N B : Nat} {a b c d e : Value} (h : Five w B a b c d e) (hb : KeptBut O N w w') (hN : B < N) (hO : B ≠ O) : Five w' B a b c d e :=
  ⟨Nat.lt_of_lt_of_le h.1 hb.size, (hb.cell B 0 hN hO).trans h.2.1, (hb.cell B 1 hN hO).trans h.2.2.1, (hb.cell B 2 hN hO).trans h.2.2.2.1, (hb.cell B 3 hN hO).trans h.2.2.2.2.1, (hb.cell B 4 hN hO).trans h.2.2.2.2.2⟩
end Go.Proofs.YtpkblnponeonkaaDoor
