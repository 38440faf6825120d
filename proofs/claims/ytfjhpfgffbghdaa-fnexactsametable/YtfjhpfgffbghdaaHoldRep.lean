/-
  Holds of locks: how one lies as a value and a list of them in memory, to be read and as one's own.
-/
import Derived.Test.YtfjhpfgffbghdaaTreeRep
namespace Go.Proofs.Ytfjhpfgffbghdaa
open Go.RowKit

structure PHold where
  session : Int
  node : Int
  mode : Int

def holdNil : PHold := ⟨0, 0, 0⟩

@[reducible] def holdVal (x : PHold) : Value := .agg #[.int .i64 x.session, .int .i64 x.node, .int .i64 x.mode]

/-- Three cells are a hold. -/
structure HoldAt (w : World) (b o : Nat) (x : PHold) : Prop where
  c0 : w.cell? ⟨b, o, none⟩ = some (.int .i64 x.session)
  c1 : w.cell? ⟨b, o + 1, none⟩ = some (.int .i64 x.node)
  c2 : w.cell? ⟨b, o + 2, none⟩ = some (.int .i64 x.mode)

theorem HoldAt.below {n₀ : Nat} {w w' : World} {b o : Nat} {x : PHold} (h : HoldAt w b o x) (hlt : b < n₀) (hb : Below n₀ w w') : HoldAt w' b o x where
  c0 := (hb.cell (p := ⟨b, o, none⟩) hlt).trans h.c0
  c1 := (hb.cell (p := ⟨b, o + 1, none⟩) hlt).trans h.c1
  c2 := (hb.cell (p := ⟨b, o + 2, none⟩) hlt).trans h.c2

/-- The value is a list of holds, in a block below n₀. -/
def HoldsAt (n₀ : Nat) (w : World) (v : Value) (l : List PHold) : Prop :=
  ∃ (a : Option Addr) (cap : Nat), v = .slice a l.length cap ∧ (l = [] ∨ ∃ b off, a = some ⟨b, off, none⟩ ∧ b < n₀ ∧ ∀ j, j < l.length → HoldAt w b (off + j * 3) (l[j]?.getD holdNil))

theorem HoldsAt.below {n₀ n₁ : Nat} {w w' : World} {v : Value} {l : List PHold} (h : HoldsAt n₀ w v l) (hn : n₀ ≤ n₁) (hb : Below n₀ w w') : HoldsAt n₁ w' v l := by
  obtain ⟨a, cap, rfl, h⟩ := h
  refine ⟨a, cap, rfl, h.imp id ?_⟩
  rintro ⟨b, off, rfl, hlt, hc⟩
  exact ⟨b, off, rfl, by omega, fun j hj => (hc j hj).below hlt hb⟩

theorem HoldsAt.wide {n₀ n₁ : Nat} {w : World} {v : Value} {l : List PHold} (h : HoldsAt n₀ w v l) (hn : n₀ ≤ n₁) : HoldsAt n₁ w v l := h.below hn (Below.refl _ _)

theorem HoldsAt.form {n₀ : Nat} {w : World} {v : Value} {l : List PHold} (h : HoldsAt n₀ w v l) : ∃ a cap, v = .slice a l.length cap := by
  obtain ⟨a, cap, rfl, _⟩ := h
  exact ⟨a, cap, rfl⟩

/-- A list of holds in a block of its own. -/
def HoldsOwn (lo hi : Nat) (w : World) (v : Value) (l : List PHold) : Prop :=
  ∃ b cap cs, v = .slice (some ⟨b, 0, none⟩) l.length cap ∧ l.length ≤ cap ∧ lo ≤ b ∧ b < hi ∧ w.heap[b]? = some (.cells cs 42 (0, 0)) ∧ ∀ j, j < l.length → cs[j * 3]? = some (.int .i64 (l[j]?.getD holdNil).session) ∧ cs[j * 3 + 1]? = some (.int .i64 (l[j]?.getD holdNil).node) ∧ cs[j * 3 + 2]? = some (.int .i64 (l[j]?.getD holdNil).mode)

theorem HoldsOwn.at {lo hi : Nat} {w : World} {v : Value} {l : List PHold} (h : HoldsOwn lo hi w v l) : HoldsAt hi w v l := by
  obtain ⟨b, cap, cs, rfl, h0, h1, h2, h3, h4⟩ := h
  refine ⟨_, cap, rfl, .inr ⟨b, 0, rfl, h2, fun j hj => ?_⟩⟩
  obtain ⟨g0, g1, g2⟩ := h4 j hj
  rw [Nat.zero_add]
  exact ⟨by rw [cell_of_heap h3, g0], by rw [cell_of_heap h3, g1], by rw [cell_of_heap h3, g2]⟩

theorem HoldsOwn.heap {lo hi lo' hi' : Nat} {w w' : World} {v : Value} {l : List PHold} (h : HoldsOwn lo hi w v l) (hl : lo' ≤ lo) (hh : hi ≤ hi') (hb : ∀ b, lo ≤ b → b < hi → w'.heap[b]? = w.heap[b]?) : HoldsOwn lo' hi' w' v l := by
  obtain ⟨b, cap, cs, rfl, h0, h1, h2, h3, h4⟩ := h
  exact ⟨b, cap, cs, rfl, h0, by omega, by omega, (hb b h1 h2).trans h3, h4⟩

theorem HoldsOwn.below {lo hi : Nat} {w w' : World} {v : Value} {l : List PHold} (h : HoldsOwn lo hi w v l) (hb : Below hi w w') : HoldsOwn lo hi w' v l := h.heap (Nat.le_refl _) (Nat.le_refl _) fun b _ h2 => hb.block b h2

theorem HoldsOwn.form {lo hi : Nat} {w : World} {v : Value} {l : List PHold} (h : HoldsOwn lo hi w v l) : ∃ a cap, v = .slice a l.length cap := by
  obtain ⟨b, cap, _, rfl, _⟩ := h
  exact ⟨_, cap, rfl⟩
end Go.Proofs.Ytfjhpfgffbghdaa
