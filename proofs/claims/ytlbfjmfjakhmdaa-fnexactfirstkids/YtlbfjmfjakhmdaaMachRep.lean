/-
  Machines as plain data, and how they lie in memory; they stay where only new memory is written.
-/
import Derived.Test.YtlbfjmfjakhmdaaSchRep
namespace Go.Proofs.Ytlbfjmfjakhmdaa
open Go.RowKit

structure PMach where
  next : List (List Int)
  final : List Bool

/-- The value is a list of lists of numbers, in blocks below n₀. -/
def RowsAt (n₀ : Nat) (w : World) (v : Value) (l : List (List Int)) : Prop :=
  ∃ (a : Option Addr) (cap : Nat), v = .slice a l.length cap ∧ (l = [] ∨ ∃ b off, a = some ⟨b, off, none⟩ ∧ b < n₀ ∧ ∀ j, j < l.length → ∃ kv, w.cell? ⟨b, off + j, none⟩ = some kv ∧ IntsAt n₀ w kv (l[j]?.getD []))

theorem RowsAt.below {n₀ n₁ : Nat} {w w' : World} {v : Value} {l : List (List Int)} (h : RowsAt n₀ w v l) (hn : n₀ ≤ n₁) (hb : Below n₀ w w') : RowsAt n₁ w' v l := by
  obtain ⟨a, cap, rfl, h⟩ := h
  refine ⟨a, cap, rfl, h.imp id ?_⟩
  rintro ⟨b, off, rfl, hlt, hc⟩
  refine ⟨b, off, rfl, by omega, fun j hj => ?_⟩
  obtain ⟨kv, h1, h2⟩ := hc j hj
  exact ⟨kv, (hb.cell (p := ⟨b, off + j, none⟩) hlt).trans h1, h2.below hn hb⟩

/-- The value is a list of bools, in blocks below n₀. -/
def BoolsAt (n₀ : Nat) (w : World) (v : Value) (l : List Bool) : Prop :=
  ∃ (a : Option Addr) (cap : Nat), v = .slice a l.length cap ∧ (l = [] ∨ ∃ b off, a = some ⟨b, off, none⟩ ∧ b < n₀ ∧ ∀ j, j < l.length → w.cell? ⟨b, off + j, none⟩ = some (.bool (l[j]?.getD false)))

theorem BoolsAt.below {n₀ n₁ : Nat} {w w' : World} {v : Value} {l : List Bool} (h : BoolsAt n₀ w v l) (hn : n₀ ≤ n₁) (hb : Below n₀ w w') : BoolsAt n₁ w' v l := by
  obtain ⟨a, cap, rfl, h⟩ := h
  refine ⟨a, cap, rfl, h.imp id ?_⟩
  rintro ⟨b, off, rfl, hlt, hc⟩
  exact ⟨b, off, rfl, by omega, fun j hj => (hb.cell (p := ⟨b, off + j, none⟩) hlt).trans (hc j hj)⟩

/-- The value is a machine. -/
def MachVal (n₀ : Nat) (w : World) (v : Value) (m : PMach) : Prop :=
  ∃ nv fv, v = .agg #[nv, fv] ∧ RowsAt n₀ w nv m.next ∧ BoolsAt n₀ w fv m.final

theorem MachVal.below {n₀ n₁ : Nat} {w w' : World} {v : Value} {m : PMach} (h : MachVal n₀ w v m) (hn : n₀ ≤ n₁) (hb : Below n₀ w w') : MachVal n₁ w' v m := by
  obtain ⟨nv, fv, rfl, h1, h2⟩ := h
  exact ⟨nv, fv, rfl, h1.below hn hb, h2.below hn hb⟩

theorem MachVal.form {n₀ : Nat} {w : World} {v : Value} {m : PMach} (h : MachVal n₀ w v m) : ∃ a cap a' cap', v = .agg #[.slice a m.next.length cap, .slice a' m.final.length cap'] ∧ MachVal n₀ w (.agg #[.slice a m.next.length cap, .slice a' m.final.length cap']) m ∧ RowsAt n₀ w (.slice a m.next.length cap) m.next ∧ BoolsAt n₀ w (.slice a' m.final.length cap') m.final := by
  have h' := h
  obtain ⟨nv, fv, rfl, h1, h2⟩ := h
  have g1 := h1
  have g2 := h2
  obtain ⟨a, cap, rfl, -⟩ := h1
  obtain ⟨a', cap', rfl, -⟩ := h2
  exact ⟨a, cap, a', cap', rfl, h', g1, g2⟩

/-- Small enough for the laws. -/
structure SmallMach (m : PMach) : Prop where
  next : m.next.length ≤ 1048576
  rows : ∀ x ∈ m.next, x.length ≤ 1048576
  final : m.final.length ≤ 1048576

/-- What the model's memory can hold. -/
structure FitsMach (m : PMach) : Prop where
  next : m.next.length ≤ 9223372036854775807
  rows : ∀ x ∈ m.next, x.length ≤ 9223372036854775807
  final : m.final.length ≤ 9223372036854775807
end Go.Proofs.Ytlbfjmfjakhmdaa
