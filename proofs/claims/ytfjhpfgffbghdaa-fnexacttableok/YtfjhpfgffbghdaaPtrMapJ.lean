/-
  A map from numbers to pointers that the call itself has made.
-/
import Derived.Test.YtfjhpfgffbghdaaJoinA
import Derived.Maps.Own
import Derived.Maps.Views
namespace Go.Proofs.Ytfjhpfgffbghdaa
open Go.RowKit

/-- A pointer to a block's beginning, read as the block's number. -/
def ptrR : Value → Option (DataW Unit × List MemPlace)
  | .pointer none => some (.nil, [])
  | .pointer (some ⟨b, 0, none⟩) => some (.lit (.int .i64 b), [])
  | _ => none

def ptrTo (c : Option Nat) : Value := .pointer (c.map fun b => ⟨b, 0, none⟩)

theorem ptrR_to (c : Option Nat) : ptrR (ptrTo c) = some (match c with | some b => .lit (.int .i64 b) | none => .nil, []) := by
  cases c <;> rfl

theorem ptrR_inv {v : Value} {c : Option Nat} {ps : List MemPlace} (h : ptrR v = some (match c with | some b => .lit (.int .i64 (b : Int)) | none => .nil, ps)) : v = ptrTo c := by
  unfold ptrR at h
  split at h
  · cases c with
    | none => rfl
    | some b => simp at h
  · rename_i b
    cases c with
    | none => simp at h
    | some b' =>
      simp only [Option.some.injEq, Prod.mk.injEq, DataW.lit.injEq, Lit.int.injEq, true_and] at h
      have : b = b' := by omega
      subst this; rfl
  · cases h

/-- Block b is a map from numbers to pointers. -/
def PtrMap (w : World) (b n : Nat) (m : Int → Option Nat) : Prop :=
  ∃ D : DataW Unit, w.ownsMap Try.prog 3 ptrR b n D ∧ Maps.IsMap D ∧ ∀ i, D.atKey (.int .i64 i) .nil = match m i with | some c => .lit (.int .i64 c) | none => .nil

theorem ownsMap_below {w w' : World} {k : TypeId} {b n : Nat} {D : DataW Unit} (h : w.ownsMap Try.prog k ptrR b n D) (hb : Below w.heap.size w w') : w'.ownsMap Try.prog k ptrR b n D := by
  have hlt := h.lt
  obtain ⟨es, clock, hh, F, hs, hD⟩ := h
  exact ⟨es, clock, (hb.block b hlt).trans hh, F, hs, hD⟩

theorem ownsMap_far {w : World} {k : TypeId} {b n : Nat} {D : DataW Unit} (h : w.ownsMap Try.prog k ptrR b n D) {c : Nat} {cs : Array Value} {t : TypeId} {fr : Nat × Nat} (hc : w.heap[c]? = some (.cells cs t fr)) : c ≠ b := by
  obtain ⟨es, clock, hh, _⟩ := h
  intro e; subst e; rw [hh] at hc; cases hc

theorem ptrMap_made (w : World) : PtrMap (w.alloc (.map #[] 0)) w.heap.size 0 (fun _ => none) :=
  ⟨.map [], World.ownsMap_made w _ _ _, ⟨[], rfl⟩, fun _ => rfl⟩

theorem PtrMap.lt {w : World} {b n : Nat} {m : Int → Option Nat} (h : PtrMap w b n m) : b < w.heap.size := let ⟨_, h, _⟩ := h; h.lt

theorem PtrMap.kept {w w' : World} {b n : Nat} {m : Int → Option Nat} {row : Option Nat} (h : PtrMap w b n m) (hg : w.grownBy w' row) (hne : some b ≠ row) : PtrMap w' b n m := by
  obtain ⟨D, h1, h2, h3⟩ := h
  exact ⟨D, h1.kept hg hne, h2, h3⟩

theorem PtrMap.alloc {w : World} {b n : Nat} {m : Int → Option Nat} (h : PtrMap w b n m) (o : Obj) : PtrMap (w.alloc o) b n m := h.kept (World.grownBy_alloc w o none) (by simp)

theorem PtrMap.heap {w w' : World} {b n : Nat} {m : Int → Option Nat} (h : PtrMap w b n m) (he : w'.heap[b]? = w.heap[b]?) : PtrMap w' b n m := by
  obtain ⟨D, ⟨es, clock, hb, F, hs, hD⟩, h2, h3⟩ := h
  exact ⟨D, ⟨es, clock, he.trans hb, F, hs, hD⟩, h2, h3⟩

theorem ptrMap_zero (w : World) : (zeroValue 70).run Try.prog w = .ok (.pointer none) w := by kernel_rfl

theorem PtrMap.look {w : World} {b n : Nat} {m : Int → Option Nat} (h : PtrMap w b n m) {i : Int} (hi : Wf64 i) :
    (Instr.lookup 127 (.map (some b)) (.int .i64 i) false).run Try.prog w = .ok (ptrTo (m i)) w := by
  obtain ⟨D, h1, h2, h3⟩ := h
  obtain ⟨v, ps, hr, hv⟩ := h1.lookup (Maps.int_keyed Try.underlying3) Try.underlying127 (ptrMap_zero w) (zd := .nil) (zp := []) rfl (Maps.keyOf_int_mk Try.underlying3 hi)
  rw [h3 i] at hv
  rw [hr, ptrR_inv hv]

theorem PtrMap.put {w' : World} {b n : Nat} {m : Int → Option Nat} {D : DataW Unit} {i : Int} {c : Nat} (h2 : Maps.IsMap D) (h3 : ∀ i, D.atKey (.int .i64 i) .nil = match m i with | some c => .lit (.int .i64 c) | none => .nil)
    (h : w'.ownsMap Try.prog 3 ptrR b n (D.put (.int .i64 i) (.lit (.int .i64 c)))) : PtrMap w' b n (fun j => if j = i then some c else m j) := by
  refine ⟨_, h, ?_, fun j => ?_⟩
  · obtain ⟨es, rfl⟩ := h2; exact ⟨_, rfl⟩
  · by_cases e : j = i
    · subst e; rw [Maps.atKey_put_same h2 (by trivial)]; simp
    · rw [Maps.atKey_put_other (by intro h; simp at h; exact e h), h3]; simp [e]

end Go.Proofs.Ytfjhpfgffbghdaa
