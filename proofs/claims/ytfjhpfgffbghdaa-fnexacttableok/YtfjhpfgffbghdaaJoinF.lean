/-
  Holds of locks: how one lies as a value and a list of them in memory, to be read and as one's own.
  Lists of holds on a document, and when they are right; the codes of what the calls on locks ask first.
-/
import Derived.Test.YtfjhpfgffbghdaaJoinA
import Derived.Test.YtfjhpfgffbghdaaAskDocJ
namespace Go.Proofs.Ytfjhpfgffbghdaa
open Go.RowKit

structure PHold where
  session : Int
  node : Int
  mode : Int

def holdNil : PHold := ⟨0, 0, 0⟩

@[reducible] def holdVal (x : PHold) : Value := .agg #[.int .i64 x.session, .int .i64 x.node, .int .i64 x.mode]

/-- Three cells are a hold. -/
structure HoldAt (w : World) (b o : Nat) (x : PHold) : Prop where
  c0 : w.cell? ⟨b, o, none⟩ = some (.int .i64 x.session)
  c1 : w.cell? ⟨b, o + 1, none⟩ = some (.int .i64 x.node)
  c2 : w.cell? ⟨b, o + 2, none⟩ = some (.int .i64 x.mode)

theorem HoldAt.below {n₀ : Nat} {w w' : World} {b o : Nat} {x : PHold} (h : HoldAt w b o x) (hlt : b < n₀) (hb : Below n₀ w w') : HoldAt w' b o x where
  c0 := (hb.cell (p := ⟨b, o, none⟩) hlt).trans h.c0
  c1 := (hb.cell (p := ⟨b, o + 1, none⟩) hlt).trans h.c1
  c2 := (hb.cell (p := ⟨b, o + 2, none⟩) hlt).trans h.c2

/-- The value is a list of holds, in a block below n₀. -/
def HoldsAt (n₀ : Nat) (w : World) (v : Value) (l : List PHold) : Prop :=
  ∃ (a : Option Addr) (cap : Nat), v = .slice a l.length cap ∧ (l = [] ∨ ∃ b off, a = some ⟨b, off, none⟩ ∧ b < n₀ ∧ ∀ j, j < l.length → HoldAt w b (off + j * 3) (l[j]?.getD holdNil))

theorem HoldsAt.below {n₀ n₁ : Nat} {w w' : World} {v : Value} {l : List PHold} (h : HoldsAt n₀ w v l) (hn : n₀ ≤ n₁) (hb : Below n₀ w w') : HoldsAt n₁ w' v l := by
  obtain ⟨a, cap, rfl, h⟩ := h
  refine ⟨a, cap, rfl, h.imp id ?_⟩
  rintro ⟨b, off, rfl, hlt, hc⟩
  exact ⟨b, off, rfl, by omega, fun j hj => (hc j hj).below hlt hb⟩

theorem HoldsAt.wide {n₀ n₁ : Nat} {w : World} {v : Value} {l : List PHold} (h : HoldsAt n₀ w v l) (hn : n₀ ≤ n₁) : HoldsAt n₁ w v l := h.below hn (Below.refl _ _)

theorem HoldsAt.form {n₀ : Nat} {w : World} {v : Value} {l : List PHold} (h : HoldsAt n₀ w v l) : ∃ a cap, v = .slice a l.length cap := by
  obtain ⟨a, cap, rfl, _⟩ := h
  exact ⟨a, cap, rfl⟩

/-- A list of holds in a block of its own. -/
def HoldsOwn (lo hi : Nat) (w : World) (v : Value) (l : List PHold) : Prop :=
  ∃ b cap cs, v = .slice (some ⟨b, 0, none⟩) l.length cap ∧ l.length ≤ cap ∧ lo ≤ b ∧ b < hi ∧ w.heap[b]? = some (.cells cs 42 (0, 0)) ∧ ∀ j, j < l.length → cs[j * 3]? = some (.int .i64 (l[j]?.getD holdNil).session) ∧ cs[j * 3 + 1]? = some (.int .i64 (l[j]?.getD holdNil).node) ∧ cs[j * 3 + 2]? = some (.int .i64 (l[j]?.getD holdNil).mode)

theorem HoldsOwn.at {lo hi : Nat} {w : World} {v : Value} {l : List PHold} (h : HoldsOwn lo hi w v l) : HoldsAt hi w v l := by
  obtain ⟨b, cap, cs, rfl, h0, h1, h2, h3, h4⟩ := h
  refine ⟨_, cap, rfl, .inr ⟨b, 0, rfl, h2, fun j hj => ?_⟩⟩
  obtain ⟨g0, g1, g2⟩ := h4 j hj
  rw [Nat.zero_add]
  exact ⟨by rw [cell_of_heap h3, g0], by rw [cell_of_heap h3, g1], by rw [cell_of_heap h3, g2]⟩

theorem HoldsOwn.heap {lo hi lo' hi' : Nat} {w w' : World} {v : Value} {l : List PHold} (h : HoldsOwn lo hi w v l) (hl : lo' ≤ lo) (hh : hi ≤ hi') (hb : ∀ b, lo ≤ b → b < hi → w'.heap[b]? = w.heap[b]?) : HoldsOwn lo' hi' w' v l := by
  obtain ⟨b, cap, cs, rfl, h0, h1, h2, h3, h4⟩ := h
  exact ⟨b, cap, cs, rfl, h0, by omega, by omega, (hb b h1 h2).trans h3, h4⟩

theorem HoldsOwn.below {lo hi : Nat} {w w' : World} {v : Value} {l : List PHold} (h : HoldsOwn lo hi w v l) (hb : Below hi w w') : HoldsOwn lo hi w' v l := h.heap (Nat.le_refl _) (Nat.le_refl _) fun b _ h2 => hb.block b h2

theorem HoldsOwn.form {lo hi : Nat} {w : World} {v : Value} {l : List PHold} (h : HoldsOwn lo hi w v l) : ∃ a cap, v = .slice a l.length cap := by
  obtain ⟨b, cap, _, rfl, _⟩ := h
  exact ⟨_, cap, rfl⟩
end Go.Proofs.Ytfjhpfgffbghdaa

namespace Go.Proofs.Ytfjhpfgffbghdaa

def lessB (a b : PHold) : Bool := decide (a.session < b.session) || (decide (a.session = b.session) && decide (a.node < b.node))
theorem lessB_iff {a b : PHold} : lessB a b = true ↔ a.session < b.session ∨ a.session = b.session ∧ a.node < b.node := by simp [lessB]

def HoldP (d : PDoc) (h : PHold) : Prop := (1 ≤ h.session ∧ h.session ≤ 999) ∧ h.node ∈ idsOf d.nodes ∧ (1 ≤ h.mode ∧ h.mode ≤ 5)

def OkAt (d : PDoc) (L : List PHold) (i : Nat) : Prop := HoldP d (L[i]?.getD holdNil) ∧ (0 < i → lessB (L[i - 1]?.getD holdNil) (L[i]?.getD holdNil) = true)

structure HoldsP (d : PDoc) (L : List PHold) : Prop where
  len : L.length ≤ 30
  ok : ∀ i, i < L.length → OkAt d L i

structure LocksP (d : PDoc) (L : List PHold) : Prop where
  good : Good d
  holds : HoldsP d L

/-- The code of what all calls on locks ask first. -/
noncomputable def heldAsk (d : PDoc) (L : List PHold) : Int := by
  classical exact if 4096 < L.length then 2 else if LocksP d L then 0 else 1

theorem heldAsk_long {d : PDoc} {L : List PHold} (h : 4096 < L.length) : heldAsk d L = 2 := by unfold heldAsk; rw [if_pos h]
theorem heldAsk_bad {d : PDoc} {L : List PHold} (h : ¬ 4096 < L.length) (hn : ¬ LocksP d L) : heldAsk d L = 1 := by unfold heldAsk; rw [if_neg h, if_neg hn]
theorem heldAsk_ok {d : PDoc} {L : List PHold} (h : LocksP d L) : heldAsk d L = 0 := by
  unfold heldAsk; rw [if_neg (by have := h.holds.len; omega), if_pos h]
theorem heldAsk_zero {d : PDoc} {L : List PHold} (h : heldAsk d L = 0) : LocksP d L := by
  unfold heldAsk at h
  split at h
  · cases h
  · split at h
    · assumption
    · cases h

/-- The code of what the calls on a session and a node ask first. -/
noncomputable def lockAsk (d : PDoc) (L : List PHold) (s i : Int) : Int := by
  classical exact if heldAsk d L = 0 then if 1 ≤ s ∧ s ≤ 999 then if i ∈ idsOf d.nodes then 0 else 5 else 4 else heldAsk d L

theorem lockAsk_bad {d : PDoc} {L : List PHold} {s i : Int} (h : heldAsk d L ≠ 0) : lockAsk d L s i = heldAsk d L := by unfold lockAsk; rw [if_neg h]
theorem lockAsk_range {d : PDoc} {L : List PHold} {s i : Int} (h : heldAsk d L = 0) (hs : ¬ (1 ≤ s ∧ s ≤ 999)) : lockAsk d L s i = 4 := by unfold lockAsk; rw [if_pos h, if_neg hs]
theorem lockAsk_none {d : PDoc} {L : List PHold} {s i : Int} (h : heldAsk d L = 0) (hs : 1 ≤ s ∧ s ≤ 999) (hi : i ∉ idsOf d.nodes) : lockAsk d L s i = 5 := by unfold lockAsk; rw [if_pos h, if_pos hs, if_neg hi]
theorem lockAsk_ok {d : PDoc} {L : List PHold} {s i : Int} (h : heldAsk d L = 0) (hs : 1 ≤ s ∧ s ≤ 999) (hi : i ∈ idsOf d.nodes) : lockAsk d L s i = 0 := by unfold lockAsk; rw [if_pos h, if_pos hs, if_pos hi]
theorem lockAsk_zero {d : PDoc} {L : List PHold} {s i : Int} (h : lockAsk d L s i = 0) : LocksP d L ∧ (1 ≤ s ∧ s ≤ 999) ∧ i ∈ idsOf d.nodes := by
  unfold lockAsk at h
  split at h
  · rename_i h0
    split at h
    · rename_i hs
      split at h
      · rename_i hi
        exact ⟨heldAsk_zero h0, hs, hi⟩
      · cases h
    · cases h
  · rename_i h0; exact absurd h h0

/-- The code of what the calls on a hold ask first. -/
noncomputable def holdAsk (d : PDoc) (L : List PHold) (x : PHold) : Int := if lockAsk d L x.session x.node = 0 then if 1 ≤ x.mode ∧ x.mode ≤ 5 then 0 else 19 else lockAsk d L x.session x.node

theorem holdAsk_bad {d : PDoc} {L : List PHold} {x : PHold} (h : lockAsk d L x.session x.node ≠ 0) : holdAsk d L x = lockAsk d L x.session x.node := by unfold holdAsk; rw [if_neg h]
theorem holdAsk_mode {d : PDoc} {L : List PHold} {x : PHold} (h : lockAsk d L x.session x.node = 0) (hm : ¬ (1 ≤ x.mode ∧ x.mode ≤ 5)) : holdAsk d L x = 19 := by unfold holdAsk; rw [if_pos h, if_neg hm]
theorem holdAsk_ok {d : PDoc} {L : List PHold} {x : PHold} (h : lockAsk d L x.session x.node = 0) (hm : 1 ≤ x.mode ∧ x.mode ≤ 5) : holdAsk d L x = 0 := by unfold holdAsk; rw [if_pos h, if_pos hm]
theorem holdAsk_zero {d : PDoc} {L : List PHold} {x : PHold} (h : holdAsk d L x = 0) : LocksP d L ∧ HoldP d x := by
  unfold holdAsk at h
  split at h
  · rename_i h0
    obtain ⟨a, b, c⟩ := lockAsk_zero h0
    split at h
    · rename_i hm; exact ⟨a, b, c, hm⟩
    · cases h
  · rename_i h0; exact absurd h h0
end Go.Proofs.Ytfjhpfgffbghdaa
