/-
  Lists of holds on a document, and when they are right; the codes of what the calls on locks ask first.
-/
import Derived.Test.YtfjhpfgffbghdaaAskDoc
import Derived.Test.YtfjhpfgffbghdaaHoldRep
namespace Go.Proofs.Ytfjhpfgffbghdaa

def lessB (a b : PHold) : Bool := decide (a.session < b.session) || (decide (a.session = b.session) && decide (a.node < b.node))
theorem lessB_iff {a b : PHold} : lessB a b = true ↔ a.session < b.session ∨ a.session = b.session ∧ a.node < b.node := by simp [lessB]

def HoldP (d : PDoc) (h : PHold) : Prop := (1 ≤ h.session ∧ h.session ≤ 999) ∧ h.node ∈ idsOf d.nodes ∧ (1 ≤ h.mode ∧ h.mode ≤ 5)

def OkAt (d : PDoc) (L : List PHold) (i : Nat) : Prop := HoldP d (L[i]?.getD holdNil) ∧ (0 < i → lessB (L[i - 1]?.getD holdNil) (L[i]?.getD holdNil) = true)

structure HoldsP (d : PDoc) (L : List PHold) : Prop where
  len : L.length ≤ 30
  ok : ∀ i, i < L.length → OkAt d L i

structure LocksP (d : PDoc) (L : List PHold) : Prop where
  good : Good d
  holds : HoldsP d L

/-- The code of what all calls on locks ask first. -/
noncomputable def heldAsk (d : PDoc) (L : List PHold) : Int := by
  classical exact if 4096 < L.length then 2 else if LocksP d L then 0 else 1

theorem heldAsk_long {d : PDoc} {L : List PHold} (h : 4096 < L.length) : heldAsk d L = 2 := by unfold heldAsk; rw [if_pos h]
theorem heldAsk_bad {d : PDoc} {L : List PHold} (h : ¬ 4096 < L.length) (hn : ¬ LocksP d L) : heldAsk d L = 1 := by unfold heldAsk; rw [if_neg h, if_neg hn]
theorem heldAsk_ok {d : PDoc} {L : List PHold} (h : LocksP d L) : heldAsk d L = 0 := by
  unfold heldAsk; rw [if_neg (by have := h.holds.len; omega), if_pos h]
theorem heldAsk_zero {d : PDoc} {L : List PHold} (h : heldAsk d L = 0) : LocksP d L := by
  unfold heldAsk at h
  split at h
  · cases h
  · split at h
    · assumption
    · cases h

/-- The code of what the calls on a session and a node ask first. -/
noncomputable def lockAsk (d : PDoc) (L : List PHold) (s i : Int) : Int := by
  classical exact if heldAsk d L = 0 then if 1 ≤ s ∧ s ≤ 999 then if i ∈ idsOf d.nodes then 0 else 5 else 4 else heldAsk d L

theorem lockAsk_bad {d : PDoc} {L : List PHold} {s i : Int} (h : heldAsk d L ≠ 0) : lockAsk d L s i = heldAsk d L := by unfold lockAsk; rw [if_neg h]
theorem lockAsk_range {d : PDoc} {L : List PHold} {s i : Int} (h : heldAsk d L = 0) (hs : ¬ (1 ≤ s ∧ s ≤ 999)) : lockAsk d L s i = 4 := by unfold lockAsk; rw [if_pos h, if_neg hs]
theorem lockAsk_none {d : PDoc} {L : List PHold} {s i : Int} (h : heldAsk d L = 0) (hs : 1 ≤ s ∧ s ≤ 999) (hi : i ∉ idsOf d.nodes) : lockAsk d L s i = 5 := by unfold lockAsk; rw [if_pos h, if_pos hs, if_neg hi]
theorem lockAsk_ok {d : PDoc} {L : List PHold} {s i : Int} (h : heldAsk d L = 0) (hs : 1 ≤ s ∧ s ≤ 999) (hi : i ∈ idsOf d.nodes) : lockAsk d L s i = 0 := by unfold lockAsk; rw [if_pos h, if_pos hs, if_pos hi]
theorem lockAsk_zero {d : PDoc} {L : List PHold} {s i : Int} (h : lockAsk d L s i = 0) : LocksP d L ∧ (1 ≤ s ∧ s ≤ 999) ∧ i ∈ idsOf d.nodes := by
  unfold lockAsk at h
  split at h
  · rename_i h0
    split at h
    · rename_i hs
      split at h
      · rename_i hi
        exact ⟨heldAsk_zero h0, hs, hi⟩
      · cases h
    · cases h
  · rename_i h0; exact absurd h h0

/-- The code of what the calls on a hold ask first. -/
noncomputable def holdAsk (d : PDoc) (L : List PHold) (x : PHold) : Int := if lockAsk d L x.session x.node = 0 then if 1 ≤ x.mode ∧ x.mode ≤ 5 then 0 else 19 else lockAsk d L x.session x.node

theorem holdAsk_bad {d : PDoc} {L : List PHold} {x : PHold} (h : lockAsk d L x.session x.node ≠ 0) : holdAsk d L x = lockAsk d L x.session x.node := by unfold holdAsk; rw [if_neg h]
theorem holdAsk_mode {d : PDoc} {L : List PHold} {x : PHold} (h : lockAsk d L x.session x.node = 0) (hm : ¬ (1 ≤ x.mode ∧ x.mode ≤ 5)) : holdAsk d L x = 19 := by unfold holdAsk; rw [if_pos h, if_neg hm]
theorem holdAsk_ok {d : PDoc} {L : List PHold} {x : PHold} (h : lockAsk d L x.session x.node = 0) (hm : 1 ≤ x.mode ∧ x.mode ≤ 5) : holdAsk d L x = 0 := by unfold holdAsk; rw [if_pos h, if_pos hm]
theorem holdAsk_zero {d : PDoc} {L : List PHold} {x : PHold} (h : holdAsk d L x = 0) : LocksP d L ∧ HoldP d x := by
  unfold holdAsk at h
  split at h
  · rename_i h0
    obtain ⟨a, b, c⟩ := lockAsk_zero h0
    split at h
    · rename_i hm; exact ⟨a, b, c, hm⟩
    · cases h
  · rename_i h0; exact absurd h h0
end Go.Proofs.Ytfjhpfgffbghdaa
