/-
  Which tables are right, plainly.
-/
import Derived.Test.YtfjhpfgffbghdaaJoinF
import Derived.Test.YtfjhpfgffbghdaaTabRepJ
namespace Go.Proofs.Ytfjhpfgffbghdaa

def sessOf (W : List PHold) : List Int := W.map fun x => x.session

/-- A wait is right where it stands: a hold, and of a session that has none ahead of it. -/
def WaitAt (d : PDoc) (W : List PHold) (i : Nat) : Prop := HoldP d (W[i]?.getD holdNil) ∧ (W[i]?.getD holdNil).session ∉ sessOf (W.take i)

structure WaitsP (d : PDoc) (W : List PHold) : Prop where
  len : W.length ≤ 6
  ok : ∀ i, i < W.length → WaitAt d W i

structure TabP (d : PDoc) (t : PTab) : Prop where
  locks : LocksP d t.holds
  waits : WaitsP d t.waits

theorem sessOf_take {W : List PHold} {k : Nat} (hk : k < W.length) : sessOf (W.take (k + 1)) = sessOf (W.take k) ++ [(W[k]?.getD holdNil).session] := by
  unfold sessOf
  rw [List.take_succ_eq_append_getElem hk, List.map_append, List.getElem?_eq_getElem hk, Option.getD_some]; rfl

theorem mem_sess {W : List PHold} {k : Nat} {s : Int} (hk : k ≤ W.length) : s ∈ sessOf (W.take k) ↔ ∃ i, i < k ∧ (W[i]?.getD holdNil).session = s := by
  unfold sessOf
  rw [List.mem_map]
  constructor
  · rintro ⟨x, hx, rfl⟩
    obtain ⟨i, hi, rfl⟩ := List.getElem_of_mem hx
    rw [List.length_take] at hi
    refine ⟨i, by omega, ?_⟩
    rw [List.getElem_take, List.getElem?_eq_getElem (by omega), Option.getD_some]
  · rintro ⟨i, hi, rfl⟩
    refine ⟨W[i]?.getD holdNil, ?_, rfl⟩
    rw [List.getElem?_eq_getElem (by omega), Option.getD_some]
    exact List.mem_take_iff_getElem.2 ⟨i, by omega, rfl⟩
end Go.Proofs.Ytfjhpfgffbghdaa
