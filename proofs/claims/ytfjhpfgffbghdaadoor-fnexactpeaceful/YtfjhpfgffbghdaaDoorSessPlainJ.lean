/-
  The sessions that have locks, each once, plainly.
-/
import Derived.Test.YtfjhpfgffbghdaaDoorJoinF
import Derived.Lib.SlicesCompact
namespace Go.Proofs.YtfjhpfgffbghdaaDoor

def addS (out : List Int) (s : Int) : List Int := if out.getLast? = some s then out else out ++ [s]
def sessL (zs : List Int) : List Int := zs.foldl addS []
def sessP (L : List PHold) : List Int := sessL (L.map PHold.session)

theorem addS_last (out : List Int) (s : Int) : (addS out s).getLast? = some s := by
  unfold addS; split
  · assumption
  · simp
theorem sessL_snoc (zs : List Int) (z : Int) : sessL (zs ++ [z]) = addS (sessL zs) z := by simp [sessL]
theorem sessL_last : ∀ (zs : List Int), (sessL zs).getLast? = zs.getLast? := by
  intro zs
  rcases List.eq_nil_or_concat zs with rfl | ⟨l, z, rfl⟩
  · rfl
  · rw [List.concat_eq_append, sessL_snoc, addS_last]; simp

theorem sessL_take (zs : List Int) : ∀ m, m ≤ zs.length → Lib.compactUpTo zs.toArray m = sessL (zs.take m)
  | 0, _ => by simp [Lib.compactUpTo, sessL]
  | m + 1, h => by
    rw [Lib.compactUpTo_succ, sessL_take zs m (by omega), List.take_succ_eq_append_getElem (by omega), sessL_snoc]
    have hm : (zs.toArray)[m]! = zs[m] := by simp [getElem!_pos, show m < zs.length by omega]
    unfold addS
    rw [sessL_last, hm]
    by_cases h0 : m = 0
    · subst h0; simp [Lib.keeps]
    · have hl : (zs.take m).getLast? = some (zs[m - 1]'(by omega)) := by
        rw [List.getLast?_eq_getElem?, List.length_take, Nat.min_eq_left (by omega), List.getElem?_take, if_pos (by omega), List.getElem?_eq_getElem (by omega)]
      have hm1 : (zs.toArray)[m - 1]! = zs[m - 1]'(by omega) := by simp [getElem!_pos, show m - 1 < zs.length by omega]
      rw [hl]
      by_cases he : zs[m - 1]'(by omega) = zs[m]
      · rw [Lib.keeps_neg (by omega) (by rw [hm, hm1, he])]; simp [he]
      · rw [Lib.keeps_pos (by rw [hm, hm1]; exact fun e => he e.symm)]; simp [he]

theorem compact_sess (zs : List Int) : Lib.compact zs = sessL zs := by
  unfold Lib.compact; rw [sessL_take zs _ (Nat.le_refl _), List.take_length]

theorem addS_len (out : List Int) (s : Int) : (addS out s).length ≤ out.length + 1 := by
  unfold addS; split <;> simp
theorem sessL_len : ∀ (zs : List Int), (sessL zs).length ≤ zs.length := by
  intro zs
  have : ∀ m, m ≤ zs.length → (sessL (zs.take m)).length ≤ m := by
    intro m
    induction m with
    | zero => intro _; simp [sessL]
    | succ m ih =>
      intro h
      rw [List.take_succ_eq_append_getElem (by omega), sessL_snoc]
      have h1 := addS_len (sessL (zs.take m)) (zs[m]'(by omega))
      have h2 := ih (by omega)
      omega
  have h := this zs.length (Nat.le_refl _)
  rwa [List.take_length] at h

theorem sessP_take {L : List PHold} {k : Nat} (h : k < L.length) : sessP (L.take (k + 1)) = addS (sessP (L.take k)) (L[k]?.getD holdNil).session := by
  unfold sessP
  rw [List.take_succ_eq_append_getElem h, List.map_append, List.map_singleton, sessL_snoc, List.getElem?_eq_getElem h, Option.getD_some]
theorem sessP_len (L : List PHold) : (sessP L).length ≤ L.length := by
  have := sessL_len (L.map PHold.session)
  simpa [sessP] using this
end Go.Proofs.YtfjhpfgffbghdaaDoor
