/-
  Right lists of holds rise: each session and node comes once; the one lock that a session has on a node.
-/
import Derived.Test.YtahdgbfcaclflaaDoorLockDoc
namespace Go.Proofs.YtahdgbfcaclflaaDoor

theorem lessB_trans {a b c : PHold} (h : lessB a b = true) (k : lessB b c = true) : lessB a c = true := by
  rw [lessB_iff] at *; omega

theorem HoldsP.less {d : PDoc} {L : List PHold} (h : HoldsP d L) : ∀ {i j : Nat}, i < j → j < L.length → lessB (L[i]?.getD holdNil) (L[j]?.getD holdNil) = true
  | i, 0, hij, _ => absurd hij (by omega)
  | i, j + 1, hij, hj => by
    have h1 := (h.ok (j + 1) hj).2 (by omega)
    rw [Nat.add_sub_cancel] at h1
    by_cases e : i = j
    · subst e; exact h1
    · exact lessB_trans (h.less (i := i) (j := j) (by omega) (by omega)) h1

theorem HoldsP.once {d : PDoc} {L : List PHold} (h : HoldsP d L) {x y : PHold} (hx : x ∈ L) (hy : y ∈ L) (hs : x.session = y.session) (hn : x.node = y.node) : x = y := by
  obtain ⟨i, hi, rfl⟩ := List.getElem_of_mem hx
  obtain ⟨j, hj, rfl⟩ := List.getElem_of_mem hy
  have key : ∀ {a b : Nat} (ha : a < L.length) (hb : b < L.length), a < b → L[a].session = L[b].session → L[a].node = L[b].node → False := fun ha hb hab e1 e2 => by
    have := h.less hab hb
    rw [List.getElem?_eq_getElem ha, List.getElem?_eq_getElem hb, Option.getD_some, Option.getD_some, lessB_iff] at this
    omega
  rcases Nat.lt_trichotomy i j with hlt | rfl | hgt
  · exact (key hi hj hlt hs hn).elim
  · rfl
  · exact (key hj hi hgt hs.symm hn.symm).elim

def isAt (s i : Int) (x : PHold) : Bool := x.session == s && x.node == i
theorem isAt_iff {s i : Int} {x : PHold} : isAt s i x = true ↔ x.session = s ∧ x.node = i := by simp [isAt]

/-- The mode of a session's own lock on a node, 0 of none. -/
def ownI (L : List PHold) (s i : Int) : Int := match L.find? (isAt s i) with | some x => x.mode | none => 0

theorem ownI_none {L : List PHold} {s i : Int} (h : ∀ x ∈ L, isAt s i x = false) : ownI L s i = 0 := by
  unfold ownI
  rw [List.find?_eq_none.2 (fun x hx => by rw [h x hx]; simp)]
theorem ownI_some {L : List PHold} {s i : Int} {k : Nat} (hk : k < L.length) (h : ∀ j, j < k → isAt s i (L[j]?.getD holdNil) = false) (h1 : isAt s i (L[k]?.getD holdNil) = true) : ownI L s i = (L[k]?.getD holdNil).mode := by
  unfold ownI
  rw [List.getElem?_eq_getElem hk, Option.getD_some] at *
  have : L.find? (isAt s i) = some L[k] := by
    rw [List.find?_eq_some_iff_getElem]
    refine ⟨h1, k, hk, rfl, fun j hj => ?_⟩
    have := h j hj
    rw [List.getElem?_eq_getElem (by omega), Option.getD_some] at this
    rw [this]; rfl
  rw [this]
theorem ownI_cases (L : List PHold) (s i : Int) : ownI L s i = 0 ∨ ∃ x ∈ L, x.session = s ∧ x.node = i ∧ ownI L s i = x.mode := by
  unfold ownI
  cases h : L.find? (isAt s i) with
  | none => exact .inl rfl
  | some x =>
    obtain ⟨a, b⟩ := isAt_iff.1 (List.find?_some h)
    exact .inr ⟨x, List.mem_of_find?_eq_some h, a, b, rfl⟩
theorem HoldsP.own {d : PDoc} {L : List PHold} (h : HoldsP d L) {x : PHold} (hx : x ∈ L) : ownI L x.session x.node = x.mode := by
  unfold ownI
  cases hf : L.find? (isAt x.session x.node) with
  | none => have := List.find?_eq_none.1 hf x hx; simp [isAt] at this
  | some y =>
    obtain ⟨a, b⟩ := isAt_iff.1 (List.find?_some hf)
    have : y = x := h.once (List.mem_of_find?_eq_some hf) hx a b
    rw [this]
end Go.Proofs.YtahdgbfcaclflaaDoor
