/-
  A lock laid into the box of locks, as the program does it.
-/
import Derived.Test.YtfjhpfgffbghdaaDropImplJ
import Derived.Test.YtfjhpfgffbghdaaInsertLockJ
import Derived.Test.YtfjhpfgffbghdaaJoinK
namespace Go.Proofs.Ytfjhpfgffbghdaa
open Go.RowKit

theorem insertLock_any (ad : Int → Nat) (B vb i : Nat) (v : Value) (L : List PHold) (x : PHold) (w : World) (hrow : w.ownsRow B 72 3 v L.length (lockVals ad L)) (hv : w.heap[vb]? = some (.cells #[.int .i64 x.session, .int .i64 x.mode, .pointer (some ⟨ad x.node, 0, none⟩)] 72 (0, 0))) (hne : v.ownBlock ≠ some vb) (hi : i ≤ L.length) (hL : L.length ≤ 1048576) (hB : B ≤ w.heap.size) :
    Calls Try.prog 70 #[v, .int .i64 i, .slice (some ⟨vb, 0, none⟩) 1 1] w fun e w' => ∃ v', e = .returned v' ∧ w'.ownsRow B 72 3 v' (L.length + 1) (lockVals ad (L.take i ++ x :: L.drop i)) ∧ Below B w w' := by
  by_cases he : i = L.length
  · subst he
    rw [List.take_length, List.drop_length]
    exact insertLock_end ad B vb v L x w hrow hv hL hB
  · obtain ⟨g, cap, rfl, hgz, hgb⟩ := row_block hrow (by omega)
    by_cases hr : L.length + 1 ≤ cap
    · exact (insertLock_shift ad B g cap vb i L x w hrow hv (fun e => hne (by rw [e]; rfl)) (by omega) hr hL).mono fun e w' ⟨he, h1, h2⟩ => ⟨_, he, h1, h2⟩
    · exact insertLock_grow ad B g cap vb i L x w hrow hv (by omega) (by omega) hL hB

/-- The list with a lock laid into it. -/
def joinP (L : List PHold) (x : PHold) (p : Nat) (r : Bool) : List PHold :=
  match r with
  | true => L.take p ++ ⟨x.session, x.node, joinI (L[p]?.getD holdNil).mode x.mode⟩ :: L.drop (p + 1)
  | false => L.take p ++ x :: L.drop p

theorem ownI_at {L : List PHold} {s i : Int} {p : Nat} (hs : SortedH L) (hp : p < L.length) (hat : isAt s i (L[p]?.getD holdNil) = true) : ownI L s i = (L[p]?.getD holdNil).mode :=
  ownI_some hp (fun j hj => lessB_no (hs j p hj hp) hat) hat

theorem lessB_key {x : PHold} {s i a b : Int} : lessB x ⟨s, i, a⟩ = lessB x ⟨s, i, b⟩ := by
  rw [Bool.eq_iff_iff, lessB_iff, lessB_iff]

theorem PlaceP.key {L : List PHold} {s i a b : Int} {p : Nat} (h : PlaceP L ⟨s, i, a⟩ p) : PlaceP L ⟨s, i, b⟩ p :=
  ⟨h.1, fun j hj => (lessB_key (b := a)).trans (h.2.1 j hj), fun j h1 h2 => (lessB_key (b := a)).trans (h.2.2 j h1 h2)⟩

/-- What the program makes is what the specification makes. -/
theorem joinP_eq {L : List PHold} {x : PHold} {p : Nat} {r : Bool} (hs : SortedH L) (hm : 0 ≤ x.mode) (hP : PlaceP L ⟨x.session, x.node, 0⟩ p) (hr : r = true ↔ p < L.length ∧ isAt x.session x.node (L[p]?.getD holdNil) = true) : putL L x = joinP L x p r := by
  have hPk : PlaceP L (putKey L x) p := hP.key
  unfold putL
  cases r
  · have hno : ownI L x.session x.node = 0 := ownI_none fun y hy => by
      cases hat : isAt x.session x.node y with
      | false => rfl
      | true =>
        have := (place_has hs hP).2 ⟨y, hy, hat⟩
        have := hr.2 this; cases this
    have hk : putKey L x = x := by unfold putKey; rw [hno, joinI_zero hm]
    rw [hk] at hPk ⊢
    by_cases hp : p < L.length
    · rw [put_mid hs hPk hp]
      have : ¬ isAt x.session x.node (L[p]?.getD holdNil) = true := fun h => by have := hr.2 ⟨hp, h⟩; cases this
      rw [if_neg this]
      have e : L.drop p = L[p]?.getD holdNil :: L.drop (p + 1) := by
        rw [List.getElem?_eq_getElem hp, Option.getD_some, ← List.drop_eq_getElem_cons hp]
      unfold joinP
      rw [e]; simp
    · have hpe : p = L.length := by have := hPk.1; omega
      subst hpe
      rw [put_end hPk]
      simp [joinP]
  · obtain ⟨hp, hat⟩ := hr.1 rfl
    rw [put_mid hs hPk hp]
    have hk : putKey L x = ⟨x.session, x.node, joinI (L[p]?.getD holdNil).mode x.mode⟩ := by unfold putKey; rw [ownI_at hs hp hat, joinI_comm]
    rw [hk]
    simp only
    rw [if_pos hat]
    simp [joinP]
end Go.Proofs.Ytfjhpfgffbghdaa
