/-
  A lock laid into a right list of them, plainly: where it stands, and what the list is then.
  The join of two modes: what the specification and the program answer.
-/
import Derived.Test.YtfjhpfgffbghdaaJoinG
import Derived.Test.YtfjhpfgffbghdaaJoinF
import Derived.Test.YtfjhpfgffbghdaaBasicInJ
namespace Go.Proofs.Ytfjhpfgffbghdaa

/-- Those before the place are less, the others are not. -/
def PlaceP (L : List PHold) (t : PHold) (p : Nat) : Prop := p ≤ L.length ∧ (∀ j, j < p → lessB (L[j]?.getD holdNil) t = true) ∧ (∀ j, p ≤ j → j < L.length → lessB (L[j]?.getD holdNil) t = false)

def SortedH (L : List PHold) : Prop := ∀ i j, i < j → j < L.length → lessB (L[i]?.getD holdNil) (L[j]?.getD holdNil) = true

theorem SortedH.before {L : List PHold} (h : SortedH L) {t : PHold} {k : Nat} (hk : k < L.length) (hl : lessB (L[k]?.getD holdNil) t = true) : ∀ j, j < k + 1 → lessB (L[j]?.getD holdNil) t = true := fun j hj => by
  by_cases e : j = k
  · rw [e]; exact hl
  · exact lessB_trans (h j k (by omega) hk) hl

theorem SortedH.behind {L : List PHold} (h : SortedH L) {t : PHold} {k : Nat} (hl : lessB (L[k]?.getD holdNil) t = false) : ∀ j, k ≤ j → j < L.length → lessB (L[j]?.getD holdNil) t = false := fun j hj hlt => by
  by_cases e : j = k
  · rw [e]; exact hl
  · cases hb : lessB (L[j]?.getD holdNil) t with
    | false => rfl
    | true =>
      have := lessB_trans (h k j (by omega) hlt) hb
      rw [hl] at this; cases this

theorem lessB_no {x y : PHold} {s i : Int} (h : lessB x y = true) (hy : isAt s i y = true) : isAt s i x = false := by
  cases hx : isAt s i x with
  | false => rfl
  | true =>
    obtain ⟨a, b⟩ := isAt_iff.1 hx
    obtain ⟨c, d⟩ := isAt_iff.1 hy
    rw [lessB_iff] at h
    omega

theorem lessB_no' {x y : PHold} {s i : Int} (h : lessB x y = true) (hx : isAt s i x = true) : isAt s i y = false := by
  cases hy : isAt s i y with
  | false => rfl
  | true => rw [lessB_no h hy] at hx; cases hx

/-- One round of laying a lock into a list: whether it has been laid, and the list so far. -/
def putStep (h : PHold) (s : Bool × List PHold) (x : PHold) : Bool × List PHold :=
  (s.1 || !lessB x h, (if s.1 = false ∧ lessB x h = false then s.2 ++ [h] else s.2) ++ if isAt h.session h.node x = true then [] else [x])
def putRun (h : PHold) (L : List PHold) : Bool × List PHold := L.foldl (putStep h) (false, [])
/-- The lock that is laid: joined with what its session has there. -/
def putKey (L : List PHold) (h : PHold) : PHold := ⟨h.session, h.node, joinI h.mode (ownI L h.session h.node)⟩
def putFin (k : PHold) (s : Bool × List PHold) : List PHold := if s.1 = true then s.2 else s.2 ++ [k]
def putL (L : List PHold) (h : PHold) : List PHold := putFin (putKey L h) (putRun (putKey L h) L)

theorem putRun_snoc (h : PHold) {L : List PHold} {k : Nat} (hk : k < L.length) : putRun h (L.take (k + 1)) = putStep h (putRun h (L.take k)) (L[k]?.getD holdNil) := by
  rw [List.getElem?_eq_getElem hk, Option.getD_some, List.take_succ_eq_append_getElem hk, putRun, List.foldl_append]; rfl

theorem putStep_len (h : PHold) (s : Bool × List PHold) (x : PHold) : (putStep h s x).2.length ≤ s.2.length + 2 := by
  unfold putStep; simp only [List.length_append]; split <;> split <;> simp
theorem putRun_len (h : PHold) : ∀ (L : List PHold) (k : Nat), k ≤ L.length → (putRun h (L.take k)).2.length ≤ k * 2
  | _, 0, _ => by simp [putRun]
  | L, k + 1, hk => by
    rw [putRun_snoc h (by omega)]
    have h1 := putStep_len h (putRun h (L.take k)) (L[k]?.getD holdNil)
    have h2 := putRun_len h L k (by omega)
    omega

theorem fold_less (h : PHold) : ∀ (l o : List PHold), (∀ x ∈ l, lessB x h = true) → l.foldl (putStep h) (false, o) = (false, o ++ l)
  | [], _, _ => by simp
  | x :: l, o, hl => by
    have h1 := hl x List.mem_cons_self
    have h2 : isAt h.session h.node x = false := lessB_no h1 (isAt_iff.2 ⟨rfl, rfl⟩)
    rw [List.foldl_cons]
    have : putStep h (false, o) x = (false, o ++ [x]) := by simp [putStep, h1, h2]
    rw [this, fold_less h l _ (fun y hy => hl y (List.mem_cons_of_mem _ hy))]
    simp

theorem fold_rest (h : PHold) : ∀ (l o : List PHold), (∀ x ∈ l, isAt h.session h.node x = false) → l.foldl (putStep h) (true, o) = (true, o ++ l)
  | [], _, _ => by simp
  | x :: l, o, hl => by
    have h2 := hl x List.mem_cons_self
    rw [List.foldl_cons]
    have : putStep h (true, o) x = (true, o ++ [x]) := by simp [putStep, h2]
    rw [this, fold_rest h l _ (fun y hy => hl y (List.mem_cons_of_mem _ hy))]
    simp

theorem mem_at {L : List PHold} {x : PHold} (h : x ∈ L) : ∃ j, j < L.length ∧ L[j]?.getD holdNil = x := by
  obtain ⟨j, hj, rfl⟩ := List.getElem_of_mem h
  exact ⟨j, hj, by rw [List.getElem?_eq_getElem hj, Option.getD_some]⟩

theorem put_end {L : List PHold} {t : PHold} (hP : PlaceP L t L.length) : putFin t (putRun t L) = L ++ [t] := by
  unfold putRun
  rw [fold_less t L [] (fun x hx => by obtain ⟨j, hj, rfl⟩ := mem_at hx; exact hP.2.1 j hj)]
  simp [putFin]

theorem put_mid {L : List PHold} {t : PHold} {p : Nat} (hs : SortedH L) (hP : PlaceP L t p) (hp : p < L.length) :
    putFin t (putRun t L) = L.take p ++ t :: (if isAt t.session t.node (L[p]?.getD holdNil) = true then [] else [L[p]?.getD holdNil]) ++ L.drop (p + 1) := by
  have e : L = L.take p ++ (L[p]?.getD holdNil :: L.drop (p + 1)) := by
    rw [List.getElem?_eq_getElem hp, Option.getD_some, ← List.drop_eq_getElem_cons hp, List.take_append_drop]
  have hno := hP.2.2 p (Nat.le_refl _) hp
  have hrest : ∀ x ∈ L.drop (p + 1), isAt t.session t.node x = false := fun x hx => by
    obtain ⟨j, hj, rfl⟩ := List.getElem_of_mem hx
    rw [List.length_drop] at hj
    have h1 := hs p (p + 1 + j) (by omega) (by omega)
    rw [List.getElem_drop]
    rw [List.getElem?_eq_getElem (i := p + 1 + j) (by omega), Option.getD_some] at h1
    cases hat : isAt t.session t.node L[p + 1 + j] with
    | false => rfl
    | true =>
      obtain ⟨a, b⟩ := isAt_iff.1 hat
      rw [lessB_iff, a, b, ← lessB_iff] at h1
      rw [hno] at h1; cases h1
  have hless : ∀ x ∈ L.take p, lessB x t = true := fun x hx => by
    obtain ⟨j, hj, rfl⟩ := List.getElem_of_mem hx
    rw [List.length_take] at hj
    have := hP.2.1 j (by omega)
    rw [List.getElem?_eq_getElem (by omega), Option.getD_some] at this
    rw [List.getElem_take]; exact this
  have hrun : putRun t L = (L.take p ++ (L[p]?.getD holdNil :: L.drop (p + 1))).foldl (putStep t) (false, []) := by rw [← e]; rfl
  rw [hrun, List.foldl_append, fold_less t _ [] hless, List.foldl_cons]
  have hst : putStep t (false, [] ++ L.take p) (L[p]?.getD holdNil) = (true, (L.take p ++ [t]) ++ if isAt t.session t.node (L[p]?.getD holdNil) = true then [] else [L[p]?.getD holdNil]) := by simp [putStep, hno]
  rw [hst, fold_rest t _ _ hrest]
  simp [putFin]

/-- A session has a lock on a node. -/
def HasAt (L : List PHold) (s i : Int) : Prop := ∃ x ∈ L, isAt s i x = true

theorem at_memH {L : List PHold} {k : Nat} (h : k < L.length) : L[k]?.getD holdNil ∈ L := by
  rw [List.getElem?_eq_getElem h, Option.getD_some]; exact List.getElem_mem _

theorem place_has {L : List PHold} {s i : Int} {p : Nat} (hs : SortedH L) (hP : PlaceP L ⟨s, i, 0⟩ p) : (p < L.length ∧ isAt s i (L[p]?.getD holdNil) = true) ↔ HasAt L s i := by
  constructor
  · rintro ⟨h1, h2⟩; exact ⟨_, at_memH h1, h2⟩
  · rintro ⟨x, hx, hat⟩
    obtain ⟨h1, h2, h3⟩ := hP
    obtain ⟨j, hj, hjx⟩ := mem_at hx
    obtain ⟨ha, hb⟩ := isAt_iff.1 hat
    have hpj : p ≤ j := by
      rcases Nat.lt_or_ge j p with h | h
      · have := h2 j h
        rw [hjx, lessB_iff] at this
        simp only at this
        omega
      · exact h
    have hpl : p < L.length := by omega
    refine ⟨hpl, Decidable.byContradiction fun hno => ?_⟩
    have hne : p ≠ j := fun e => hno (by rw [e, hjx]; exact hat)
    have hl := hs p j (by omega) hj
    have h5 := h3 p (Nat.le_refl _) hpl
    rw [hjx, lessB_iff] at hl
    rw [← Bool.not_eq_true, lessB_iff] at h5
    rw [isAt_iff] at hno
    simp only at h5
    omega
end Go.Proofs.Ytfjhpfgffbghdaa

namespace Go.Proofs.Ytfjhpfgffbghdaa
open Go.RowKit

def modeB (m : Int) : Bool := inB m 0 5
theorem modeB_iff {m : Int} : modeB m = true ↔ ModeP m := by unfold modeB ModeP; exact inB_iff

theorem specMode0_any (m : Int) (w : World) :
    Calls Try.prog 55 #[.int .i64 m, .int .i64 0, .int .i64 5] w fun e w' => e = .returned (.bool (modeB m)) ∧ w' = w := specIn_any m 0 5 w

set_option maxHeartbeats 400000 in
theorem specJoin_le (a b : Int) (h : a ≤ b) (w : World) :
    Calls Try.prog 67 #[.int .i64 a, .int .i64 b] w fun e w' => e = .returned (.int .i64 (joinI a b)) ∧ w' = w := by
  by_cases h2 : a = 2 ∧ b = 3
  · obtain ⟨rfl, rfl⟩ := h2
    go_enter Try.func67, Try.ntmps67
    go_wp2
    go_ret
    exact ⟨rfl, rfl⟩
  · have HJ : Hid (joinI a b = b) := joinI_le h h2 rfl
    go_enter Try.func67, Try.ntmps67
    go_wp2
    all_goals first | (exfalso; omega) | skip
    all_goals
      go_ret
      exact ⟨ret_int HJ.out.symm, rfl⟩

set_option maxHeartbeats 400000 in
theorem specJoin_any (a b : Int) (w : World) :
    Calls Try.prog 67 #[.int .i64 a, .int .i64 b] w fun e w' => e = .returned (.int .i64 (joinI a b)) ∧ w' = w := by
  by_cases h : a ≤ b
  · exact specJoin_le a b h w
  · have HC := hide (specJoin_le b a (by omega) w)
    have HJ : Hid (joinI b a = joinI a b) := joinI_comm b a
    go_enter Try.func67, Try.ntmps67
    go_wp2_with (go_at_call 67; refine HC.out.mono ?_; rintro e w' ⟨rfl, rfl⟩)
    go_ret
    exact ⟨ret_int HJ.out, rfl⟩

set_option maxHeartbeats 2000000 in
theorem implJoin_any (a b : Int) (ha : ModeP a) (hb : ModeP b) (w : World) :
    Calls Try.prog 69 #[.int .i64 a, .int .i64 b] w fun e w' => e = .returned (.int .i64 (joinI a b)) ∧ w' = w := by
  rcases ha.cases with rfl | rfl | rfl | rfl | rfl | rfl <;> rcases hb.cases with rfl | rfl | rfl | rfl | rfl | rfl
  all_goals
    go_enter Try.func69, Try.ntmps69
    go_wp2
    go_ret
    exact ⟨rfl, rfl⟩
end Go.Proofs.Ytfjhpfgffbghdaa
