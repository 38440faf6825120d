/-
  What the program's walk over a tree in memory yields: the ids of the order, one after the other, till it is told to end.
-/
import Derived.Test.YtfjhpfgffbghdaaTreeAtJ
import Derived.RangeFuncNested
import Derived.RangeFuncBound
import Derived.RangeFuncCalls
import Derived.RangeFuncLeaves
import Derived.RangeFuncFrom
import Derived.Shelf.Abstract
import Derived.OwnWalkIn
import Derived.TacticsInMore
import Derived.LoopNIn
import Derived.LoopIn
namespace Go.Proofs.Ytfjhpfgffbghdaa
open Go.RowKit Go.Shelf

attribute [local go_sem] Oper.semAt_some

theorem wideDepth : Fence.wide.depth = none := rfl
theorem wideRound : Fence.wide.round = none := rfl
theorem wideRoom (k : Nat) : Fence.wide.room k := room_wide k
theorem roundAny {m m' : Nat} {P : Program} {l : Nat} {f : FuncId} {tmps : Array Value} {assign body : Code} {w : World} {R : Ending → World → Prop}
    (h : RoundIn Fence.wide m P l f tmps assign body w R) : RoundIn Fence.wide m' P l f tmps assign body w R := ⟨h.1, fun c cs _ => h.2 c cs (wideRoom _)⟩
theorem yieldAny {m : Nat} (m' : Nat) {P : Program} {l : Nat} {args : Array Value} {W : World} {R : Ending → World → Prop} (h : YieldAt Fence.wide m P l args W R) : YieldAt Fence.wide m' P l args W R := by
  obtain ⟨fn, tmps, assign, body, hy, hR⟩ := h
  exact ⟨fn, tmps, assign, body, hy, roundAny hR⟩

/-- What the rounds have been handed, as plain ids. -/
def vals {l : List PNode} (ys : List (IdOf l)) : List Int := ys.map Subtype.val

theorem vals_append {l : List PNode} (a b : List (IdOf l)) : vals (a ++ b) = vals a ++ vals b := by simp [vals]
theorem vals_len {l : List PNode} (a : List (IdOf l)) : (vals a).length = a.length := by simp [vals]

theorem flat_snoc {ks : List Int} {m : Nat} (h : m < ks.length) (f : Int → List Int) : (ks.take (m + 1)).flatMap f = (ks.take m).flatMap f ++ f (ks[m]?.getD 0) := by
  rw [int_snoc h]; simp

theorem flat_split {ks : List Int} {m : Nat} (h : m < ks.length) (f : Int → List Int) : ks.flatMap f = (ks.take m).flatMap f ++ (f (ks[m]?.getD 0) ++ (ks.drop (m + 1)).flatMap f) := by
  have e : ks = ks.take m ++ (ks[m]?.getD 0) :: ks.drop (m + 1) := by rw [List.getElem?_eq_getElem h]; simp
  conv => lhs; rw [e]
  simp

theorem prefix_mid {a b c q : List Int} (h : q <+: b) : a ++ q <+: a ++ (b ++ c) := by
  obtain ⟨r, rfl⟩ := h
  exact ⟨r ++ c, by simp⟩

set_option maxRecDepth 100000 in
set_option maxHeartbeats 2000000 in
theorem yieldAll_in (l : List PNode) (ad : Int → Nat) (up : Int → Option Int) (hkl : ∀ x ∈ l, x.kids.length ≤ 1048576) (hth : ∀ j ∈ allKids l, j ∈ idsOf l) (hr : (idsOf l).Pairwise (· < ·)) (lr n₁ N : Nat) (J Jx : List (IdOf l) → World → Prop)
    (hY : ∀ m pre (i : IdOf l) W, J pre W → pre.length < N → YieldAt Fence.wide m Try.prog lr #[.pointer (some ⟨ad i.1, 0, none⟩)] W fun e W' =>
      (e = .returned (.bool true) ∧ J (pre ++ [i]) W' ∧ Below n₁ W W') ∨ (e = .returned (.bool false) ∧ Jx (pre ++ [i]) W')) :
    ∀ (h : Nat) (n : Nat) (i : Int) (_ : i ∈ idsOf l) (pre : List (IdOf l)) (W : World), Low l h i → TreeAt n₁ W l ad up → J pre W → pre.length + (order l h i).length ≤ N →
      CallsIn Fence.wide n Try.prog 101 #[.pointer (some ⟨ad i, 0, none⟩), .func (.yield lr) #[] #[]] W fun e W' =>
        (e = .returned (.bool true) ∧ (∃ ys, vals ys = order l h i ∧ J (pre ++ ys) W') ∧ Below n₁ W W') ∨ (e = .returned (.bool false) ∧ ∃ ys, vals ys <+: order l h i ∧ Jx (pre ++ ys) W') := by
  intro h
  induction h with
  | zero => intro n i hi pre W hl; exact hl.elim
  | succ h ih =>
    intro n i hi pre W hlow hT hJ hN
    obtain ⟨x, hx, rfl⟩ := node_of hi
    have hB := hT x hx
    have hdd : ∀ k : Nat, (Fence.wide.depth.isSome = true → 1 ≤ k) := fun k h => by simp [Fence.wide] at h
    obtain ⟨fn, tmps, assign, body, hy, hR⟩ := hY (n - 1) pre ⟨x.id, hi⟩ W hJ (by simp [order] at hN; omega)
    refine callsIn_of_wp Try.func101 rfl trivial ?_ wideRound
    simp only [Try.ntmps101, List.size_toArray, List.length_cons, List.length_nil, Nat.reduceAdd, Nat.reduceSub, Array.replicate_succ, Array.replicate_zero, List.push_toArray, List.append_toArray, List.nil_append, List.cons_append]
    have HO : Hid (order l (h + 1) x.id = x.id :: x.kids.flatMap (order l h)) := by unfold Hid; rw [order, kidsAt_of hr hx]
    have HKids : Hid (∀ j ∈ x.kids, j ∈ idsOf l ∧ Low l h j) := fun j hj => ⟨hth j (List.mem_flatMap.2 ⟨x, hx, hj⟩), hlow j (by rw [kidsAt_of hr hx]; exact hj)⟩
    have HN : Hid (pre.length + (1 + (x.kids.flatMap (order l h)).length) ≤ N) := by rw [HO.out] at hN; simp only [List.length_cons] at hN; unfold Hid; omega
    have hkx := hkl x hx
    have IH := hide ih
    have HT := hide hT
    have HR2 := hide hR
    clear ih hR hlow hkl hth hr hY hN hT
    gi_wp2_with fail
    refine ⟨hdd _, ?_⟩
    refine HR2.out.mono ?_
    rintro e W1 (⟨rfl, hJ1, hb1⟩ | ⟨rfl, hJx1⟩)
    · have hB1 := hB.below (Nat.le_refl _) hb1
      obtain ⟨g, cap, hc5, hk5⟩ := hB1.c5
      have hxl := hB.lt
      gi_wp2_with fail
      gi_loopw [16] (fun i' wr => ∃ (m : Nat) (ys : List (IdOf l)), m ≤ x.kids.length ∧ i' = .int .i64 m ∧ Hid (vals ys = x.id :: (x.kids.take m).flatMap (order l h)) ∧ J (pre ++ ys) wr ∧ Below n₁ W wr ∧ Below n₁ W1 wr) (fun i' _ => x.kids.length - (intOf i').toNat)
      case atStart => exact ⟨0, [⟨x.id, hi⟩], Nat.zero_le _, rfl, by simp [Hid, vals], hJ1, hb1, Below.refl _ _⟩
      case round =>
        obtain ⟨m, ys, hm, rfl, hv, hJm, hbm, hbm1⟩ := hrel
        by_cases hlt : m < x.kids.length
        · obtain ⟨bk, rfl, hbk, hck⟩ := hk5.resolve_left (by intro e; simp [e] at hlt)
          have hcm := (hbm1.cell (p := ⟨bk, m, none⟩) hbk).trans (hck m hlt)
          have hy := HKids.out (x.kids[m]?.getD 0) (by rw [List.getElem?_eq_getElem hlt]; exact List.getElem_mem hlt)
          have HSplit := hide (flat_split hlt (order l h))
          have HSnoc := hide (flat_snoc hlt (order l h))
          have hcall := IH.out (n - 1) (x.kids[m]?.getD 0) hy.1 (pre ++ ys) wr hy.2 (HT.out.below (Nat.le_refl _) hbm) hJm (by
            have h1 := HN.out
            rw [HSplit.out] at h1
            have h2 := congrArg List.length hv.out
            rw [vals_len] at h2
            simp only [List.length_append, List.length_cons] at h1 h2 ⊢
            omega)
          have HCall := hide hcall
          clear hck hk5 hcall hy
          generalize x.kids[m]?.getD 0 = y at *
          gi_wp2_with fail
          refine ⟨trivial, hdd _, ?_⟩
          refine HCall.out.mono ?_
          rintro e W2 (⟨rfl, ⟨zs, hzs, hJ2⟩, hb2⟩ | ⟨rfl, zs, hzs, hJx2⟩)
          · have HV2 : Hid (vals (ys ++ zs) = x.id :: (x.kids.take (m + 1)).flatMap (order l h)) := by unfold Hid; rw [vals_append, hv.out, hzs, HSnoc.out]; simp
            rw [List.append_assoc] at hJ2
            clear hzs hv
            gi_wp2_with fail
            go_roundw
            case rel => exact ⟨m + 1, ys ++ zs, by omega, by go_num, HV2, hJ2, hbm.trans hb2, hbm1.trans hb2⟩
            case measure => simp [intOf]; omega
          · rw [List.append_assoc] at hJx2
            have HP : Hid (vals (ys ++ zs) <+: order l (h + 1) x.id) := by
              unfold Hid; rw [vals_append, hv.out, HO.out, HSplit.out]
              exact prefix_mid (a := x.id :: (x.kids.take m).flatMap (order l h)) hzs
            clear hzs hv
            gi_wp2_with fail
            go_ret
            exact .inr ⟨rfl, ys ++ zs, HP.out, hJx2⟩
        · have HV2 : Hid (vals ys = order l (h + 1) x.id) := by unfold Hid; rw [hv.out, HO.out, List.take_of_length_le (by omega)]
          clear hv hk5
          gi_wp2_with fail
          go_ret
          exact .inl ⟨rfl, ⟨ys, HV2.out, hJm⟩, hbm⟩
    · gi_wp2_with fail
      go_ret
      exact .inr ⟨rfl, [⟨x.id, hi⟩], by rw [HO.out]; exact ⟨_, rfl⟩, hJx1⟩
end Go.Proofs.Ytfjhpfgffbghdaa
