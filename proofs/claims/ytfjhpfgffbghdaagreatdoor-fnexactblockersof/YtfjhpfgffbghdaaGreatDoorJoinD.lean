/-
  What the program's walk over a tree in memory yields: the ids of the order, one after the other, till it is told to end.
  How many nodes a tree in memory has, how high it is, where a node of it lies: what the program's methods answer.
  That all nodes hang on the root, as the specification asks it: going up by the parents.
  What the specification answers to whether a document is right: just if it is (Good).
-/
import Derived.Test.YtfjhpfgffbghdaaGreatDoorTreeAtJ
import Derived.RangeFuncNested
import Derived.RangeFuncBound
import Derived.RangeFuncCalls
import Derived.RangeFuncLeaves
import Derived.RangeFuncFrom
import Derived.Shelf.Abstract
import Derived.OwnWalkIn
import Derived.TacticsInMore
import Derived.LoopNIn
import Derived.LoopIn
import Derived.Test.YtfjhpfgffbghdaaGreatDoorJoinC
import Derived.WalkLawsBesides
import Derived.Test.YtfjhpfgffbghdaaGreatDoorJoinB
import Derived.Deep.DeepCutAuto
namespace Go.Proofs.YtfjhpfgffbghdaaGreatDoor
open Go.RowKit Go.Shelf

attribute [local go_sem] Oper.semAt_some

theorem wideDepth : Fence.wide.depth = none := rfl
theorem wideRound : Fence.wide.round = none := rfl
theorem wideRoom (k : Nat) : Fence.wide.room k := room_wide k
theorem roundAny {m m' : Nat} {P : Program} {l : Nat} {f : FuncId} {tmps : Array Value} {assign body : Code} {w : World} {R : Ending → World → Prop}
    (h : RoundIn Fence.wide m P l f tmps assign body w R) : RoundIn Fence.wide m' P l f tmps assign body w R := ⟨h.1, fun c cs _ => h.2 c cs (wideRoom _)⟩
theorem yieldAny {m : Nat} (m' : Nat) {P : Program} {l : Nat} {args : Array Value} {W : World} {R : Ending → World → Prop} (h : YieldAt Fence.wide m P l args W R) : YieldAt Fence.wide m' P l args W R := by
  obtain ⟨fn, tmps, assign, body, hy, hR⟩ := h
  exact ⟨fn, tmps, assign, body, hy, roundAny hR⟩

/-- What the rounds have been handed, as plain ids. -/
def vals {l : List PNode} (ys : List (IdOf l)) : List Int := ys.map Subtype.val

theorem vals_append {l : List PNode} (a b : List (IdOf l)) : vals (a ++ b) = vals a ++ vals b := by simp [vals]
theorem vals_len {l : List PNode} (a : List (IdOf l)) : (vals a).length = a.length := by simp [vals]

theorem flat_snoc {ks : List Int} {m : Nat} (h : m < ks.length) (f : Int → List Int) : (ks.take (m + 1)).flatMap f = (ks.take m).flatMap f ++ f (ks[m]?.getD 0) := by
  rw [int_snoc h]; simp

theorem flat_split {ks : List Int} {m : Nat} (h : m < ks.length) (f : Int → List Int) : ks.flatMap f = (ks.take m).flatMap f ++ (f (ks[m]?.getD 0) ++ (ks.drop (m + 1)).flatMap f) := by
  have e : ks = ks.take m ++ (ks[m]?.getD 0) :: ks.drop (m + 1) := by rw [List.getElem?_eq_getElem h]; simp
  conv => lhs; rw [e]
  simp

theorem prefix_mid {a b c q : List Int} (h : q <+: b) : a ++ q <+: a ++ (b ++ c) := by
  obtain ⟨r, rfl⟩ := h
  exact ⟨r ++ c, by simp⟩

set_option maxRecDepth 100000 in
set_option maxHeartbeats 2000000 in
theorem yieldAll_in (l : List PNode) (ad : Int → Nat) (up : Int → Option Int) (hkl : ∀ x ∈ l, x.kids.length ≤ 1048576) (hth : ∀ j ∈ allKids l, j ∈ idsOf l) (hr : (idsOf l).Pairwise (· < ·)) (lr n₁ N : Nat) (J Jx : List (IdOf l) → World → Prop)
    (hY : ∀ m pre (i : IdOf l) W, J pre W → pre.length < N → YieldAt Fence.wide m Tryz.prog lr #[.pointer (some ⟨ad i.1, 0, none⟩)] W fun e W' =>
      (e = .returned (.bool true) ∧ J (pre ++ [i]) W' ∧ Below n₁ W W') ∨ (e = .returned (.bool false) ∧ Jx (pre ++ [i]) W')) :
    ∀ (h : Nat) (n : Nat) (i : Int) (_ : i ∈ idsOf l) (pre : List (IdOf l)) (W : World), Low l h i → TreeAt n₁ W l ad up → J pre W → pre.length + (order l h i).length ≤ N →
      CallsIn Fence.wide n Tryz.prog 136 #[.pointer (some ⟨ad i, 0, none⟩), .func (.yield lr) #[] #[]] W fun e W' =>
        (e = .returned (.bool true) ∧ (∃ ys, vals ys = order l h i ∧ J (pre ++ ys) W') ∧ Below n₁ W W') ∨ (e = .returned (.bool false) ∧ ∃ ys, vals ys <+: order l h i ∧ Jx (pre ++ ys) W') := by
  intro h
  induction h with
  | zero => intro n i hi pre W hl; exact hl.elim
  | succ h ih =>
    intro n i hi pre W hlow hT hJ hN
    obtain ⟨x, hx, rfl⟩ := node_of hi
    have hB := hT x hx
    have hdd : ∀ k : Nat, (Fence.wide.depth.isSome = true → 1 ≤ k) := fun k h => by simp [Fence.wide] at h
    obtain ⟨fn, tmps, assign, body, hy, hR⟩ := hY (n - 1) pre ⟨x.id, hi⟩ W hJ (by simp [order] at hN; omega)
    refine callsIn_of_wp Tryz.func136 rfl trivial ?_ wideRound
    simp only [Tryz.ntmps136, List.size_toArray, List.length_cons, List.length_nil, Nat.reduceAdd, Nat.reduceSub, Array.replicate_succ, Array.replicate_zero, List.push_toArray, List.append_toArray, List.nil_append, List.cons_append]
    have HO : Hid (order l (h + 1) x.id = x.id :: x.kids.flatMap (order l h)) := by unfold Hid; rw [order, kidsAt_of hr hx]
    have HKids : Hid (∀ j ∈ x.kids, j ∈ idsOf l ∧ Low l h j) := fun j hj => ⟨hth j (List.mem_flatMap.2 ⟨x, hx, hj⟩), hlow j (by rw [kidsAt_of hr hx]; exact hj)⟩
    have HN : Hid (pre.length + (1 + (x.kids.flatMap (order l h)).length) ≤ N) := by rw [HO.out] at hN; simp only [List.length_cons] at hN; unfold Hid; omega
    have hkx := hkl x hx
    have IH := hide ih
    have HT := hide hT
    have HR2 := hide hR
    clear ih hR hlow hkl hth hr hY hN hT
    gi_wp2_with fail
    refine ⟨hdd _, ?_⟩
    refine HR2.out.mono ?_
    rintro e W1 (⟨rfl, hJ1, hb1⟩ | ⟨rfl, hJx1⟩)
    · have hB1 := hB.below (Nat.le_refl _) hb1
      obtain ⟨g, cap, hc5, hk5⟩ := hB1.c5
      have hxl := hB.lt
      gi_wp2_with fail
      gi_loopw [16] (fun i' wr => ∃ (m : Nat) (ys : List (IdOf l)), m ≤ x.kids.length ∧ i' = .int .i64 m ∧ Hid (vals ys = x.id :: (x.kids.take m).flatMap (order l h)) ∧ J (pre ++ ys) wr ∧ Below n₁ W wr ∧ Below n₁ W1 wr) (fun i' _ => x.kids.length - (intOf i').toNat)
      case atStart => exact ⟨0, [⟨x.id, hi⟩], Nat.zero_le _, rfl, by simp [Hid, vals], hJ1, hb1, Below.refl _ _⟩
      case round =>
        obtain ⟨m, ys, hm, rfl, hv, hJm, hbm, hbm1⟩ := hrel
        by_cases hlt : m < x.kids.length
        · obtain ⟨bk, rfl, hbk, hck⟩ := hk5.resolve_left (by intro e; simp [e] at hlt)
          have hcm := (hbm1.cell (p := ⟨bk, m, none⟩) hbk).trans (hck m hlt)
          have hy := HKids.out (x.kids[m]?.getD 0) (by rw [List.getElem?_eq_getElem hlt]; exact List.getElem_mem hlt)
          have HSplit := hide (flat_split hlt (order l h))
          have HSnoc := hide (flat_snoc hlt (order l h))
          have hcall := IH.out (n - 1) (x.kids[m]?.getD 0) hy.1 (pre ++ ys) wr hy.2 (HT.out.below (Nat.le_refl _) hbm) hJm (by
            have h1 := HN.out
            rw [HSplit.out] at h1
            have h2 := congrArg List.length hv.out
            rw [vals_len] at h2
            simp only [List.length_append, List.length_cons] at h1 h2 ⊢
            omega)
          have HCall := hide hcall
          clear hck hk5 hcall hy
          generalize x.kids[m]?.getD 0 = y at *
          gi_wp2_with fail
          refine ⟨trivial, hdd _, ?_⟩
          refine HCall.out.mono ?_
          rintro e W2 (⟨rfl, ⟨zs, hzs, hJ2⟩, hb2⟩ | ⟨rfl, zs, hzs, hJx2⟩)
          · have HV2 : Hid (vals (ys ++ zs) = x.id :: (x.kids.take (m + 1)).flatMap (order l h)) := by unfold Hid; rw [vals_append, hv.out, hzs, HSnoc.out]; simp
            rw [List.append_assoc] at hJ2
            clear hzs hv
            gi_wp2_with fail
            go_roundw
            case rel => exact ⟨m + 1, ys ++ zs, by omega, by go_num, HV2, hJ2, hbm.trans hb2, hbm1.trans hb2⟩
            case measure => simp [intOf]; omega
          · rw [List.append_assoc] at hJx2
            have HP : Hid (vals (ys ++ zs) <+: order l (h + 1) x.id) := by
              unfold Hid; rw [vals_append, hv.out, HO.out, HSplit.out]
              exact prefix_mid (a := x.id :: (x.kids.take m).flatMap (order l h)) hzs
            clear hzs hv
            gi_wp2_with fail
            go_ret
            exact .inr ⟨rfl, ys ++ zs, HP.out, hJx2⟩
        · have HV2 : Hid (vals ys = order l (h + 1) x.id) := by unfold Hid; rw [hv.out, HO.out, List.take_of_length_le (by omega)]
          clear hv hk5
          gi_wp2_with fail
          go_ret
          exact .inl ⟨rfl, ⟨ys, HV2.out, hJm⟩, hbm⟩
    · gi_wp2_with fail
      go_ret
      exact .inr ⟨rfl, [⟨x.id, hi⟩], by rw [HO.out]; exact ⟨_, rfl⟩, hJx1⟩
end Go.Proofs.YtfjhpfgffbghdaaGreatDoor

namespace Go.Proofs.YtfjhpfgffbghdaaGreatDoor
open Go.RowKit Go.Shelf

attribute [local go_sem] Oper.semAt_some

theorem new_cell (W : World) (v : Value) (t : TypeId) : (W.alloc (.cells #[v] t)).cell? ⟨W.heap.size, 0, none⟩ = some v ∧ (W.alloc (.cells #[v] t)).frozen? ⟨W.heap.size, 0, none⟩ = false := by
  have h := alloc_new W (.cells #[v] t)
  exact ⟨by rw [cell_of_heap h 0]; rfl, frozen_of_heap h 0⟩
theorem old_cell {W : World} {a : Addr} {v : Value} (o : Obj) (h : W.cell? a = some v) : (W.alloc o).cell? a = some v := cell_kept h (World.grownBy_alloc W o none) (fun r e => by cases e)
theorem old_frozen {W : World} {a : Addr} {v : Value} (o : Obj) (h : W.cell? a = some v) (hf : W.frozen? a = false) : (W.alloc o).frozen? a = false := (frozen_kept h (World.grownBy_alloc W o none) (fun r e => by cases e)).trans hf

/-- What is known of a list of nodes whose walk is asked. -/
structure Walkable (l : List PNode) : Prop where
  kl : ∀ x ∈ l, x.kids.length ≤ 1048576
  th : ∀ j ∈ allKids l, j ∈ idsOf l
  rise : (idsOf l).Pairwise (· < ·)

set_option maxHeartbeats 1000000 in
theorem inOrder_in (n : Nat) (p : Option Addr) (w : World) :
    CallsIn Fence.wide n Tryz.prog 113 #[.pointer p] w fun e w' => e = .returned (.func (.func 135) #[] #[.pointer (some ⟨w.heap.size, 0, none⟩)]) ∧ w' = w.alloc (.cells #[.pointer p] 93) := by
  refine callsIn_of_wp Tryz.func113 rfl trivial ?_ wideRound
  simp only [Tryz.ntmps113, List.size_toArray, List.length_cons, List.length_nil, Nat.reduceAdd, Nat.reduceSub, Array.replicate_succ, Array.replicate_zero, List.push_toArray, List.append_toArray, List.nil_append, List.cons_append]
  gi_wp2
  go_ret
  exact ⟨rfl, rfl⟩

set_option maxHeartbeats 1000000 in
theorem inOrder_stops (l : List PNode) (ad : Int → Nat) (up : Int → Option Int) (Wk : Walkable l) (n Bt n₁ h : Nat) (i : Int) (hi : i ∈ idsOf l) (hlow : Low l h i) (w : World) (hBt : Bt < w.heap.size) (hn₁ : n₁ ≤ w.heap.size)
    (hc : w.cell? ⟨Bt, 0, none⟩ = some (.pointer (some ⟨ad i, 0, none⟩))) (hT : TreeAt n₁ w l ad up) :
    SeqStopsK Fence.wide n Tryz.prog 135 #[.pointer (some ⟨Bt, 0, none⟩)] (fun j : IdOf l => #[Value.pointer (some ⟨ad j.1, 0, none⟩)]) (Below n₁) (fun ys => vals ys = order l h i) (fun ys => vals ys <+: order l h i) (order l h i).length w := by
  intro lr J Jx W hW _ _ hY h0
  have hBt' := (hW.cell (p := ⟨Bt, 0, none⟩) hBt).trans hc
  have hp := yieldAll_in l ad up Wk.kl Wk.th Wk.rise lr n₁ (order l h i).length J Jx (fun m pre x W hj hl => yieldAny m (hY pre x W hj hl)) h (n - 1) i hi [] W hlow (hT.below (Nat.le_refl _) (hW.mono hn₁)) h0 (by simp)
  have hdd : ∀ k : Nat, (Fence.wide.depth.isSome = true → 1 ≤ k) := fun k h => by simp [Fence.wide] at h
  clear hY hT hc hlow Wk
  show CallsIn Fence.wide n Tryz.prog 135 #[.func (.yield lr) #[] #[], .pointer (some ⟨Bt, 0, none⟩)] W _
  refine callsIn_of_wp Tryz.func135 rfl trivial ?_ wideRound
  simp only [Tryz.ntmps135, List.size_toArray, List.length_cons, List.length_nil, Nat.reduceAdd, Nat.reduceSub, Array.replicate_succ, Array.replicate_zero, List.push_toArray, List.append_toArray, List.nil_append, List.cons_append]
  gi_wp2_with fail
  refine ⟨trivial, hdd _, ?_⟩
  refine hp.mono ?_
  rintro e W1 (⟨rfl, ⟨ys, hys, hJ1⟩, _⟩ | ⟨rfl, ys, hys, hx⟩)
  · clear hp
    gi_wp2_with fail
    go_end0
    exact ⟨⟨_, rfl⟩, .inl ⟨ys, hys, by simpa using hJ1⟩⟩
  · clear hp
    gi_wp2_with fail
    go_end0
    exact ⟨⟨_, rfl⟩, .inr ⟨ys, hys, by simpa using hx⟩⟩

set_option maxRecDepth 100000 in
set_option maxHeartbeats 2000000 in
theorem count_any (l : List PNode) (ad : Int → Nat) (up : Int → Option Int) (Wk : Walkable l) (n₁ h : Nat) (i : Int) (hi : i ∈ idsOf l) (hlow : Low l h i) (hlen : (order l h i).length ≤ 1048576) (w : World) (hn₁ : n₁ ≤ w.heap.size) (hT : TreeAt n₁ w l ad up) :
    Calls Tryz.prog 131 #[.pointer (some ⟨ad i, 0, none⟩)] w fun e W' => e = .returned (.int .i64 (order l h i).length) ∧ Below w.heap.size w W' := by
  refine (callsIn_wide (n := 3)).1 ?_
  refine callsIn_of_wp_marks Tryz.func131 rfl trivial ?_ wideRound
  simp only [Tryz.ntmps131, List.size_toArray, List.length_cons, List.length_nil, Nat.reduceAdd, Nat.reduceSub, Array.replicate_succ, Array.replicate_zero, List.push_toArray, List.append_toArray, List.nil_append, List.cons_append]
  gi_wp2_with (refine ⟨trivial, ?_⟩; gi_at_call 113; refine (inOrder_in _ _ _).mono ?_; rintro e w' ⟨rfl, rfl⟩)
  have hs := new_cell w (.int .i64 0) 3
  have hb := new_cell (w.alloc (.cells #[.int .i64 0] 3)) (.pointer (some ⟨ad i, 0, none⟩)) 93
  rw [World.size_alloc] at hb
  have hB0 : Below w.heap.size w ((w.alloc (.cells #[.int .i64 0] 3)).alloc (.cells #[.pointer (some ⟨ad i, 0, none⟩)] 93)) := ((Below.refl _ w).alloc (Nat.le_refl _) _).alloc (by simp) _
  refine wpIn_rangeFunc_ownF (α := IdOf l) wideRound (by omega) (gf := 135) (lb := #[.pointer (some ⟨w.heap.size + 1, 0, none⟩)]) rfl trivial (enters_of Tryz.func135 (by kernel_rfl) rfl)
    (inOrder_stops l ad up Wk _ (w.heap.size + 1) n₁ h i hi hlow _ (by simp) (by simp; omega) hb.1 (hT.below (Nat.le_refl _) (hB0.mono hn₁))) belowK_t (belowK_b (by simp; omega)) (Below.refl _ _) (fun _ => rfl)
    (fun pre W => (W.cell? ⟨w.heap.size, 0, none⟩ = some (.int .i64 (pre.length : Int)) ∧ W.frozen? ⟨w.heap.size, 0, none⟩ = false) ∧ Below w.heap.size w W)
    (fun _ _ _ => False)
    (OwnFrom.and (Own.from (fun s A B row hs hg hr => ⟨cell_kept hs.1 hg hr, (frozen_kept hs.1 hg hr).trans hs.2⟩) _) (ownFrom_below (Nat.le_refl _) (by simp; omega)))
    (fun _ _ _ _ _ hs _ _ => hs)
    ⟨⟨old_cell _ hs.1, old_frozen _ hs.1 hs.2⟩, hB0⟩
    (fun x => { tmps := #[.pointer (some ⟨ad i, 0, none⟩), undef, .int .i64 0, .pointer (some ⟨w.heap.size, 0, none⟩), .pointer (some ⟨ad i, 0, none⟩), .func (.func 135) #[] #[.pointer (some ⟨w.heap.size + 1, 0, none⟩)], .pointer (some ⟨ad x.1, 0, none⟩), undef, undef, undef], defers := [] }) ?assign ?body ?done ?stop
  case assign =>
    intro lr x W K hK
    gi_wp2
    simpa using hK
  case body =>
    rintro lr pre x W ⟨⟨hc, hf⟩, hB⟩ hpl
    have hpl2 : (pre.length : Int) ≤ 1048576 := by omega
    gi_wp2
    exact ⟨KeepsOthers.setCell _ _ _, (Below.refl n₁ W).setCell (p := ⟨w.heap.size, 0, none⟩) hn₁ _, ⟨by rw [World.cell?_setCell_same' _ _ _ (by rw [hc]; rfl)]; simp, by rw [World.frozen?_setCell]; exact hf⟩, hB.setCell (p := ⟨w.heap.size, 0, none⟩) (Nat.le_refl _) _⟩
  case done =>
    rintro D ys W hD hys ⟨⟨hc, _⟩, hB⟩ hK
    have hl : ys.length = (order l h i).length := by rw [← hys, vals_len]
    gi_wp2
    refine ⟨by simp, .inl ⟨_, _, rfl, run_takeDeferred hK, ?_⟩⟩
    exact ⟨_, results_tmp rfl _ _ _, by rw [← hl]; rfl, hB.trans (belowK_b (w := w) (Nat.le_refl _) W D _ _ (by simp at hD; omega) hK rfl rfl)⟩
  case stop =>
    rintro D c pre W _ _ h _
    exact h.elim

set_option maxRecDepth 100000 in
set_option maxHeartbeats 1000000 in
theorem height_any (l : List PNode) (ad : Int → Nat) (up : Int → Option Int) (Wk : Walkable l) (n₁ : Nat) :
    ∀ (h : Nat) (i : Int) (w : World), h ≤ 1000000 → i ∈ idsOf l → Low l h i → TreeAt n₁ w l ad up → Calls Tryz.prog 132 #[.pointer (some ⟨ad i, 0, none⟩)] w fun e W' => e = .returned (.int .i64 (hgt l h i)) ∧ W' = w := by
  intro h
  induction h with
  | zero => intro i w _ _ hl; exact hl.elim
  | succ h ih =>
    intro i w hh hi hlow hT
    obtain ⟨x, hx, rfl⟩ := node_of hi
    have hB := hT x hx
    obtain ⟨g, cap, hc5, hk5⟩ := hB.c5
    have hkx := Wk.kl x hx
    have HH : Hid (hgt l (h + 1) x.id = x.kids.foldl (fun n j => max n (hgt l h j)) 0 + 1) := by unfold Hid; rw [hgt, kidsAt_of Wk.rise hx]
    have HC : Hid (∀ j ∈ x.kids, Calls Tryz.prog 132 #[.pointer (some ⟨ad j, 0, none⟩)] w fun e W' => e = .returned (.int .i64 (hgt l h j)) ∧ W' = w) := fun j hj =>
      ih j w (by omega) (Wk.th j (List.mem_flatMap.2 ⟨x, hx, hj⟩)) (hlow j (by rw [kidsAt_of Wk.rise hx]; exact hj)) hT
    clear ih hT hlow Wk hB
    go_enter Tryz.func132, Tryz.ntmps132
    go_wp2_with fail
    go_loop [3, 11] (fun nv i' => ∃ m : Nat, m ≤ x.kids.length ∧ i' = .int .i64 m ∧ nv = .int .i64 (((x.kids.take m).foldl (fun n j => max n (hgt l h j)) 0 : Nat) : Int)) (fun _ i' => x.kids.length - (intOf i').toNat)
    case atStart => exact ⟨0, Nat.zero_le _, rfl, rfl⟩
    case round =>
      obtain ⟨m, hm, rfl, rfl⟩ := hrel
      have hq := fold_max_le (hgt l h) h (fun _ => hgt_le) (x.kids.take m)
      by_cases hlt : m < x.kids.length
      · obtain ⟨bk, rfl, hbk, hck⟩ := hk5.resolve_left (by intro e; simp [e] at hlt)
        have hcm := hck m hlt
        have HS := hide (fold_snoc hlt (fun n j => max n (hgt l h j)))
        have HCall := hide (HC.out (x.kids[m]?.getD 0) (by rw [List.getElem?_eq_getElem hlt]; exact List.getElem_mem hlt))
        have hdy : hgt l h (x.kids[m]?.getD 0) ≤ h := hgt_le
        clear hck hk5
        generalize (x.kids.take m).foldl (fun n j => max n (hgt l h j)) 0 = q at *
        generalize x.kids[m]?.getD 0 = y at *
        generalize hgt l h y = z at *
        go_wp2_with (go_at_call 132; refine HCall.out.mono ?_; rintro e w' ⟨rfl, rfl⟩)
        all_goals
          go_round
          case rel => exact ⟨m + 1, by omega, by go_num, by rw [HS.out]; congr 1; first | (split <;> omega) | omega⟩
          case measure => simp [intOf]; omega
      · have HE : Hid (hgt l (h + 1) x.id = (x.kids.take m).foldl (fun n j => max n (hgt l h j)) 0 + 1) := by unfold Hid; rw [List.take_of_length_le (by omega), HH.out]
        generalize (x.kids.take m).foldl (fun n j => max n (hgt l h j)) 0 = q at *
        clear hk5
        go_wp2_with fail
        go_ret
        exact ⟨ret_int (by rw [HE.out]; omega), rfl⟩
end Go.Proofs.YtfjhpfgffbghdaaGreatDoor

namespace Go.Proofs.YtfjhpfgffbghdaaGreatDoor
open Go.RowKit

theorem parentOf_up {l : List PNode} (hr : (idsOf l).Pairwise (· < ·)) {i : Int} (h : i ∈ allKids l) : i ∈ kidsAt l (parentOf l i) := by
  have key : ∃ x ∈ l, parentOf l i = x.id ∧ i ∈ x.kids := by
    clear hr
    induction l with
    | nil => simp [allKids] at h
    | cons x l ih =>
      by_cases hx : hasB x.kids i = true
      · exact ⟨x, by simp, by simp [parentOf, hx], hasB_iff.1 hx⟩
      · have hi : i ∈ allKids l := by
          have : i ∈ x.kids ∨ i ∈ allKids l := by simpa [allKids] using h
          exact this.resolve_left (fun e => hx (hasB_iff.2 e))
        obtain ⟨y, hy, h1, h2⟩ := ih hi
        exact ⟨y, by simp [hy], by simp only [parentOf]; rw [if_neg hx, h1], h2⟩
  obtain ⟨x, hx, h1, h2⟩ := key
  rw [h1, kidsAt_of hr hx]; exact h2

theorem parentOf_none {l : List PNode} {i : Int} (h : i ∉ allKids l) : parentOf l i = 0 := by
  have := @parentOf_skip l l.length i (fun x hx => by
    rw [List.take_length] at hx
    exact hasB_no.2 (fun e => h (List.mem_flatMap.2 ⟨x, hx, e⟩)))
  rw [this]; simp [parentOf]

/-- Going up from i0, so many steps have led to cur. -/
def Climb (l : List PNode) (root i0 cur : Int) (s : Nat) : Prop :=
  (∀ q, Dep l root q cur → Dep l root (q + s) i0) ∧ (∀ q, Dep l root q i0 → s ≤ q ∧ Dep l root (q - s) cur)

theorem climb_start (l : List PNode) (root i0 : Int) : Climb l root i0 i0 0 := ⟨fun _ h => h, fun _ h => ⟨Nat.zero_le _, h⟩⟩

section
variable {d : PDoc} {i0 cur : Int} {s : Nat}

theorem Flat.ids_pos (F : Flat d) {i : Int} (h : i ∈ idsOf d.nodes) : 1 ≤ i ∧ i ≤ d.next - 1 := by
  obtain ⟨x, hx, rfl⟩ := List.mem_map.1 h
  exact ⟨(F.fine x hx).1, (F.fine x hx).2.1⟩

theorem climb_step (F : Flat d) (h : Climb d.nodes d.root i0 cur s) (hne : cur ≠ d.root) : Climb d.nodes d.root i0 (parentOf d.nodes cur) (s + 1) := by
  obtain ⟨hA, hB⟩ := h
  constructor
  · intro q hq
    by_cases hk : cur ∈ allKids d.nodes
    · have := hA (q + 1) ⟨_, hq, parentOf_up F.rise hk⟩
      rwa [show q + (s + 1) = q + 1 + s by omega]
    · rw [parentOf_none hk] at hq
      have := (F.ids_pos (dep_in F.there F.rootIn hq)).1
      omega
  · intro q hq
    obtain ⟨h1, h2⟩ := hB q hq
    obtain ⟨m, hm⟩ : ∃ m, q - s = m + 1 := by
      cases hqs : q - s with
      | zero => rw [hqs] at h2; exact absurd h2 hne
      | succ m => exact ⟨m, rfl⟩
    rw [hm] at h2
    obtain ⟨k, hk, hc⟩ := h2
    have := one_parent F.once hc (parentOf_up F.rise (kidsAt_all hc))
    subst this
    exact ⟨by omega, by rwa [show q - (s + 1) = m by omega]⟩

theorem climb_hit (h : Climb d.nodes d.root i0 cur s) (he : cur = d.root) : ∃ q, Dep d.nodes d.root q i0 := ⟨_, h.1 0 he⟩

theorem climb_miss (F : Flat d) (h : Climb d.nodes d.root i0 cur s) (hne : cur ≤ 0 ∨ d.nodes.length < s) : ¬ ∃ q, Dep d.nodes d.root q i0 := by
  rintro ⟨q, hq⟩
  obtain ⟨h1, h2⟩ := h.2 q hq
  have h3 := (F.ids_pos (dep_in F.there F.rootIn h2)).1
  have h4 := low_desc F.low (dep_iff.1 hq)
  omega

theorem reach_snoc {l : List PNode} {k : Nat} (hk : k < l.length) {p : Int → Prop} (h : ∀ i ∈ idsOf (l.take k), p i) (h1 : p (l[k]?.getD nodeNil).id) : ∀ i ∈ idsOf (l.take (k + 1)), p i := by
  rw [ids_snoc hk]; intro i hi
  rcases List.mem_append.1 hi with hi | hi
  · exact h i hi
  · simp only [List.mem_singleton] at hi; rw [hi]; exact h1
end

set_option maxHeartbeats 1000000 in
set_option maxRecDepth 100000 in
theorem specReach_any (n₀ : Nat) (d : PDoc) (s : Value) (w : World) (F : Flat d) (hN : NodesAt n₀ w s d.nodes) (hn : n₀ ≤ w.heap.size) (r : Bool) (hr : r = true ↔ ∀ i ∈ idsOf d.nodes, ∃ q, Dep d.nodes d.root q i) :
    Calls Tryz.prog 126 #[.agg #[.int .i64 d.root, .int .i64 d.next, s]] w fun e w' => e = .returned (.bool r) ∧ Below w.heap.size w w' := by
  have hl := F.n40
  have hkl : Hid (∀ x ∈ d.nodes, x.kids.length ≤ 1048576) := fun x hx => by have := (F.fine x hx).2.2.2.2.2.2.2; omega
  have hl1 : Hid (d.nodes ≠ []) := by have := F.n1; intro e; rw [e] at this; simp at this
  have HStep : Hid (∀ i0 cur s, Climb d.nodes d.root i0 cur s → cur ≠ d.root → Climb d.nodes d.root i0 (parentOf d.nodes cur) (s + 1)) := fun _ _ _ h hne => climb_step F h hne
  have HMiss : Hid (∀ i0 cur s, Climb d.nodes d.root i0 cur s → (cur ≤ 0 ∨ d.nodes.length < s) → ¬ ∃ q, Dep d.nodes d.root q i0) := fun _ _ _ h hne => climb_miss F h hne
  have HHit : Hid (∀ i0 cur s, Climb d.nodes d.root i0 cur s → cur = d.root → ∃ q, Dep d.nodes d.root q i0) := fun _ _ _ h hne => climb_hit h hne
  have HR := hide hr
  clear F hr
  generalize d.root = rt at *
  generalize d.nodes = l at *
  generalize d.next = nx at *
  have hN' := hN
  obtain ⟨a, cap, rfl, hk'⟩ := hN
  obtain ⟨b, off, rfl, hb, hc⟩ := hk'.resolve_left hl1.out
  have hbw : b < w.heap.size := by omega
  clear hk'
  have HCs := hide hc
  clear hc
  go_enter Tryz.func126, Tryz.ntmps126
  go_wp2_with fail
  go_loopw [3] (fun i' wr => ∃ k : Nat, k ≤ l.length ∧ i' = .int .i64 k ∧ Hid (∀ i ∈ idsOf (l.take k), ∃ q, Dep l rt q i) ∧ Below (w.heap.size + 1) (w.alloc (.cells #[.int .i64 rt, .int .i64 nx, .slice (some ⟨b, off, none⟩) l.length cap] 38)) wr) (fun i' _ => l.length - (intOf i').toNat)
  case atStart => exact ⟨0, Nat.zero_le _, rfl, by simp [Hid, idsOf], Below.refl _ _⟩
  case round =>
    obtain ⟨k, hkl', rfl, hall, hbr⟩ := hrel
    obtain ⟨hcx, hfx⟩ := bcell (W := w.alloc _) (by simpa using hbr)
    have hsz := hbr.size
    simp only [World.size_alloc] at hsz
    by_cases hlt : k < l.length
    · have hck := (HCs.out k hlt).c0
      have HS := hide (@reach_snoc l k hlt (fun i => ∃ q, Dep l rt q i) hall.out)
      have HI : Hid ((l[k]?.getD nodeNil).id ∈ idsOf l) := by simp [Hid, hlt, idsOf]; exact ⟨_, List.getElem_mem hlt, rfl⟩
      generalize (l[k]?.getD nodeNil).id = i0 at *
      go_wp2_with fail
      go_loopw [4, 5] (fun cv sv wr' => ∃ (cur : Int) (st : Nat), cv = .int .i64 cur ∧ sv = .int .i64 st ∧ st ≤ l.length + 1 ∧ Hid (Climb l rt i0 cur st) ∧ Below (w.heap.size + 1) (w.alloc (.cells #[.int .i64 rt, .int .i64 nx, .slice (some ⟨b, off, none⟩) l.length cap] 38)) wr') (fun _ sv _ => l.length + 1 - (intOf sv).toNat)
      case atStart => exact ⟨i0, 0, rfl, rfl, by omega, climb_start _ _ _, hbr⟩
      case round =>
        obtain ⟨cur, st, rfl, rfl, hst, hcl, hbr'⟩ := hrel
        clear hcx hfx hsz hck
        obtain ⟨hcx, hfx⟩ := bcell (W := w.alloc _) (by simpa using hbr')
        have hsz := hbr'.size
        simp only [World.size_alloc] at hsz
        go_wp2_with (go_at_call 117; refine (specParent_any n₀ rt nx _ l cur _ (hN'.below (Nat.le_refl _) (((Below.refl _ _).alloc hn _).trans (hbr'.mono (by omega)))) (by omega) (by omega) hkl.out).mono ?_; rintro e w1 ⟨rfl, hb1⟩)
        · exact ⟨⟨k + 1, by omega, by go_num, HS.out (HHit.out _ _ _ hcl.out (by assumption)), hbr'⟩, by simp [intOf]; omega⟩
        · exact ⟨⟨_, st + 1, rfl, by go_num, by omega, HStep.out _ _ _ hcl.out (by assumption), hbr'.trans (hb1.mono hsz)⟩, by simp [intOf]; omega⟩
        all_goals
          have hno := HMiss.out _ _ _ hcl.out (by first | (left; omega) | (right; simp_all))
          have hf : r = false := by
            cases hrr : r with
            | false => rfl
            | true => exact absurd (HR.out.1 hrr _ HI.out) hno
          go_ret
          exact ⟨ret_bool hf.symm, ((Below.refl _ _).alloc (Nat.le_refl _) _).trans (hbr'.mono (by omega))⟩
    · have ht : Hid (r = true) := HR.out.2 (by have := hall.out; rwa [List.take_of_length_le (by omega)] at this)
      clear hall
      go_wp2_with fail
      go_ret
      exact ⟨ret_bool ht.out.symm, ((Below.refl _ _).alloc (Nat.le_refl _) _).trans (hbr.mono (by omega))⟩
end Go.Proofs.YtfjhpfgffbghdaaGreatDoor

namespace Go.Proofs.YtfjhpfgffbghdaaGreatDoor
open Go.RowKit

theorem not_true {r : Bool} {p : Prop} (h : r = true ↔ p) (hn : ¬ p) : r = false := by
  cases r with
  | false => rfl
  | true => exact absurd (h.1 rfl) hn

theorem Good.nodesFine {d : PDoc} (G : Good d) : NodesFine d := ⟨G.toFlat, (G.toFlat.good_spec.1 G).1⟩

set_option maxHeartbeats 1000000 in
set_option maxRecDepth 100000 in
theorem specOK_any (n₀ : Nat) (d : PDoc) (s : Value) (w : World) (hN : NodesAt n₀ w s d.nodes) (hn : n₀ ≤ w.heap.size) (hl : d.nodes.length ≤ 1048576) (hkl : ∀ x ∈ d.nodes, x.kids.length ≤ 1048576) (r : Bool) (hr : r = true ↔ Good d) :
    Calls Tryz.prog 108 #[.agg #[.int .i64 d.root, .int .i64 d.next, s]] w fun e w' => e = .returned (.bool r) ∧ Below w.heap.size w w' := by
  have HKL := hide hkl
  have HR := hide hr
  clear hkl hr
  have hN' := hN
  obtain ⟨a, cap, rfl, -⟩ := hN
  cases hA : inB (d.nodes.length : Int) 1 40 with
  | false =>
    have hf : Hid (r = false) := not_true HR.out (fun G => by have := inB_iff.2 ⟨show (1 : Int) ≤ d.nodes.length by have := G.n1; omega, show (d.nodes.length : Int) ≤ 40 by have := G.n40; omega⟩; rw [hA] at this; cases this)
    go_enter Tryz.func108, Tryz.ntmps108
    go_wp2_with (go_at_call 52; refine (specIn_any _ _ _ _).mono ?_; rintro e w' ⟨rfl, rfl⟩)
    go_ret
    exact ⟨ret_bool hf.out.symm, (Below.refl _ _).alloc (Nat.le_refl _) _⟩
  | true =>
    cases hB : inB d.next 2 999999 with
    | false =>
      have hf : Hid (r = false) := not_true HR.out (fun G => by have := inB_iff.2 ⟨G.nx2, G.nxm⟩; rw [hB] at this; cases this)
      go_enter Tryz.func108, Tryz.ntmps108
      go_wp2_with (go_at_call 52; refine (specIn_any _ _ _ _).mono ?_; rintro e w' ⟨rfl, rfl⟩)
      go_ret
      exact ⟨ret_bool hf.out.symm, (Below.refl _ _).alloc (Nat.le_refl _) _⟩
    | true =>
      have hA' := inB_iff.1 hA
      have hB' := inB_iff.1 hB
      have hW := (Below.refl w.heap.size w).alloc (Nat.le_refl _) (.cells #[.int .i64 d.root, .int .i64 d.next, .slice a d.nodes.length cap] 38)
      obtain ⟨r1, hr1⟩ : ∃ r1 : Bool, r1 = true ↔ NodesFine d := by classical exact ⟨decide (NodesFine d), by simp⟩
      have HNodes : Hid (Calls Tryz.prog 125 #[.agg #[.int .i64 d.root, .int .i64 d.next, .slice a d.nodes.length cap]] (w.alloc (.cells #[.int .i64 d.root, .int .i64 d.next, .slice a d.nodes.length cap] 38)) fun e w' => e = .returned (.bool r1) ∧ Below (w.heap.size + 1) (w.alloc (.cells #[.int .i64 d.root, .int .i64 d.next, .slice a d.nodes.length cap] 38)) w') := by
        have := specNodes_any n₀ d _ (w.alloc (.cells #[.int .i64 d.root, .int .i64 d.next, .slice a d.nodes.length cap] 38)) (by omega) (by omega) hB'.1 hB'.2 (hN'.below (Nat.le_refl _) (hW.mono hn)) (by simp; omega) HKL.out r1 hr1
        unfold Hid; simpa using this
      cases r1 with
      | false =>
        have hf : Hid (r = false) := not_true HR.out (fun G => by have := hr1.2 G.nodesFine; cases this)
        clear hr1 hA' hB'
        go_enter Tryz.func108, Tryz.ntmps108
        go_wp2_with (first | (go_at_call 52; refine (specIn_any _ _ _ _).mono ?_; rintro e w' ⟨rfl, rfl⟩) | (go_at_call 125; refine HNodes.out.mono ?_; rintro e w1 ⟨rfl, hb1⟩))
        go_ret
        exact ⟨ret_bool hf.out.symm, hW.trans (hb1.mono (by omega))⟩
      | true =>
        obtain ⟨F, hlen⟩ := hr1.1 rfl
        obtain ⟨r2, hr2⟩ : ∃ r2 : Bool, r2 = true ↔ ∀ i ∈ idsOf d.nodes, ∃ q, Dep d.nodes d.root q i := by classical exact ⟨decide (∀ i ∈ idsOf d.nodes, ∃ q, Dep d.nodes d.root q i), by simp⟩
        have HReach : Hid (∀ w1, Below (w.heap.size + 1) (w.alloc (.cells #[.int .i64 d.root, .int .i64 d.next, .slice a d.nodes.length cap] 38)) w1 → Calls Tryz.prog 126 #[.agg #[.int .i64 d.root, .int .i64 d.next, .slice a d.nodes.length cap]] w1 fun e w' => e = .returned (.bool r2) ∧ Below (w.heap.size + 1) (w.alloc (.cells #[.int .i64 d.root, .int .i64 d.next, .slice a d.nodes.length cap] 38)) w') := fun w1 hb1 => by
          have hs := hb1.size
          simp only [World.size_alloc] at hs
          exact (specReach_any n₀ d _ w1 F (hN'.below (Nat.le_refl _) ((hW.trans (hb1.mono (by omega))).mono hn)) (by omega) r2 hr2).mono fun e w' ⟨he, hb⟩ => ⟨he, hb1.trans (hb.mono hs)⟩
        have HDeep : Hid (∀ w1, Below (w.heap.size + 1) (w.alloc (.cells #[.int .i64 d.root, .int .i64 d.next, .slice a d.nodes.length cap] 38)) w1 → Calls Tryz.prog 127 #[.agg #[.int .i64 d.root, .int .i64 d.next, .slice a d.nodes.length cap], .int .i64 d.root, .int .i64 6] w1 fun e w' => e = .returned (.int .i64 (deep d.nodes 6 d.root)) ∧ Below (w.heap.size + 1) (w.alloc (.cells #[.int .i64 d.root, .int .i64 d.next, .slice a d.nodes.length cap] 38)) w') := fun w1 hb1 => by
          have hs := hb1.size
          simp only [World.size_alloc] at hs
          exact (specDeep_any n₀ d.root d.next _ d.nodes hl HKL.out F.there 6 d.root 6 w1 (by omega) (rfl : (6 : Int) = ((6 : Nat) : Int)) (hN'.below (Nat.le_refl _) ((hW.trans (hb1.mono (by omega))).mono hn)) (by omega) F.rootIn).mono fun e w' ⟨he, hb⟩ => ⟨he, hb1.trans (hb.mono hs)⟩
        have HG : Hid (r = true ↔ (r2 = true ∧ deep d.nodes 6 d.root ≤ 6)) := by
          refine HR.out.trans (F.good_spec.trans ?_)
          rw [hr2]
          exact ⟨fun h => h.2, fun h => ⟨hlen, h⟩⟩
        generalize deep d.nodes 6 d.root = dp at *
        clear hr1 hr2 F hlen hA' hB' HR
        cases r2 with
        | false =>
          have hf : Hid (r = false) := not_true HG.out (fun h => by cases h.1)
          go_enter Tryz.func108, Tryz.ntmps108
          go_wp2_with (first | (go_at_call 52; refine (specIn_any _ _ _ _).mono ?_; rintro e w' ⟨rfl, rfl⟩) | (go_at_call 125; refine HNodes.out.mono ?_; rintro e w1 ⟨rfl, hb1⟩; obtain ⟨hcx, hfx⟩ := bcell (W := w.alloc _) (by simpa using hb1)) | (go_at_call 126; refine (HReach.out _ hb1).mono ?_; rintro e w2 ⟨rfl, hb2⟩; clear hcx hfx; obtain ⟨hcx, hfx⟩ := bcell (W := w.alloc _) (by simpa using hb2)))
          go_ret
          exact ⟨ret_bool hf.out.symm, hW.trans (hb2.mono (by omega))⟩
        | true =>
          go_enter Tryz.func108, Tryz.ntmps108
          go_wp2_with (first | (go_at_call 52; refine (specIn_any _ _ _ _).mono ?_; rintro e w' ⟨rfl, rfl⟩) | (go_at_call 125; refine HNodes.out.mono ?_; rintro e w1 ⟨rfl, hb1⟩; obtain ⟨hcx, hfx⟩ := bcell (W := w.alloc _) (by simpa using hb1)) | (go_at_call 126; refine (HReach.out _ hb1).mono ?_; rintro e w2 ⟨rfl, hb2⟩; clear hcx hfx; obtain ⟨hcx, hfx⟩ := bcell (W := w.alloc _) (by simpa using hb2)) | (go_at_call 127; refine (HDeep.out _ hb2).mono ?_; rintro e w3 ⟨rfl, hb3⟩))
          go_ret
          refine ⟨ret_bool ?_, hW.trans (hb3.mono (by omega))⟩
          rw [Bool.eq_iff_iff, HG.out]
          simp only [decide_eq_true_eq, true_and]
          omega
end Go.Proofs.YtfjhpfgffbghdaaGreatDoor
