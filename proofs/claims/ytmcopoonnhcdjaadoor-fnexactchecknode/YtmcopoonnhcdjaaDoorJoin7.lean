/-
  That all nodes hang on the root, as the specification asks it: going up by the parents.
  What the specification answers to whether a document is right: just if it is (Good).
  What the program's treeOf answers: a tree in memory of a right document; none of any other.
-/
import Derived.Test.YtmcopoonnhcdjaaDoorJoin3
import Derived.Deep.DeepCutAuto
import Derived.Test.YtmcopoonnhcdjaaDoorJoin4
import Derived.Test.YtmcopoonnhcdjaaDoorJoin6
namespace Go.Proofs.YtmcopoonnhcdjaaDoor
open Go.RowKit

theorem parentOf_up {l : List PNode} (hr : (idsOf l).Pairwise (· < ·)) {i : Int} (h : i ∈ allKids l) : i ∈ kidsAt l (parentOf l i) := by
  have key : ∃ x ∈ l, parentOf l i = x.id ∧ i ∈ x.kids := by
    clear hr
    induction l with
    | nil => simp [allKids] at h
    | cons x l ih =>
      by_cases hx : hasB x.kids i = true
      · exact ⟨x, by simp, by simp [parentOf, hx], hasB_iff.1 hx⟩
      · have hi : i ∈ allKids l := by
          have : i ∈ x.kids ∨ i ∈ allKids l := by simpa [allKids] using h
          exact this.resolve_left (fun e => hx (hasB_iff.2 e))
        obtain ⟨y, hy, h1, h2⟩ := ih hi
        exact ⟨y, by simp [hy], by simp only [parentOf]; rw [if_neg hx, h1], h2⟩
  obtain ⟨x, hx, h1, h2⟩ := key
  rw [h1, kidsAt_of hr hx]; exact h2

theorem parentOf_none {l : List PNode} {i : Int} (h : i ∉ allKids l) : parentOf l i = 0 := by
  have := @parentOf_skip l l.length i (fun x hx => by
    rw [List.take_length] at hx
    exact hasB_no.2 (fun e => h (List.mem_flatMap.2 ⟨x, hx, e⟩)))
  rw [this]; simp [parentOf]

/-- Going up from i0, so many steps have led to cur. -/
def Climb (l : List PNode) (root i0 cur : Int) (s : Nat) : Prop :=
  (∀ q, Dep l root q cur → Dep l root (q + s) i0) ∧ (∀ q, Dep l root q i0 → s ≤ q ∧ Dep l root (q - s) cur)

theorem climb_start (l : List PNode) (root i0 : Int) : Climb l root i0 i0 0 := ⟨fun _ h => h, fun _ h => ⟨Nat.zero_le _, h⟩⟩

section
variable {d : PDoc} {i0 cur : Int} {s : Nat}

theorem Flat.ids_pos (F : Flat d) {i : Int} (h : i ∈ idsOf d.nodes) : 1 ≤ i ∧ i ≤ d.next - 1 := by
  obtain ⟨x, hx, rfl⟩ := List.mem_map.1 h
  exact ⟨(F.fine x hx).1, (F.fine x hx).2.1⟩

theorem climb_step (F : Flat d) (h : Climb d.nodes d.root i0 cur s) (hne : cur ≠ d.root) : Climb d.nodes d.root i0 (parentOf d.nodes cur) (s + 1) := by
  obtain ⟨hA, hB⟩ := h
  constructor
  · intro q hq
    by_cases hk : cur ∈ allKids d.nodes
    · have := hA (q + 1) ⟨_, hq, parentOf_up F.rise hk⟩
      rwa [show q + (s + 1) = q + 1 + s by omega]
    · rw [parentOf_none hk] at hq
      have := (F.ids_pos (dep_in F.there F.rootIn hq)).1
      omega
  · intro q hq
    obtain ⟨h1, h2⟩ := hB q hq
    obtain ⟨m, hm⟩ : ∃ m, q - s = m + 1 := by
      cases hqs : q - s with
      | zero => rw [hqs] at h2; exact absurd h2 hne
      | succ m => exact ⟨m, rfl⟩
    rw [hm] at h2
    obtain ⟨k, hk, hc⟩ := h2
    have := one_parent F.once hc (parentOf_up F.rise (kidsAt_all hc))
    subst this
    exact ⟨by omega, by rwa [show q - (s + 1) = m by omega]⟩

theorem climb_hit (h : Climb d.nodes d.root i0 cur s) (he : cur = d.root) : ∃ q, Dep d.nodes d.root q i0 := ⟨_, h.1 0 he⟩

theorem climb_miss (F : Flat d) (h : Climb d.nodes d.root i0 cur s) (hne : cur ≤ 0 ∨ d.nodes.length < s) : ¬ ∃ q, Dep d.nodes d.root q i0 := by
  rintro ⟨q, hq⟩
  obtain ⟨h1, h2⟩ := h.2 q hq
  have h3 := (F.ids_pos (dep_in F.there F.rootIn h2)).1
  have h4 := low_desc F.low (dep_iff.1 hq)
  omega

theorem reach_snoc {l : List PNode} {k : Nat} (hk : k < l.length) {p : Int → Prop} (h : ∀ i ∈ idsOf (l.take k), p i) (h1 : p (l[k]?.getD nodeNil).id) : ∀ i ∈ idsOf (l.take (k + 1)), p i := by
  rw [ids_snoc hk]; intro i hi
  rcases List.mem_append.1 hi with hi | hi
  · exact h i hi
  · simp only [List.mem_singleton] at hi; rw [hi]; exact h1
end

set_option maxHeartbeats 1000000 in
set_option maxRecDepth 100000 in
theorem specReach_any (n₀ : Nat) (d : PDoc) (s : Value) (w : World) (F : Flat d) (hN : NodesAt n₀ w s d.nodes) (hn : n₀ ≤ w.heap.size) (r : Bool) (hr : r = true ↔ ∀ i ∈ idsOf d.nodes, ∃ q, Dep d.nodes d.root q i) :
    Calls Tryd.prog 72 #[.agg #[.int .i64 d.root, .int .i64 d.next, s]] w fun e w' => e = .returned (.bool r) ∧ Below w.heap.size w w' := by
  have hl := F.n40
  have hkl : Hid (∀ x ∈ d.nodes, x.kids.length ≤ 1048576) := fun x hx => by have := (F.fine x hx).2.2.2.2.2.2.2; omega
  have hl1 : Hid (d.nodes ≠ []) := by have := F.n1; intro e; rw [e] at this; simp at this
  have HStep : Hid (∀ i0 cur s, Climb d.nodes d.root i0 cur s → cur ≠ d.root → Climb d.nodes d.root i0 (parentOf d.nodes cur) (s + 1)) := fun _ _ _ h hne => climb_step F h hne
  have HMiss : Hid (∀ i0 cur s, Climb d.nodes d.root i0 cur s → (cur ≤ 0 ∨ d.nodes.length < s) → ¬ ∃ q, Dep d.nodes d.root q i0) := fun _ _ _ h hne => climb_miss F h hne
  have HHit : Hid (∀ i0 cur s, Climb d.nodes d.root i0 cur s → cur = d.root → ∃ q, Dep d.nodes d.root q i0) := fun _ _ _ h hne => climb_hit h hne
  have HR := hide hr
  clear F hr
  generalize d.root = rt at *
  generalize d.nodes = l at *
  generalize d.next = nx at *
  have hN' := hN
  obtain ⟨a, cap, rfl, hk'⟩ := hN
  obtain ⟨b, off, rfl, hb, hc⟩ := hk'.resolve_left hl1.out
  have hbw : b < w.heap.size := by omega
  clear hk'
  have HCs := hide hc
  clear hc
  go_enter Tryd.func72, Tryd.ntmps72
  go_wp2_with fail
  go_loopw [3] (fun i' wr => ∃ k : Nat, k ≤ l.length ∧ i' = .int .i64 k ∧ Hid (∀ i ∈ idsOf (l.take k), ∃ q, Dep l rt q i) ∧ Below (w.heap.size + 1) (w.alloc (.cells #[.int .i64 rt, .int .i64 nx, .slice (some ⟨b, off, none⟩) l.length cap] 33)) wr) (fun i' _ => l.length - (intOf i').toNat)
  case atStart => exact ⟨0, Nat.zero_le _, rfl, by simp [Hid, idsOf], Below.refl _ _⟩
  case round =>
    obtain ⟨k, hkl', rfl, hall, hbr⟩ := hrel
    obtain ⟨hcx, hfx⟩ := bcell (W := w.alloc _) (by simpa using hbr)
    have hsz := hbr.size
    simp only [World.size_alloc] at hsz
    by_cases hlt : k < l.length
    · have hck := (HCs.out k hlt).c0
      have HS := hide (@reach_snoc l k hlt (fun i => ∃ q, Dep l rt q i) hall.out)
      have HI : Hid ((l[k]?.getD nodeNil).id ∈ idsOf l) := by simp [Hid, hlt, idsOf]; exact ⟨_, List.getElem_mem hlt, rfl⟩
      generalize (l[k]?.getD nodeNil).id = i0 at *
      go_wp2_with fail
      go_loopw [4, 5] (fun cv sv wr' => ∃ (cur : Int) (st : Nat), cv = .int .i64 cur ∧ sv = .int .i64 st ∧ st ≤ l.length + 1 ∧ Hid (Climb l rt i0 cur st) ∧ Below (w.heap.size + 1) (w.alloc (.cells #[.int .i64 rt, .int .i64 nx, .slice (some ⟨b, off, none⟩) l.length cap] 33)) wr') (fun _ sv _ => l.length + 1 - (intOf sv).toNat)
      case atStart => exact ⟨i0, 0, rfl, rfl, by omega, climb_start _ _ _, hbr⟩
      case round =>
        obtain ⟨cur, st, rfl, rfl, hst, hcl, hbr'⟩ := hrel
        clear hcx hfx hsz hck
        obtain ⟨hcx, hfx⟩ := bcell (W := w.alloc _) (by simpa using hbr')
        have hsz := hbr'.size
        simp only [World.size_alloc] at hsz
        go_wp2_with (go_at_call 99; refine (specParent_any n₀ rt nx _ l cur _ (hN'.below (Nat.le_refl _) (((Below.refl _ _).alloc hn _).trans (hbr'.mono (by omega)))) (by omega) (by omega) hkl.out).mono ?_; rintro e w1 ⟨rfl, hb1⟩)
        · exact ⟨⟨k + 1, by omega, by go_num, HS.out (HHit.out _ _ _ hcl.out (by assumption)), hbr'⟩, by simp [intOf]; omega⟩
        · exact ⟨⟨_, st + 1, rfl, by go_num, by omega, HStep.out _ _ _ hcl.out (by assumption), hbr'.trans (hb1.mono hsz)⟩, by simp [intOf]; omega⟩
        all_goals
          have hno := HMiss.out _ _ _ hcl.out (by first | (left; omega) | (right; simp_all))
          have hf : r = false := by
            cases hrr : r with
            | false => rfl
            | true => exact absurd (HR.out.1 hrr _ HI.out) hno
          go_ret
          exact ⟨ret_bool hf.symm, ((Below.refl _ _).alloc (Nat.le_refl _) _).trans (hbr'.mono (by omega))⟩
    · have ht : Hid (r = true) := HR.out.2 (by have := hall.out; rwa [List.take_of_length_le (by omega)] at this)
      clear hall
      go_wp2_with fail
      go_ret
      exact ⟨ret_bool ht.out.symm, ((Below.refl _ _).alloc (Nat.le_refl _) _).trans (hbr.mono (by omega))⟩
end Go.Proofs.YtmcopoonnhcdjaaDoor

namespace Go.Proofs.YtmcopoonnhcdjaaDoor
open Go.RowKit

theorem not_true {r : Bool} {p : Prop} (h : r = true ↔ p) (hn : ¬ p) : r = false := by
  cases r with
  | false => rfl
  | true => exact absurd (h.1 rfl) hn

theorem Good.nodesFine {d : PDoc} (G : Good d) : NodesFine d := ⟨G.toFlat, (G.toFlat.good_spec.1 G).1⟩

set_option maxHeartbeats 1000000 in
set_option maxRecDepth 100000 in
theorem specOK_any (n₀ : Nat) (d : PDoc) (s : Value) (w : World) (hN : NodesAt n₀ w s d.nodes) (hn : n₀ ≤ w.heap.size) (hl : d.nodes.length ≤ 1048576) (hkl : ∀ x ∈ d.nodes, x.kids.length ≤ 1048576) (r : Bool) (hr : r = true ↔ Good d) :
    Calls Tryd.prog 46 #[.agg #[.int .i64 d.root, .int .i64 d.next, s]] w fun e w' => e = .returned (.bool r) ∧ Below w.heap.size w w' := by
  have HKL := hide hkl
  have HR := hide hr
  clear hkl hr
  have hN' := hN
  obtain ⟨a, cap, rfl, -⟩ := hN
  cases hA : inB (d.nodes.length : Int) 1 40 with
  | false =>
    have hf : Hid (r = false) := not_true HR.out (fun G => by have := inB_iff.2 ⟨show (1 : Int) ≤ d.nodes.length by have := G.n1; omega, show (d.nodes.length : Int) ≤ 40 by have := G.n40; omega⟩; rw [hA] at this; cases this)
    go_enter Tryd.func46, Tryd.ntmps46
    go_wp2_with (go_at_call 57; refine (specIn_any _ _ _ _).mono ?_; rintro e w' ⟨rfl, rfl⟩)
    go_ret
    exact ⟨ret_bool hf.out.symm, (Below.refl _ _).alloc (Nat.le_refl _) _⟩
  | true =>
    cases hB : inB d.next 2 999999 with
    | false =>
      have hf : Hid (r = false) := not_true HR.out (fun G => by have := inB_iff.2 ⟨G.nx2, G.nxm⟩; rw [hB] at this; cases this)
      go_enter Tryd.func46, Tryd.ntmps46
      go_wp2_with (go_at_call 57; refine (specIn_any _ _ _ _).mono ?_; rintro e w' ⟨rfl, rfl⟩)
      go_ret
      exact ⟨ret_bool hf.out.symm, (Below.refl _ _).alloc (Nat.le_refl _) _⟩
    | true =>
      have hA' := inB_iff.1 hA
      have hB' := inB_iff.1 hB
      have hW := (Below.refl w.heap.size w).alloc (Nat.le_refl _) (.cells #[.int .i64 d.root, .int .i64 d.next, .slice a d.nodes.length cap] 33)
      obtain ⟨r1, hr1⟩ : ∃ r1 : Bool, r1 = true ↔ NodesFine d := by classical exact ⟨decide (NodesFine d), by simp⟩
      have HNodes : Hid (Calls Tryd.prog 71 #[.agg #[.int .i64 d.root, .int .i64 d.next, .slice a d.nodes.length cap]] (w.alloc (.cells #[.int .i64 d.root, .int .i64 d.next, .slice a d.nodes.length cap] 33)) fun e w' => e = .returned (.bool r1) ∧ Below (w.heap.size + 1) (w.alloc (.cells #[.int .i64 d.root, .int .i64 d.next, .slice a d.nodes.length cap] 33)) w') := by
        have := specNodes_any n₀ d _ (w.alloc (.cells #[.int .i64 d.root, .int .i64 d.next, .slice a d.nodes.length cap] 33)) (by omega) (by omega) hB'.1 hB'.2 (hN'.below (Nat.le_refl _) (hW.mono hn)) (by simp; omega) HKL.out r1 hr1
        unfold Hid; simpa using this
      cases r1 with
      | false =>
        have hf : Hid (r = false) := not_true HR.out (fun G => by have := hr1.2 G.nodesFine; cases this)
        clear hr1 hA' hB'
        go_enter Tryd.func46, Tryd.ntmps46
        go_wp2_with (first | (go_at_call 57; refine (specIn_any _ _ _ _).mono ?_; rintro e w' ⟨rfl, rfl⟩) | (go_at_call 71; refine HNodes.out.mono ?_; rintro e w1 ⟨rfl, hb1⟩))
        go_ret
        exact ⟨ret_bool hf.out.symm, hW.trans (hb1.mono (by omega))⟩
      | true =>
        obtain ⟨F, hlen⟩ := hr1.1 rfl
        obtain ⟨r2, hr2⟩ : ∃ r2 : Bool, r2 = true ↔ ∀ i ∈ idsOf d.nodes, ∃ q, Dep d.nodes d.root q i := by classical exact ⟨decide (∀ i ∈ idsOf d.nodes, ∃ q, Dep d.nodes d.root q i), by simp⟩
        have HReach : Hid (∀ w1, Below (w.heap.size + 1) (w.alloc (.cells #[.int .i64 d.root, .int .i64 d.next, .slice a d.nodes.length cap] 33)) w1 → Calls Tryd.prog 72 #[.agg #[.int .i64 d.root, .int .i64 d.next, .slice a d.nodes.length cap]] w1 fun e w' => e = .returned (.bool r2) ∧ Below (w.heap.size + 1) (w.alloc (.cells #[.int .i64 d.root, .int .i64 d.next, .slice a d.nodes.length cap] 33)) w') := fun w1 hb1 => by
          have hs := hb1.size
          simp only [World.size_alloc] at hs
          exact (specReach_any n₀ d _ w1 F (hN'.below (Nat.le_refl _) ((hW.trans (hb1.mono (by omega))).mono hn)) (by omega) r2 hr2).mono fun e w' ⟨he, hb⟩ => ⟨he, hb1.trans (hb.mono hs)⟩
        have HDeep : Hid (∀ w1, Below (w.heap.size + 1) (w.alloc (.cells #[.int .i64 d.root, .int .i64 d.next, .slice a d.nodes.length cap] 33)) w1 → Calls Tryd.prog 73 #[.agg #[.int .i64 d.root, .int .i64 d.next, .slice a d.nodes.length cap], .int .i64 d.root, .int .i64 6] w1 fun e w' => e = .returned (.int .i64 (deep d.nodes 6 d.root)) ∧ Below (w.heap.size + 1) (w.alloc (.cells #[.int .i64 d.root, .int .i64 d.next, .slice a d.nodes.length cap] 33)) w') := fun w1 hb1 => by
          have hs := hb1.size
          simp only [World.size_alloc] at hs
          exact (specDeep_any n₀ d.root d.next _ d.nodes hl HKL.out F.there 6 d.root 6 w1 (by omega) (rfl : (6 : Int) = ((6 : Nat) : Int)) (hN'.below (Nat.le_refl _) ((hW.trans (hb1.mono (by omega))).mono hn)) (by omega) F.rootIn).mono fun e w' ⟨he, hb⟩ => ⟨he, hb1.trans (hb.mono hs)⟩
        have HG : Hid (r = true ↔ (r2 = true ∧ deep d.nodes 6 d.root ≤ 6)) := by
          refine HR.out.trans (F.good_spec.trans ?_)
          rw [hr2]
          exact ⟨fun h => h.2, fun h => ⟨hlen, h⟩⟩
        generalize deep d.nodes 6 d.root = dp at *
        clear hr1 hr2 F hlen hA' hB' HR
        cases r2 with
        | false =>
          have hf : Hid (r = false) := not_true HG.out (fun h => by cases h.1)
          go_enter Tryd.func46, Tryd.ntmps46
          go_wp2_with (first | (go_at_call 57; refine (specIn_any _ _ _ _).mono ?_; rintro e w' ⟨rfl, rfl⟩) | (go_at_call 71; refine HNodes.out.mono ?_; rintro e w1 ⟨rfl, hb1⟩; obtain ⟨hcx, hfx⟩ := bcell (W := w.alloc _) (by simpa using hb1)) | (go_at_call 72; refine (HReach.out _ hb1).mono ?_; rintro e w2 ⟨rfl, hb2⟩; clear hcx hfx; obtain ⟨hcx, hfx⟩ := bcell (W := w.alloc _) (by simpa using hb2)))
          go_ret
          exact ⟨ret_bool hf.out.symm, hW.trans (hb2.mono (by omega))⟩
        | true =>
          go_enter Tryd.func46, Tryd.ntmps46
          go_wp2_with (first | (go_at_call 57; refine (specIn_any _ _ _ _).mono ?_; rintro e w' ⟨rfl, rfl⟩) | (go_at_call 71; refine HNodes.out.mono ?_; rintro e w1 ⟨rfl, hb1⟩; obtain ⟨hcx, hfx⟩ := bcell (W := w.alloc _) (by simpa using hb1)) | (go_at_call 72; refine (HReach.out _ hb1).mono ?_; rintro e w2 ⟨rfl, hb2⟩; clear hcx hfx; obtain ⟨hcx, hfx⟩ := bcell (W := w.alloc _) (by simpa using hb2)) | (go_at_call 73; refine (HDeep.out _ hb2).mono ?_; rintro e w3 ⟨rfl, hb3⟩))
          go_ret
          refine ⟨ret_bool ?_, hW.trans (hb3.mono (by omega))⟩
          rw [Bool.eq_iff_iff, HG.out]
          simp only [decide_eq_true_eq, true_and]
          omega
end Go.Proofs.YtmcopoonnhcdjaaDoor

namespace Go.Proofs.YtmcopoonnhcdjaaDoor
open Go.RowKit Go.Shelf

/-- Numbers of a document that a program can hold. -/
structure WfDoc (d : PDoc) : Prop where
  root : Wf64 d.root
  kids : ∀ x ∈ d.nodes, ∀ k ∈ x.kids, Wf64 k

/-- A document's tree in memory, and the block that holds its root. -/
structure Grown (n₀ : Nat) (W : World) (d : PDoc) (tb : Nat) (ad : Int → Nat) (up : Int → Option Int) (kv : Int → Value) : Prop where
  hung : Hung n₀ W d.nodes ad up (kidsAt d.nodes) kv
  upNone : ∀ i, up i = none ↔ i ∉ allKids d.nodes
  upKid : ∀ i p, up i = some p → i ∈ kidsAt d.nodes p
  top : W.heap[tb]? = some (.cells #[.pointer (some ⟨ad d.root, 0, none⟩), .int .i64 d.next] 88 (0, 0))

def TreePost (w : World) (d : PDoc) (e : Ending) (w' : World) : Prop :=
  (∃ (tb : Nat) (ad : Int → Nat) (up : Int → Option Int) (kv : Int → Value), e = .returned (.tuple #[.pointer (some ⟨tb, 0, none⟩), .bool true]) ∧ Good d ∧ Grown w.heap.size w' d tb ad up kv ∧ w.heap.size ≤ tb ∧ Below w.heap.size w w') ∨
  (e = .returned (.tuple #[.pointer none, .bool false]) ∧ ¬ Good d ∧ Below w.heap.size w w')

theorem Flat.walkable {d : PDoc} (F : Flat d) : Walkable d.nodes := ⟨fun x hx => by have := (F.fine x hx).2.2.2.2.2.2.2; omega, F.there, F.rise⟩

theorem Base.flat {d : PDoc} (B : Base d) (h1 : ∀ k ∈ allKids d.nodes, k ∈ idsOf d.nodes) (h2 : (allKids d.nodes).Nodup) (h3 : d.root ∉ allKids d.nodes) (h4 : d.root ∈ idsOf d.nodes) : Flat d := ⟨B.n1, B.n40, B.nx2, B.nxm, B.fine, B.rise, h1, h2, h3, h4⟩

theorem Base.wf {d : PDoc} (B : Base d) : ∀ x ∈ d.nodes, Wf64 x.id := fun x hx => by
  have h1 := (B.fine x hx).1
  have h2 := (B.fine x hx).2.1
  have := B.nxm
  exact wf64_of (by omega) (by omega)

theorem Hung.mono {n₀ n₁ : Nat} {W : World} {l : List PNode} {ad : Int → Nat} {up : Int → Option Int} {kd : Int → List Int} {kv : Int → Value} (h : Hung n₀ W l ad up kd kv) (hn : n₁ ≤ n₀) : Hung n₁ W l ad up kd kv :=
  ⟨fun x hx => by have := h.base x hx; omega, h.node, fun x hx => by
    obtain ⟨h1, h2 | ⟨g, cap, cur, hv, hg, r⟩⟩ := h.row x hx
    · exact ⟨h1, .inl h2⟩
    · exact ⟨h1, .inr ⟨g, cap, cur, hv, by omega, r⟩⟩, h.inj, h.apart⟩

set_option maxHeartbeats 1000000 in
set_option maxRecDepth 100000 in
theorem treeOf_any (n₀ : Nat) (d : PDoc) (s : Value) (w : World) (hN : NodesAt n₀ w s d.nodes) (hn : n₀ ≤ w.heap.size) (hl : d.nodes.length ≤ 1048576) (hwf : WfDoc d) :
    Calls Tryd.prog 49 #[.agg #[.int .i64 d.root, .int .i64 d.next, s]] w (TreePost w d) := by
  have hW := (Below.refl w.heap.size w).alloc (Nat.le_refl _) (.cells #[.int .i64 d.root, .int .i64 d.next, s] 33)
  have HBr : Hid (Calls Tryd.prog 76 #[.agg #[.int .i64 d.root, .int .i64 d.next, s]] (w.alloc (.cells #[.int .i64 d.root, .int .i64 d.next, s] 33)) (BranchesPost (w.alloc (.cells #[.int .i64 d.root, .int .i64 d.next, s] 33)) d)) :=
    branchesOf_any n₀ d s _ (hN.below (Nat.le_refl _) (hW.mono hn)) (by simp; omega) hl
  have hN' := hN
  have HWf := hide hwf
  clear hwf
  obtain ⟨a, cap, rfl, -⟩ := hN
  go_enter Tryd.func49, Tryd.ntmps49
  go_wp2_with fail
  refine HBr.out.mono ?_
  rintro e w1 (⟨mb, nm, ad, rfl, hbase, hfr, hpm, hmb, hb1⟩ | ⟨rfl, hno, hb1⟩)
  · simp only [World.size_alloc] at hfr hmb hb1
    have hs1 := hb1.size
    simp only [World.size_alloc] at hs1
    have HHang : Hid (Calls Tryd.prog 77 #[.map (some mb), .slice a d.nodes.length cap] w1 (HangPost (w.heap.size + 1) mb nm w1 d.nodes ad)) :=
      hangUp_any n₀ (w.heap.size + 1) mb nm _ d.nodes ad w1 (hN'.below (Nat.le_refl _) ((hW.trans (hb1.mono (by omega))).mono hn)) (by omega) hs1 hbase.n40 (fun x hx => (hbase.fine x hx).2.2.2.2.2.2.2) hbase.wf HWf.out.kids hbase.rise hfr.hung hpm
    have HBase := hide hbase
    obtain ⟨hcx, hfx⟩ := bcell (W := w.alloc _) (by simpa using hb1)
    clear hbase hfr hpm
    go_wp2_with fail
    refine HHang.out.mono ?_
    rintro e w2 (⟨up, kv, rfl, hth, hon, hhg, hun, huk, hpm, hb2⟩ | ⟨rfl, hno, hb2⟩)
    · have hb2' := hb1.trans hb2
      have hs2 := hb2.size
      have HThere := hide hth
      have HOnce := hide hon
      have HHung := hide hhg
      have HUN := hide hun
      have HUK := hide huk
      have hlook := hpm.look HWf.out.root
      clear hcx hfx hth hon hhg hun huk hpm
      obtain ⟨hcx, hfx⟩ := bcell (W := w.alloc _) (by simpa using hb2')
      by_cases hin : d.root ∈ idsOf d.nodes
      · rw [show idMap d.nodes ad d.root = some (ad d.root) from if_pos hin] at hlook
        simp only [ptrTo, Option.map_some] at hlook
        have HT := hide (HHung.out.tree HBase.out.rise)
        obtain ⟨x, hx, hxr⟩ := node_of hin
        have h4 := (HT.out x hx).c4
        rw [hxr] at h4
        cases hup : up d.root with
        | some p =>
          rw [hup] at h4
          simp only [Option.map_some, ptrTo] at h4
          have hf : Hid (¬ Good d) := fun G => G.rootNo (kidsAt_all (HUK.out _ _ hup))
          clear hup hxr
          go_wp2_with fail
          go_ret2
          exact .inr ⟨rfl, hf.out, hW.trans (hb2'.mono (by omega))⟩
        | none =>
          rw [hup] at h4
          simp only [Option.map_none, ptrTo] at h4
          have F : Flat d := HBase.out.flat HThere.out HOnce.out ((HUN.out _).1 hup) hin
          have HG := hide F.good_iff
          have HCount : Hid (∀ t : Calm w2, Calls Tryd.prog 78 #[.pointer (some ⟨ad d.root, 0, none⟩)] t.out fun e w' => e = .returned (.int .i64 ((order d.nodes d.nodes.length d.root).length : Int)) ∧ Below t.out.heap.size t.out w') := fun t =>
            count_any d.nodes ad up F.walkable w2.heap.size d.nodes.length d.root hin F.low (by have := F.order_le d.nodes.length; have := F.n40; omega) t.out t.below.size (HT.out.below (Nat.le_refl _) t.below)
          have HHeight : Hid (∀ t : Calm w2, Calls Tryd.prog 79 #[.pointer (some ⟨ad d.root, 0, none⟩)] t.out fun e w' => e = .returned (.int .i64 (hgt d.nodes d.nodes.length d.root : Int)) ∧ w' = t.out) := fun t =>
            height_any d.nodes ad up F.walkable w2.heap.size d.nodes.length d.root t.out (by have := F.n40; omega) hin F.low (HT.out.below (Nat.le_refl _) t.below)
          have hol := F.order_le d.nodes.length
          clear hup hxr F
          generalize (order d.nodes d.nodes.length d.root).length = oc at *
          generalize hgt d.nodes d.nodes.length d.root = hg at *
          go_wp2_with fail
          go_cut [44] (fun v44 wc => v44 = .bool (!((oc : Int) == (d.nodes.length : Int)) || decide (6 < (hg : Int))) ∧ Below w2.heap.size w2 wc)
          case first =>
            have hcal := calm_cell w2
            have hszw : w.heap.size < w2.heap.size := by omega
            by_cases heq : oc = d.nodes.length
            · subst heq
              refine wp_region_calm (by kernel_rfl) (by kernel_rfl) ?_
              repeat (go_big_quiet_step (first | (go_at_call 78; exact calm_of (HCount.out _)) | (go_at_call 79; exact calm_of_same (HHeight.out _))))
              refine wpQuiet_nil ?_
              rintro _ ⟨t, rfl⟩
              go_wp2_with fail
              go_meet
              exact ⟨by simp, t.below⟩
            · have hne1 : ((oc : Int) == (d.nodes.length : Int)) = false := by simp; omega
              have hne2 : ((oc : Int) != (d.nodes.length : Int)) = true := by simp; omega
              refine wp_region_calm (by kernel_rfl) (by kernel_rfl) ?_
              repeat (go_big_quiet_step (first | (go_at_call 78; exact calm_of (HCount.out _)) | (go_at_call 79; exact calm_of_same (HHeight.out _))))
              refine wpQuiet_nil ?_
              rintro _ ⟨t, rfl⟩
              go_wp2_with fail
              go_meet
              exact ⟨by simp [hne1], t.below⟩
          case rest =>
            obtain ⟨rfl, hb3⟩ := hcut
            have hb3' := hb2'.trans (hb3.mono (by omega))
            have hs3 := hb3.size
            clear hcx hfx HCount HHeight
            obtain ⟨hcx, hfx⟩ := bcell (W := w.alloc _) (by simpa using hb3')
            cases hbad : (!((oc : Int) == (d.nodes.length : Int)) || decide (6 < (hg : Int))) with
            | true =>
              have hf : Hid (¬ Good d) := fun G => by
                have h := HG.out.1 G
                simp only [Bool.or_eq_true, Bool.not_eq_true', beq_eq_false_iff_ne, decide_eq_true_eq, ne_eq] at hbad
                omega
              go_wp2_with fail
              go_ret2
              exact .inr ⟨rfl, hf.out, hW.trans (hb3'.mono (by omega))⟩
            | false =>
              have hG : Hid (Good d) := HG.out.2 (by
                simp only [Bool.or_eq_false_iff, Bool.not_eq_false', beq_iff_eq, decide_eq_false_iff_not] at hbad
                omega)
              have HH3 : Hid (Hung w.heap.size (wc.alloc (.cells #[.pointer (some ⟨ad d.root, 0, none⟩), .int .i64 d.next] 88)) d.nodes ad up (kidsAt d.nodes) kv) := ((HHung.out.below hb3).below ((Below.refl _ _).alloc (Nat.le_refl _) _)).mono (by omega)
              clear hbad HG
              go_wp2_with fail
              go_ret2
              exact .inl ⟨_, ad, up, kv, rfl, hG.out, ⟨HH3.out, HUN.out, HUK.out, alloc_new wc _⟩, by omega, hW.trans ((hb3'.mono (by omega)).alloc (by omega) _)⟩
      · rw [show idMap d.nodes ad d.root = none from if_neg hin] at hlook
        simp only [ptrTo, Option.map_none] at hlook
        have hf : Hid (¬ Good d) := fun G => hin G.rootIn
        clear hin
        go_wp2_with fail
        go_ret2
        exact .inr ⟨rfl, hf.out, hW.trans (hb2'.mono (by omega))⟩
    · have hf : Hid (¬ Good d) := fun G => hno ⟨G.there, G.once⟩
      clear hno
      go_wp2_with fail
      go_ret2
      exact .inr ⟨rfl, hf.out, hW.trans ((hb1.trans hb2).mono (by omega))⟩
  · simp only [World.size_alloc] at hb1
    have hf : Hid (¬ Good d) := fun G => hno G.base
    clear hno
    go_wp2_with fail
    go_ret2
    exact .inr ⟨rfl, hf.out, hW.trans (hb1.mono (by omega))⟩

end Go.Proofs.YtmcopoonnhcdjaaDoor
