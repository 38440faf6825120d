/-
  That all nodes hang on the root, as the specification asks it: going up by the parents.
  What the specification answers to whether a document is right: just if it is (Good).
-/
import Derived.Test.YtmcopoonnhcdjaaDoorJoin4
import Derived.Deep.DeepCutAuto
import Derived.Test.YtmcopoonnhcdjaaDoorJoin6
namespace Go.Proofs.YtmcopoonnhcdjaaDoor
open Go.RowKit

theorem parentOf_up {l : List PNode} (hr : (idsOf l).Pairwise (· < ·)) {i : Int} (h : i ∈ allKids l) : i ∈ kidsAt l (parentOf l i) := by
  have key : ∃ x ∈ l, parentOf l i = x.id ∧ i ∈ x.kids := by
    clear hr
    induction l with
    | nil => simp [allKids] at h
    | cons x l ih =>
      by_cases hx : hasB x.kids i = true
      · exact ⟨x, by simp, by simp [parentOf, hx], hasB_iff.1 hx⟩
      · have hi : i ∈ allKids l := by
          have : i ∈ x.kids ∨ i ∈ allKids l := by simpa [allKids] using h
          exact this.resolve_left (fun e => hx (hasB_iff.2 e))
        obtain ⟨y, hy, h1, h2⟩ := ih hi
        exact ⟨y, by simp [hy], by simp only [parentOf]; rw [if_neg hx, h1], h2⟩
  obtain ⟨x, hx, h1, h2⟩ := key
  rw [h1, kidsAt_of hr hx]; exact h2

theorem parentOf_none {l : List PNode} {i : Int} (h : i ∉ allKids l) : parentOf l i = 0 := by
  have := @parentOf_skip l l.length i (fun x hx => by
    rw [List.take_length] at hx
    exact hasB_no.2 (fun e => h (List.mem_flatMap.2 ⟨x, hx, e⟩)))
  rw [this]; simp [parentOf]

/-- Going up from i0, so many steps have led to cur. -/
def Climb (l : List PNode) (root i0 cur : Int) (s : Nat) : Prop :=
  (∀ q, Dep l root q cur → Dep l root (q + s) i0) ∧ (∀ q, Dep l root q i0 → s ≤ q ∧ Dep l root (q - s) cur)

theorem climb_start (l : List PNode) (root i0 : Int) : Climb l root i0 i0 0 := ⟨fun _ h => h, fun _ h => ⟨Nat.zero_le _, h⟩⟩

section
variable {d : PDoc} {i0 cur : Int} {s : Nat}

theorem Flat.ids_pos (F : Flat d) {i : Int} (h : i ∈ idsOf d.nodes) : 1 ≤ i ∧ i ≤ d.next - 1 := by
  obtain ⟨x, hx, rfl⟩ := List.mem_map.1 h
  exact ⟨(F.fine x hx).1, (F.fine x hx).2.1⟩

theorem climb_step (F : Flat d) (h : Climb d.nodes d.root i0 cur s) (hne : cur ≠ d.root) : Climb d.nodes d.root i0 (parentOf d.nodes cur) (s + 1) := by
  obtain ⟨hA, hB⟩ := h
  constructor
  · intro q hq
    by_cases hk : cur ∈ allKids d.nodes
    · have := hA (q + 1) ⟨_, hq, parentOf_up F.rise hk⟩
      rwa [show q + (s + 1) = q + 1 + s by omega]
    · rw [parentOf_none hk] at hq
      have := (F.ids_pos (dep_in F.there F.rootIn hq)).1
      omega
  · intro q hq
    obtain ⟨h1, h2⟩ := hB q hq
    obtain ⟨m, hm⟩ : ∃ m, q - s = m + 1 := by
      cases hqs : q - s with
      | zero => rw [hqs] at h2; exact absurd h2 hne
      | succ m => exact ⟨m, rfl⟩
    rw [hm] at h2
    obtain ⟨k, hk, hc⟩ := h2
    have := one_parent F.once hc (parentOf_up F.rise (kidsAt_all hc))
    subst this
    exact ⟨by omega, by rwa [show q - (s + 1) = m by omega]⟩

theorem climb_hit (h : Climb d.nodes d.root i0 cur s) (he : cur = d.root) : ∃ q, Dep d.nodes d.root q i0 := ⟨_, h.1 0 he⟩

theorem climb_miss (F : Flat d) (h : Climb d.nodes d.root i0 cur s) (hne : cur ≤ 0 ∨ d.nodes.length < s) : ¬ ∃ q, Dep d.nodes d.root q i0 := by
  rintro ⟨q, hq⟩
  obtain ⟨h1, h2⟩ := h.2 q hq
  have h3 := (F.ids_pos (dep_in F.there F.rootIn h2)).1
  have h4 := low_desc F.low (dep_iff.1 hq)
  omega

theorem reach_snoc {l : List PNode} {k : Nat} (hk : k < l.length) {p : Int → Prop} (h : ∀ i ∈ idsOf (l.take k), p i) (h1 : p (l[k]?.getD nodeNil).id) : ∀ i ∈ idsOf (l.take (k + 1)), p i := by
  rw [ids_snoc hk]; intro i hi
  rcases List.mem_append.1 hi with hi | hi
  · exact h i hi
  · simp only [List.mem_singleton] at hi; rw [hi]; exact h1
end

set_option maxHeartbeats 1000000 in
set_option maxRecDepth 100000 in
theorem specReach_any (n₀ : Nat) (d : PDoc) (s : Value) (w : World) (F : Flat d) (hN : NodesAt n₀ w s d.nodes) (hn : n₀ ≤ w.heap.size) (r : Bool) (hr : r = true ↔ ∀ i ∈ idsOf d.nodes, ∃ q, Dep d.nodes d.root q i) :
    Calls Tryd.prog 72 #[.agg #[.int .i64 d.root, .int .i64 d.next, s]] w fun e w' => e = .returned (.bool r) ∧ Below w.heap.size w w' := by
  have hl := F.n40
  have hkl : Hid (∀ x ∈ d.nodes, x.kids.length ≤ 1048576) := fun x hx => by have := (F.fine x hx).2.2.2.2.2.2.2; omega
  have hl1 : Hid (d.nodes ≠ []) := by have := F.n1; intro e; rw [e] at this; simp at this
  have HStep : Hid (∀ i0 cur s, Climb d.nodes d.root i0 cur s → cur ≠ d.root → Climb d.nodes d.root i0 (parentOf d.nodes cur) (s + 1)) := fun _ _ _ h hne => climb_step F h hne
  have HMiss : Hid (∀ i0 cur s, Climb d.nodes d.root i0 cur s → (cur ≤ 0 ∨ d.nodes.length < s) → ¬ ∃ q, Dep d.nodes d.root q i0) := fun _ _ _ h hne => climb_miss F h hne
  have HHit : Hid (∀ i0 cur s, Climb d.nodes d.root i0 cur s → cur = d.root → ∃ q, Dep d.nodes d.root q i0) := fun _ _ _ h hne => climb_hit h hne
  have HR := hide hr
  clear F hr
  generalize d.root = rt at *
  generalize d.nodes = l at *
  generalize d.next = nx at *
  have hN' := hN
  obtain ⟨a, cap, rfl, hk'⟩ := hN
  obtain ⟨b, off, rfl, hb, hc⟩ := hk'.resolve_left hl1.out
  have hbw : b < w.heap.size := by omega
  clear hk'
  have HCs := hide hc
  clear hc
  go_enter Tryd.func72, Tryd.ntmps72
  go_wp2_with fail
  go_loopw [3] (fun i' wr => ∃ k : Nat, k ≤ l.length ∧ i' = .int .i64 k ∧ Hid (∀ i ∈ idsOf (l.take k), ∃ q, Dep l rt q i) ∧ Below (w.heap.size + 1) (w.alloc (.cells #[.int .i64 rt, .int .i64 nx, .slice (some ⟨b, off, none⟩) l.length cap] 33)) wr) (fun i' _ => l.length - (intOf i').toNat)
  case atStart => exact ⟨0, Nat.zero_le _, rfl, by simp [Hid, idsOf], Below.refl _ _⟩
  case round =>
    obtain ⟨k, hkl', rfl, hall, hbr⟩ := hrel
    obtain ⟨hcx, hfx⟩ := bcell (W := w.alloc _) (by simpa using hbr)
    have hsz := hbr.size
    simp only [World.size_alloc] at hsz
    by_cases hlt : k < l.length
    · have hck := (HCs.out k hlt).c0
      have HS := hide (@reach_snoc l k hlt (fun i => ∃ q, Dep l rt q i) hall.out)
      have HI : Hid ((l[k]?.getD nodeNil).id ∈ idsOf l) := by simp [Hid, hlt, idsOf]; exact ⟨_, List.getElem_mem hlt, rfl⟩
      generalize (l[k]?.getD nodeNil).id = i0 at *
      go_wp2_with fail
      go_loopw [4, 5] (fun cv sv wr' => ∃ (cur : Int) (st : Nat), cv = .int .i64 cur ∧ sv = .int .i64 st ∧ st ≤ l.length + 1 ∧ Hid (Climb l rt i0 cur st) ∧ Below (w.heap.size + 1) (w.alloc (.cells #[.int .i64 rt, .int .i64 nx, .slice (some ⟨b, off, none⟩) l.length cap] 33)) wr') (fun _ sv _ => l.length + 1 - (intOf sv).toNat)
      case atStart => exact ⟨i0, 0, rfl, rfl, by omega, climb_start _ _ _, hbr⟩
      case round =>
        obtain ⟨cur, st, rfl, rfl, hst, hcl, hbr'⟩ := hrel
        clear hcx hfx hsz hck
        obtain ⟨hcx, hfx⟩ := bcell (W := w.alloc _) (by simpa using hbr')
        have hsz := hbr'.size
        simp only [World.size_alloc] at hsz
        go_wp2_with (go_at_call 99; refine (specParent_any n₀ rt nx _ l cur _ (hN'.below (Nat.le_refl _) (((Below.refl _ _).alloc hn _).trans (hbr'.mono (by omega)))) (by omega) (by omega) hkl.out).mono ?_; rintro e w1 ⟨rfl, hb1⟩)
        · exact ⟨⟨k + 1, by omega, by go_num, HS.out (HHit.out _ _ _ hcl.out (by assumption)), hbr'⟩, by simp [intOf]; omega⟩
        · exact ⟨⟨_, st + 1, rfl, by go_num, by omega, HStep.out _ _ _ hcl.out (by assumption), hbr'.trans (hb1.mono hsz)⟩, by simp [intOf]; omega⟩
        all_goals
          have hno := HMiss.out _ _ _ hcl.out (by first | (left; omega) | (right; simp_all))
          have hf : r = false := by
            cases hrr : r with
            | false => rfl
            | true => exact absurd (HR.out.1 hrr _ HI.out) hno
          go_ret
          exact ⟨ret_bool hf.symm, ((Below.refl _ _).alloc (Nat.le_refl _) _).trans (hbr'.mono (by omega))⟩
    · have ht : Hid (r = true) := HR.out.2 (by have := hall.out; rwa [List.take_of_length_le (by omega)] at this)
      clear hall
      go_wp2_with fail
      go_ret
      exact ⟨ret_bool ht.out.symm, ((Below.refl _ _).alloc (Nat.le_refl _) _).trans (hbr.mono (by omega))⟩
end Go.Proofs.YtmcopoonnhcdjaaDoor

namespace Go.Proofs.YtmcopoonnhcdjaaDoor
open Go.RowKit

theorem not_true {r : Bool} {p : Prop} (h : r = true ↔ p) (hn : ¬ p) : r = false := by
  cases r with
  | false => rfl
  | true => exact absurd (h.1 rfl) hn

theorem Good.nodesFine {d : PDoc} (G : Good d) : NodesFine d := ⟨G.toFlat, (G.toFlat.good_spec.1 G).1⟩

set_option maxHeartbeats 1000000 in
set_option maxRecDepth 100000 in
theorem specOK_any (n₀ : Nat) (d : PDoc) (s : Value) (w : World) (hN : NodesAt n₀ w s d.nodes) (hn : n₀ ≤ w.heap.size) (hl : d.nodes.length ≤ 1048576) (hkl : ∀ x ∈ d.nodes, x.kids.length ≤ 1048576) (r : Bool) (hr : r = true ↔ Good d) :
    Calls Tryd.prog 46 #[.agg #[.int .i64 d.root, .int .i64 d.next, s]] w fun e w' => e = .returned (.bool r) ∧ Below w.heap.size w w' := by
  have HKL := hide hkl
  have HR := hide hr
  clear hkl hr
  have hN' := hN
  obtain ⟨a, cap, rfl, -⟩ := hN
  cases hA : inB (d.nodes.length : Int) 1 40 with
  | false =>
    have hf : Hid (r = false) := not_true HR.out (fun G => by have := inB_iff.2 ⟨show (1 : Int) ≤ d.nodes.length by have := G.n1; omega, show (d.nodes.length : Int) ≤ 40 by have := G.n40; omega⟩; rw [hA] at this; cases this)
    go_enter Tryd.func46, Tryd.ntmps46
    go_wp2_with (go_at_call 57; refine (specIn_any _ _ _ _).mono ?_; rintro e w' ⟨rfl, rfl⟩)
    go_ret
    exact ⟨ret_bool hf.out.symm, (Below.refl _ _).alloc (Nat.le_refl _) _⟩
  | true =>
    cases hB : inB d.next 2 999999 with
    | false =>
      have hf : Hid (r = false) := not_true HR.out (fun G => by have := inB_iff.2 ⟨G.nx2, G.nxm⟩; rw [hB] at this; cases this)
      go_enter Tryd.func46, Tryd.ntmps46
      go_wp2_with (go_at_call 57; refine (specIn_any _ _ _ _).mono ?_; rintro e w' ⟨rfl, rfl⟩)
      go_ret
      exact ⟨ret_bool hf.out.symm, (Below.refl _ _).alloc (Nat.le_refl _) _⟩
    | true =>
      have hA' := inB_iff.1 hA
      have hB' := inB_iff.1 hB
      have hW := (Below.refl w.heap.size w).alloc (Nat.le_refl _) (.cells #[.int .i64 d.root, .int .i64 d.next, .slice a d.nodes.length cap] 33)
      obtain ⟨r1, hr1⟩ : ∃ r1 : Bool, r1 = true ↔ NodesFine d := by classical exact ⟨decide (NodesFine d), by simp⟩
      have HNodes : Hid (Calls Tryd.prog 71 #[.agg #[.int .i64 d.root, .int .i64 d.next, .slice a d.nodes.length cap]] (w.alloc (.cells #[.int .i64 d.root, .int .i64 d.next, .slice a d.nodes.length cap] 33)) fun e w' => e = .returned (.bool r1) ∧ Below (w.heap.size + 1) (w.alloc (.cells #[.int .i64 d.root, .int .i64 d.next, .slice a d.nodes.length cap] 33)) w') := by
        have := specNodes_any n₀ d _ (w.alloc (.cells #[.int .i64 d.root, .int .i64 d.next, .slice a d.nodes.length cap] 33)) (by omega) (by omega) hB'.1 hB'.2 (hN'.below (Nat.le_refl _) (hW.mono hn)) (by simp; omega) HKL.out r1 hr1
        unfold Hid; simpa using this
      cases r1 with
      | false =>
        have hf : Hid (r = false) := not_true HR.out (fun G => by have := hr1.2 G.nodesFine; cases this)
        clear hr1 hA' hB'
        go_enter Tryd.func46, Tryd.ntmps46
        go_wp2_with (first | (go_at_call 57; refine (specIn_any _ _ _ _).mono ?_; rintro e w' ⟨rfl, rfl⟩) | (go_at_call 71; refine HNodes.out.mono ?_; rintro e w1 ⟨rfl, hb1⟩))
        go_ret
        exact ⟨ret_bool hf.out.symm, hW.trans (hb1.mono (by omega))⟩
      | true =>
        obtain ⟨F, hlen⟩ := hr1.1 rfl
        obtain ⟨r2, hr2⟩ : ∃ r2 : Bool, r2 = true ↔ ∀ i ∈ idsOf d.nodes, ∃ q, Dep d.nodes d.root q i := by classical exact ⟨decide (∀ i ∈ idsOf d.nodes, ∃ q, Dep d.nodes d.root q i), by simp⟩
        have HReach : Hid (∀ w1, Below (w.heap.size + 1) (w.alloc (.cells #[.int .i64 d.root, .int .i64 d.next, .slice a d.nodes.length cap] 33)) w1 → Calls Tryd.prog 72 #[.agg #[.int .i64 d.root, .int .i64 d.next, .slice a d.nodes.length cap]] w1 fun e w' => e = .returned (.bool r2) ∧ Below (w.heap.size + 1) (w.alloc (.cells #[.int .i64 d.root, .int .i64 d.next, .slice a d.nodes.length cap] 33)) w') := fun w1 hb1 => by
          have hs := hb1.size
          simp only [World.size_alloc] at hs
          exact (specReach_any n₀ d _ w1 F (hN'.below (Nat.le_refl _) ((hW.trans (hb1.mono (by omega))).mono hn)) (by omega) r2 hr2).mono fun e w' ⟨he, hb⟩ => ⟨he, hb1.trans (hb.mono hs)⟩
        have HDeep : Hid (∀ w1, Below (w.heap.size + 1) (w.alloc (.cells #[.int .i64 d.root, .int .i64 d.next, .slice a d.nodes.length cap] 33)) w1 → Calls Tryd.prog 73 #[.agg #[.int .i64 d.root, .int .i64 d.next, .slice a d.nodes.length cap], .int .i64 d.root, .int .i64 6] w1 fun e w' => e = .returned (.int .i64 (deep d.nodes 6 d.root)) ∧ Below (w.heap.size + 1) (w.alloc (.cells #[.int .i64 d.root, .int .i64 d.next, .slice a d.nodes.length cap] 33)) w') := fun w1 hb1 => by
          have hs := hb1.size
          simp only [World.size_alloc] at hs
          exact (specDeep_any n₀ d.root d.next _ d.nodes hl HKL.out F.there 6 d.root 6 w1 (by omega) (rfl : (6 : Int) = ((6 : Nat) : Int)) (hN'.below (Nat.le_refl _) ((hW.trans (hb1.mono (by omega))).mono hn)) (by omega) F.rootIn).mono fun e w' ⟨he, hb⟩ => ⟨he, hb1.trans (hb.mono hs)⟩
        have HG : Hid (r = true ↔ (r2 = true ∧ deep d.nodes 6 d.root ≤ 6)) := by
          refine HR.out.trans (F.good_spec.trans ?_)
          rw [hr2]
          exact ⟨fun h => h.2, fun h => ⟨hlen, h⟩⟩
        generalize deep d.nodes 6 d.root = dp at *
        clear hr1 hr2 F hlen hA' hB' HR
        cases r2 with
        | false =>
          have hf : Hid (r = false) := not_true HG.out (fun h => by cases h.1)
          go_enter Tryd.func46, Tryd.ntmps46
          go_wp2_with (first | (go_at_call 57; refine (specIn_any _ _ _ _).mono ?_; rintro e w' ⟨rfl, rfl⟩) | (go_at_call 71; refine HNodes.out.mono ?_; rintro e w1 ⟨rfl, hb1⟩; obtain ⟨hcx, hfx⟩ := bcell (W := w.alloc _) (by simpa using hb1)) | (go_at_call 72; refine (HReach.out _ hb1).mono ?_; rintro e w2 ⟨rfl, hb2⟩; clear hcx hfx; obtain ⟨hcx, hfx⟩ := bcell (W := w.alloc _) (by simpa using hb2)))
          go_ret
          exact ⟨ret_bool hf.out.symm, hW.trans (hb2.mono (by omega))⟩
        | true =>
          go_enter Tryd.func46, Tryd.ntmps46
          go_wp2_with (first | (go_at_call 57; refine (specIn_any _ _ _ _).mono ?_; rintro e w' ⟨rfl, rfl⟩) | (go_at_call 71; refine HNodes.out.mono ?_; rintro e w1 ⟨rfl, hb1⟩; obtain ⟨hcx, hfx⟩ := bcell (W := w.alloc _) (by simpa using hb1)) | (go_at_call 72; refine (HReach.out _ hb1).mono ?_; rintro e w2 ⟨rfl, hb2⟩; clear hcx hfx; obtain ⟨hcx, hfx⟩ := bcell (W := w.alloc _) (by simpa using hb2)) | (go_at_call 73; refine (HDeep.out _ hb2).mono ?_; rintro e w3 ⟨rfl, hb3⟩))
          go_ret
          refine ⟨ret_bool ?_, hW.trans (hb3.mono (by omega))⟩
          rw [Bool.eq_iff_iff, HG.out]
          simp only [decide_eq_true_eq, true_and]
          omega
end Go.Proofs.YtmcopoonnhcdjaaDoor
