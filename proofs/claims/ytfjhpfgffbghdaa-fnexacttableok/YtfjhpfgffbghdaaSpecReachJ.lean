/-
  That all nodes hang on the root, as the specification asks it: going up by the parents.
-/
import Derived.Test.YtfjhpfgffbghdaaJoinB
import Derived.Deep.DeepCutAuto
namespace Go.Proofs.Ytfjhpfgffbghdaa
open Go.RowKit

theorem parentOf_up {l : List PNode} (hr : (idsOf l).Pairwise (· < ·)) {i : Int} (h : i ∈ allKids l) : i ∈ kidsAt l (parentOf l i) := by
  have key : ∃ x ∈ l, parentOf l i = x.id ∧ i ∈ x.kids := by
    clear hr
    induction l with
    | nil => simp [allKids] at h
    | cons x l ih =>
      by_cases hx : hasB x.kids i = true
      · exact ⟨x, by simp, by simp [parentOf, hx], hasB_iff.1 hx⟩
      · have hi : i ∈ allKids l := by
          have : i ∈ x.kids ∨ i ∈ allKids l := by simpa [allKids] using h
          exact this.resolve_left (fun e => hx (hasB_iff.2 e))
        obtain ⟨y, hy, h1, h2⟩ := ih hi
        exact ⟨y, by simp [hy], by simp only [parentOf]; rw [if_neg hx, h1], h2⟩
  obtain ⟨x, hx, h1, h2⟩ := key
  rw [h1, kidsAt_of hr hx]; exact h2

theorem parentOf_none {l : List PNode} {i : Int} (h : i ∉ allKids l) : parentOf l i = 0 := by
  have := @parentOf_skip l l.length i (fun x hx => by
    rw [List.take_length] at hx
    exact hasB_no.2 (fun e => h (List.mem_flatMap.2 ⟨x, hx, e⟩)))
  rw [this]; simp [parentOf]

/-- Going up from i0, so many steps have led to cur. -/
def Climb (l : List PNode) (root i0 cur : Int) (s : Nat) : Prop :=
  (∀ q, Dep l root q cur → Dep l root (q + s) i0) ∧ (∀ q, Dep l root q i0 → s ≤ q ∧ Dep l root (q - s) cur)

theorem climb_start (l : List PNode) (root i0 : Int) : Climb l root i0 i0 0 := ⟨fun _ h => h, fun _ h => ⟨Nat.zero_le _, h⟩⟩

section
variable {d : PDoc} {i0 cur : Int} {s : Nat}

theorem Flat.ids_pos (F : Flat d) {i : Int} (h : i ∈ idsOf d.nodes) : 1 ≤ i ∧ i ≤ d.next - 1 := by
  obtain ⟨x, hx, rfl⟩ := List.mem_map.1 h
  exact ⟨(F.fine x hx).1, (F.fine x hx).2.1⟩

theorem climb_step (F : Flat d) (h : Climb d.nodes d.root i0 cur s) (hne : cur ≠ d.root) : Climb d.nodes d.root i0 (parentOf d.nodes cur) (s + 1) := by
  obtain ⟨hA, hB⟩ := h
  constructor
  · intro q hq
    by_cases hk : cur ∈ allKids d.nodes
    · have := hA (q + 1) ⟨_, hq, parentOf_up F.rise hk⟩
      rwa [show q + (s + 1) = q + 1 + s by omega]
    · rw [parentOf_none hk] at hq
      have := (F.ids_pos (dep_in F.there F.rootIn hq)).1
      omega
  · intro q hq
    obtain ⟨h1, h2⟩ := hB q hq
    obtain ⟨m, hm⟩ : ∃ m, q - s = m + 1 := by
      cases hqs : q - s with
      | zero => rw [hqs] at h2; exact absurd h2 hne
      | succ m => exact ⟨m, rfl⟩
    rw [hm] at h2
    obtain ⟨k, hk, hc⟩ := h2
    have := one_parent F.once hc (parentOf_up F.rise (kidsAt_all hc))
    subst this
    exact ⟨by omega, by rwa [show q - (s + 1) = m by omega]⟩

theorem climb_hit (h : Climb d.nodes d.root i0 cur s) (he : cur = d.root) : ∃ q, Dep d.nodes d.root q i0 := ⟨_, h.1 0 he⟩

theorem climb_miss (F : Flat d) (h : Climb d.nodes d.root i0 cur s) (hne : cur ≤ 0 ∨ d.nodes.length < s) : ¬ ∃ q, Dep d.nodes d.root q i0 := by
  rintro ⟨q, hq⟩
  obtain ⟨h1, h2⟩ := h.2 q hq
  have h3 := (F.ids_pos (dep_in F.there F.rootIn h2)).1
  have h4 := low_desc F.low (dep_iff.1 hq)
  omega

theorem reach_snoc {l : List PNode} {k : Nat} (hk : k < l.length) {p : Int → Prop} (h : ∀ i ∈ idsOf (l.take k), p i) (h1 : p (l[k]?.getD nodeNil).id) : ∀ i ∈ idsOf (l.take (k + 1)), p i := by
  rw [ids_snoc hk]; intro i hi
  rcases List.mem_append.1 hi with hi | hi
  · exact h i hi
  · simp only [List.mem_singleton] at hi; rw [hi]; exact h1
end

set_option maxHeartbeats 1000000 in
set_option maxRecDepth 100000 in
theorem specReach_any (n₀ : Nat) (d : PDoc) (s : Value) (w : World) (F : Flat d) (hN : NodesAt n₀ w s d.nodes) (hn : n₀ ≤ w.heap.size) (r : Bool) (hr : r = true ↔ ∀ i ∈ idsOf d.nodes, ∃ q, Dep d.nodes d.root q i) :
    Calls Try.prog 57 #[.agg #[.int .i64 d.root, .int .i64 d.next, s]] w fun e w' => e = .returned (.bool r) ∧ Below w.heap.size w w' := by
  have hl := F.n40
  have hkl : Hid (∀ x ∈ d.nodes, x.kids.length ≤ 1048576) := fun x hx => by have := (F.fine x hx).2.2.2.2.2.2.2; omega
  have hl1 : Hid (d.nodes ≠ []) := by have := F.n1; intro e; rw [e] at this; simp at this
  have HStep : Hid (∀ i0 cur s, Climb d.nodes d.root i0 cur s → cur ≠ d.root → Climb d.nodes d.root i0 (parentOf d.nodes cur) (s + 1)) := fun _ _ _ h hne => climb_step F h hne
  have HMiss : Hid (∀ i0 cur s, Climb d.nodes d.root i0 cur s → (cur ≤ 0 ∨ d.nodes.length < s) → ¬ ∃ q, Dep d.nodes d.root q i0) := fun _ _ _ h hne => climb_miss F h hne
  have HHit : Hid (∀ i0 cur s, Climb d.nodes d.root i0 cur s → cur = d.root → ∃ q, Dep d.nodes d.root q i0) := fun _ _ _ h hne => climb_hit h hne
  have HR := hide hr
  clear F hr
  generalize d.root = rt at *
  generalize d.nodes = l at *
  generalize d.next = nx at *
  have hN' := hN
  obtain ⟨a, cap, rfl, hk'⟩ := hN
  obtain ⟨b, off, rfl, hb, hc⟩ := hk'.resolve_left hl1.out
  have hbw : b < w.heap.size := by omega
  clear hk'
  have HCs := hide hc
  clear hc
  go_enter Try.func57, Try.ntmps57
  go_wp2_with fail
  go_loopw [3] (fun i' wr => ∃ k : Nat, k ≤ l.length ∧ i' = .int .i64 k ∧ Hid (∀ i ∈ idsOf (l.take k), ∃ q, Dep l rt q i) ∧ Below (w.heap.size + 1) (w.alloc (.cells #[.int .i64 rt, .int .i64 nx, .slice (some ⟨b, off, none⟩) l.length cap] 31)) wr) (fun i' _ => l.length - (intOf i').toNat)
  case atStart => exact ⟨0, Nat.zero_le _, rfl, by simp [Hid, idsOf], Below.refl _ _⟩
  case round =>
    obtain ⟨k, hkl', rfl, hall, hbr⟩ := hrel
    obtain ⟨hcx, hfx⟩ := bcell (W := w.alloc _) (by simpa using hbr)
    have hsz := hbr.size
    simp only [World.size_alloc] at hsz
    by_cases hlt : k < l.length
    · have hck := (HCs.out k hlt).c0
      have HS := hide (@reach_snoc l k hlt (fun i => ∃ q, Dep l rt q i) hall.out)
      have HI : Hid ((l[k]?.getD nodeNil).id ∈ idsOf l) := by simp [Hid, hlt, idsOf]; exact ⟨_, List.getElem_mem hlt, rfl⟩
      generalize (l[k]?.getD nodeNil).id = i0 at *
      go_wp2_with fail
      go_loopw [4, 5] (fun cv sv wr' => ∃ (cur : Int) (st : Nat), cv = .int .i64 cur ∧ sv = .int .i64 st ∧ st ≤ l.length + 1 ∧ Hid (Climb l rt i0 cur st) ∧ Below (w.heap.size + 1) (w.alloc (.cells #[.int .i64 rt, .int .i64 nx, .slice (some ⟨b, off, none⟩) l.length cap] 31)) wr') (fun _ sv _ => l.length + 1 - (intOf sv).toNat)
      case atStart => exact ⟨i0, 0, rfl, rfl, by omega, climb_start _ _ _, hbr⟩
      case round =>
        obtain ⟨cur, st, rfl, rfl, hst, hcl, hbr'⟩ := hrel
        clear hcx hfx hsz hck
        obtain ⟨hcx, hfx⟩ := bcell (W := w.alloc _) (by simpa using hbr')
        have hsz := hbr'.size
        simp only [World.size_alloc] at hsz
        go_wp2_with (go_at_call 81; refine (specParent_any n₀ rt nx _ l cur _ (hN'.below (Nat.le_refl _) (((Below.refl _ _).alloc hn _).trans (hbr'.mono (by omega)))) (by omega) (by omega) hkl.out).mono ?_; rintro e w1 ⟨rfl, hb1⟩)
        · exact ⟨⟨k + 1, by omega, by go_num, HS.out (HHit.out _ _ _ hcl.out (by assumption)), hbr'⟩, by simp [intOf]; omega⟩
        · exact ⟨⟨_, st + 1, rfl, by go_num, by omega, HStep.out _ _ _ hcl.out (by assumption), hbr'.trans (hb1.mono hsz)⟩, by simp [intOf]; omega⟩
        all_goals
          have hno := HMiss.out _ _ _ hcl.out (by first | (left; omega) | (right; simp_all))
          have hf : r = false := by
            cases hrr : r with
            | false => rfl
            | true => exact absurd (HR.out.1 hrr _ HI.out) hno
          go_ret
          exact ⟨ret_bool hf.symm, ((Below.refl _ _).alloc (Nat.le_refl _) _).trans (hbr'.mono (by omega))⟩
    · have ht : Hid (r = true) := HR.out.2 (by have := hall.out; rwa [List.take_of_length_le (by omega)] at this)
      clear hall
      go_wp2_with fail
      go_ret
      exact ⟨ret_bool ht.out.symm, ((Below.refl _ _).alloc (Nat.le_refl _) _).trans (hbr.mono (by omega))⟩
end Go.Proofs.Ytfjhpfgffbghdaa
