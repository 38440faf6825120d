/-
  Where the program's find finds a node of a tree in memory.
-/
import Derived.Test.YtfjhpfgffbghdaaGreatDoorImplTreeJ
import Derived.RegionIn
import Derived.Sort.QuietIn
namespace Go.Proofs.YtfjhpfgffbghdaaGreatDoor
open Go.RowKit Go.Shelf

attribute [local go_sem] Oper.semAt_some

theorem int_ne' {a b : Int} (h : a ≠ b) : (a == b) = false := by simp [h]

set_option maxRecDepth 100000 in
set_option maxHeartbeats 2000000 in
theorem find_any (l : List PNode) (ad : Int → Nat) (up : Int → Option Int) (Wk : Walkable l) (n₁ h : Nat) (i : Int) (hi : i ∈ idsOf l) (hlow : Low l h i) (id : Int) (w : World) (hn₁ : n₁ ≤ w.heap.size) (hT : TreeAt n₁ w l ad up) (r : Option Addr) (hr : r = if id ∈ order l h i then some ⟨ad id, 0, none⟩ else none) :
    Calls Tryz.prog 90 #[.pointer (some ⟨ad i, 0, none⟩), .int .i64 id] w fun e W' => e = .returned (.pointer r) ∧ Below w.heap.size w W' := by
  have HR := hide hr
  clear hr
  refine (callsIn_wide (n := 3)).1 ?_
  refine callsIn_of_wp_marks Tryz.func90 rfl trivial ?_ wideRound
  simp only [Tryz.ntmps90, List.size_toArray, List.length_cons, List.length_nil, Nat.reduceAdd, Nat.reduceSub, Array.replicate_succ, Array.replicate_zero, List.push_toArray, List.append_toArray, List.nil_append, List.cons_append]
  gi_wp2_with (refine ⟨trivial, ?_⟩; gi_at_call 113; refine (inOrder_in _ _ _).mono ?_; rintro e w' ⟨rfl, rfl⟩)
  have c0 := new_cell w (.int .i64 id) 3
  have c1 := new_cell (w.alloc (.cells #[.int .i64 id] 3)) (.pointer none) 93
  have c2 := new_cell ((w.alloc (.cells #[.int .i64 id] 3)).alloc (.cells #[.pointer none] 93)) (.pointer (some ⟨ad i, 0, none⟩)) 93
  simp only [World.size_alloc] at c1 c2
  have hB0 : Below w.heap.size w (((w.alloc (.cells #[.int .i64 id] 3)).alloc (.cells #[.pointer none] 93)).alloc (.cells #[.pointer (some ⟨ad i, 0, none⟩)] 93)) := (((Below.refl _ w).alloc (Nat.le_refl _) _).alloc (by simp) _).alloc (by simp; omega) _
  refine wpIn_rangeFunc_ownF (α := IdOf l) wideRound (by omega) (gf := 135) (lb := #[.pointer (some ⟨w.heap.size + 1 + 1, 0, none⟩)]) rfl trivial (enters_of Tryz.func135 (by kernel_rfl) rfl)
    (inOrder_stops l ad up Wk _ (w.heap.size + 1 + 1) n₁ h i hi hlow _ (by simp) (by simp; omega) c2.1 (hT.below (Nat.le_refl _) (hB0.mono hn₁))) belowK_t (belowK_b (by simp; omega)) (Below.refl _ _) (fun _ => rfl)
    (fun pre W => ((∀ y ∈ vals pre, y ≠ id) ∧ W.cell? ⟨w.heap.size, 0, none⟩ = some (.int .i64 id) ∧ W.cell? ⟨w.heap.size + 1, 0, none⟩ = some (.pointer none) ∧ W.frozen? ⟨w.heap.size + 1, 0, none⟩ = false) ∧ Below w.heap.size w W)
    (fun c pre W => (c = .ret ∧ id ∈ vals pre ∧ W.cell? ⟨w.heap.size + 1, 0, none⟩ = some (.pointer (some ⟨ad id, 0, none⟩))) ∧ Below w.heap.size w W)
    (OwnFrom.and (Own.from (fun s A B row hs hg hr => ⟨hs.1, cell_kept hs.2.1 hg hr, cell_kept hs.2.2.1 hg hr, (frozen_kept hs.2.2.1 hg hr).trans hs.2.2.2⟩) _) (ownFrom_below (Nat.le_refl _) (by simp; omega)))
    (fun c => OwnFrom.and (Own.from (fun s A B row hs hg hr => ⟨hs.1, hs.2.1, cell_kept hs.2.2 hg hr⟩) _) (ownFrom_below (Nat.le_refl _) (by simp; omega)))
    ⟨⟨by simp [vals], old_cell _ (old_cell _ c0.1), old_cell _ c1.1, old_frozen _ c1.1 c1.2⟩, hB0⟩
    (fun x => { tmps := #[.pointer (some ⟨ad i, 0, none⟩), .int .i64 id, undef, .pointer (some ⟨w.heap.size, 0, none⟩), .pointer (some ⟨w.heap.size + 1, 0, none⟩), .pointer (some ⟨ad x.1, 0, none⟩), .pointer (some ⟨ad i, 0, none⟩), .func (.func 135) #[] #[.pointer (some ⟨w.heap.size + 1 + 1, 0, none⟩)], .pointer (some ⟨ad x.1, 0, none⟩), undef, undef, undef, undef, undef, undef, undef], defers := [] }) ?assign ?body ?done ?stop
  case assign =>
    intro lr x W K hK
    gi_wp2
    simpa using hK
  case body =>
    rintro lr pre x W ⟨⟨hp, hcw, hcr, hfr⟩, hB⟩ _
    obtain ⟨y, hy, hyx⟩ := node_of x.2
    have hBy := hT y hy
    have hlt := hBy.lt
    have hx0 := (hB.cell (p := ⟨ad y.id, 0, none⟩) (by have := hBy.lt; show ad y.id < _; omega)).trans hBy.c0
    rw [hyx] at hx0 hlt
    clear hT hBy
    have HP := hide hp
    clear hp
    by_cases hxi : x.1 = id
    · have heq : (x.1 == id) = true := by simp [hxi]
      have HXI := hide hxi
      clear hxi
      gi_wp2_with fail
      gi_region
      all_goals
        gi_wp2_with fail
      all_goals
        exact ⟨(KeepsOthers.drew _).trans (KeepsOthers.setCell _ _ _), ⟨rfl, by rw [vals_append]; exact List.mem_append.2 (.inr (by simp [vals, HXI.out])), by have := World.cell?_setCell_same' W ⟨w.heap.size + 1, 0, none⟩ (.pointer (some ⟨ad x.1, 0, none⟩)) (by rw [hcr]; rfl); rw [HXI.out] at this ⊢; simpa using this⟩, hB.drew.setCell (p := ⟨w.heap.size + 1, 0, none⟩) (by simp) _⟩
    · have hne := (int_ne' hxi)
      gi_wp2_with fail
      gi_region
      all_goals
        gi_wp2_with fail
      all_goals
        exact ⟨KeepsOthers.drew _, (Below.refl _ _).drew, ⟨fun y hy => by
          rw [vals_append] at hy
          exact (List.mem_append.1 hy).elim (HP.out y) (fun e => by simp [vals] at e; rw [e]; exact hxi), by simpa using hcw, by simpa using hcr, by simpa using hfr⟩, hB.drew⟩
  case done =>
    rintro D ys W hD hys ⟨⟨hne, _, hcr, hfr⟩, hB⟩ hK
    gi_wp2
    have hK' := (KeepsOthers.setCell W ⟨w.heap.size + 1, 0, none⟩ (.pointer none)).same D _ hK rfl
    refine ⟨by simp, .inl ⟨_, _, rfl, run_takeDeferred hK', ?_⟩⟩
    have hc5 := cell_kept (World.cell?_setCell_same' W ⟨w.heap.size + 1, 0, none⟩ (.pointer none) (by rw [hcr]; rfl)) (grownBy_putObj' _ D (.deferred none)) (fun r e => by cases e; exact ⟨_, hK', rfl⟩)
    refine ⟨.pointer none, ?_, by rw [HR.out, if_neg (fun hm => hne id (by rw [hys]; exact hm) rfl)], (hB.setCell (p := ⟨w.heap.size + 1, 0, none⟩) (by simp) _).trans (belowK_b (w := w) (Nat.le_refl _) _ D _ _ (by simp at hD; omega) hK' rfl rfl)⟩
    simp [results, Tryz.results90, go_sem, hc5]
  case stop =>
    rintro D c pre W hD hpre ⟨⟨rfl, hin, hcr⟩, hB⟩ hK
    gi_wp2
    refine ⟨by simp, .inl ⟨_, _, rfl, run_takeDeferred hK, ?_⟩⟩
    have hc5 := cell_kept hcr (grownBy_putObj' _ D (.deferred none)) (fun r e => by cases e; exact ⟨_, hK, rfl⟩)
    refine ⟨.pointer (some ⟨ad id, 0, none⟩), ?_, by rw [HR.out, if_pos (hpre.subset hin)], hB.trans (belowK_b (w := w) (Nat.le_refl _) W D _ _ (by simp at hD; omega) hK rfl rfl)⟩
    simp [results, Tryz.results90, go_sem, hc5]
end Go.Proofs.YtfjhpfgffbghdaaGreatDoor
