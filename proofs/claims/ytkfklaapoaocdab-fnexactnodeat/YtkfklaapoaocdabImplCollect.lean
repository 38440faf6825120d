/-
  The nodes of a tree in memory, collected in their order: what slices.Collect answers over inOrder.
-/
import Derived.Test.YtkfklaapoaocdabImplIds
import Derived.Test.YtkfklaapoaocdabImplCount
import Derived.RangeFuncBox
namespace Go.Proofs.Ytkfklaapoaocdab
open Go.RowKit Go.Shelf

attribute [local go_sem] Oper.semAt_some

theorem infoPtr : (Try.prog.info? 54).map (fun i => (i.zero, i.size, i.bytes)) = some (some (.pointer none), 1, 8) := by kernel_rfl
theorem one_ptr (p : Option Addr) : ∀ u ∈ [Value.pointer p], u.oneCell' = true := by
  intro u hu; simp at hu; subst hu; rfl

def ptrs {l : List PNode} (ad : Int → Nat) (ys : List (IdOf l)) : List Value := ys.map fun j => Value.pointer (some ⟨ad j.1, 0, none⟩)

set_option maxRecDepth 100000 in
set_option maxHeartbeats 2000000 in
theorem appendSeq_any (l : List PNode) (ad : Int → Nat) (up : Int → Option Int) (Wk : Walkable l) (n₁ h Bt : Nat) (i : Int) (hi : i ∈ idsOf l) (hlow : Low l h i) (hlen : (order l h i).length ≤ 1048576) (w : World) (hn₁ : n₁ ≤ w.heap.size) (hBt : Bt < w.heap.size)
    (hc : w.cell? ⟨Bt, 0, none⟩ = some (.pointer (some ⟨ad i, 0, none⟩))) (hT : TreeAt n₁ w l ad up) :
    Calls Try.prog 56 #[.slice none 0 0, .func (.func 57) #[] #[.pointer (some ⟨Bt, 0, none⟩)]] w fun e W' =>
      ∃ v, e = .returned v ∧ W'.ownsRow w.heap.size 54 1 v (order l h i).length ((order l h i).map fun j => Value.pointer (some ⟨ad j, 0, none⟩)) ∧ Below w.heap.size w W' := by
  obtain ⟨i0, hinf, hz0, hz1, hz2⟩ := info_parts infoPtr
  refine (callsIn_wide (n := 3)).1 ?_
  refine callsIn_of_wp_marks Try.func56 rfl trivial ?_ wideRound
  simp only [Try.ntmps56, List.size_toArray, List.length_cons, List.length_nil, Nat.reduceAdd, Nat.reduceSub, Array.replicate_succ, Array.replicate_zero, List.push_toArray, List.append_toArray, List.nil_append, List.cons_append]
  gi_wp2_with fail
  have bO := Boxed.new w 62 (.slice none 0 0)
  have hB0 : Below w.heap.size w (w.alloc (.cells #[.slice none 0 0] 62)) := (Below.refl _ w).alloc (Nat.le_refl _) _
  refine wpIn_rangeFunc_ownF (α := IdOf l) wideRound (by omega) (gf := 57) (lb := #[.pointer (some ⟨Bt, 0, none⟩)]) rfl trivial (enters_of Try.func57 (by kernel_rfl) rfl)
    (inOrder_stops l ad up Wk _ Bt n₁ h i hi hlow _ (by simp; omega) (by simp; omega) ((hB0.cell (p := ⟨Bt, 0, none⟩) hBt).trans hc) (hT.below (Nat.le_refl _) (hB0.mono hn₁))) belowK_t (belowK_b (by simp; omega)) (Below.refl _ _) (fun _ => rfl)
    (fun pre W => (∃ v, Boxed W w.heap.size 62 v ∧ W.ownsRow w.heap.size 54 1 v pre.length (ptrs ad pre) ∧ True) ∧ Below w.heap.size w W)
    (fun _ _ _ => False)
    (OwnFrom.and (Own.from (holdsRow_own w.heap.size w.heap.size 62 54 1 (fun pre => pre.length) (fun pre => ptrs ad pre) (fun _ _ => True)) _) (ownFrom_below (Nat.le_refl _) (by simp)))
    (fun _ _ _ _ _ hs _ _ => hs)
    ⟨⟨_, bO, World.ownsRow_nil _ _ _ _, trivial⟩, hB0⟩
    (fun x => { tmps := #[.slice none 0 0, .func (.func 57) #[] #[.pointer (some ⟨Bt, 0, none⟩)], .pointer (some ⟨w.heap.size, 0, none⟩), undef, .slice none 0 0, .pointer (some ⟨ad x.1, 0, none⟩), .func (.func 57) #[] #[.pointer (some ⟨Bt, 0, none⟩)], .pointer (some ⟨ad x.1, 0, none⟩), undef, undef, undef, undef, undef], defers := [] }) ?assign ?body ?done ?stop
  case assign =>
    intro lr x W K hK
    gi_wp2
    simpa using hK
  case body =>
    rintro lr pre x W ⟨⟨v, hv, hrow, -⟩, hB⟩ hlt
    have hc := hv.cell
    gi_wp2_with (gi_at_builtin; refine wpListIn_append_own _ rfl _ _ 62 rfl w.heap.size 54 i0 (.pointer none) 1 8 Try.underlying62 hinf hz0 hz1 hz2 rfl (by decide) _ _ _ rfl (hrow.alloc _) ⟨W.heap.size, 0, none⟩ 1 1 [.pointer (some ⟨ad x.1, 0, none⟩)] rfl rfl (cell_one_new _ _ _) (one_ptr _) (by unfold maxLen; omega) (by omega) (by have := hB.size; simp; omega) ?_; intro v' w1 hown' hgrow _; obtain ⟨g', cap', rfl⟩ := ownsRow_succ hown'; obtain ⟨hv1, hv2, hr2, hk2, hb2⟩ := hv.appended (by decide) hrow hB.size (Nat.le_refl _) hown' hgrow; have hc1 := hv1.cell; have hf1 := hv1.frozen)
    exact ⟨hk2, hb2.mono hn₁, ⟨_, hv2, by simpa [ptrs] using hr2, trivial⟩, hB.trans hb2⟩
  case done =>
    rintro D ys W hD hys ⟨⟨v, hv, hrow, -⟩, hB⟩ hK
    have hc := hv.cell
    have hl : ys.length = (order l h i).length := by rw [← hys, vals_len]
    have he : ptrs ad ys = (order l h i).map fun j => Value.pointer (some ⟨ad j, 0, none⟩) := by rw [← hys]; simp [ptrs, vals]
    rw [hl, he] at hrow
    gi_wp2
    refine ⟨by simp, .inl ⟨_, _, rfl, run_takeDeferred hK, ?_⟩⟩
    exact ⟨_, results_tmp rfl _ _ _, v, rfl, ownsRow_putObj hrow _ hK rfl, hB.trans (belowK_b (w := w) (Nat.le_refl _) W D _ _ (by simp at hD; omega) hK rfl rfl)⟩
  case stop =>
    rintro D c pre W _ _ h _
    exact h.elim
end Go.Proofs.Ytkfklaapoaocdab
