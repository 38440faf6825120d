/-
  Two documents in boxes, and one, as they are read behind calls.
-/
import Derived.Test.YtigkjljknmojhaaDocOKLaw
import Derived.Test.YtigkjljknmojhaaSameDoc
namespace Go.Proofs.Ytigkjljknmojhaa
open Go.RowKit

theorem two_docs {w wc : World} {a0 a1 a2 b0 b1 b2 : Value} {t t' : TypeId} (hb : Below (w.heap.size + 2) ((w.alloc (.cells #[a0, a1, a2] t)).alloc (.cells #[b0, b1, b2] t')) wc) :
    wc.cell? ⟨w.heap.size, 0, none⟩ = some a0 ∧ wc.cell? ⟨w.heap.size, 1, none⟩ = some a1 ∧ wc.cell? ⟨w.heap.size, 2, none⟩ = some a2 ∧ wc.cell? ⟨w.heap.size + 1, 0, none⟩ = some b0 ∧ wc.cell? ⟨w.heap.size + 1, 1, none⟩ = some b1 ∧ wc.cell? ⟨w.heap.size + 1, 2, none⟩ = some b2 := by
  obtain ⟨hcx, -⟩ := bcell (W := (w.alloc (.cells #[a0, a1, a2] t)).alloc (.cells #[b0, b1, b2] t')) (by simpa using hb)
  refine ⟨?_, ?_, ?_, ?_, ?_, ?_⟩
  · rw [hcx _ _ (by simp; omega), World.cell?_alloc_lt _ _ _ (by simp)]; exact cell_of_heap (alloc_new _ _) 0
  · rw [hcx _ _ (by simp; omega), World.cell?_alloc_lt _ _ _ (by simp)]; exact cell_of_heap (alloc_new _ _) 1
  · rw [hcx _ _ (by simp; omega), World.cell?_alloc_lt _ _ _ (by simp)]; exact cell_of_heap (alloc_new _ _) 2
  · rw [hcx _ _ (by simp)]; exact cell_two _ _ _ _ 0
  · rw [hcx _ _ (by simp)]; exact cell_two _ _ _ _ 1
  · rw [hcx _ _ (by simp)]; exact cell_two _ _ _ _ 2

theorem box_doc {w wc : World} {a0 a1 a2 : Value} {t : TypeId} (hb : Below (w.heap.size + 1) (w.alloc (.cells #[a0, a1, a2] t)) wc) :
    wc.cell? ⟨w.heap.size, 0, none⟩ = some a0 ∧ wc.cell? ⟨w.heap.size, 1, none⟩ = some a1 ∧ wc.cell? ⟨w.heap.size, 2, none⟩ = some a2 := by
  obtain ⟨hcx, -⟩ := bcell (W := w.alloc (.cells #[a0, a1, a2] t)) (by simpa using hb)
  refine ⟨?_, ?_, ?_⟩
  · rw [hcx _ _ (by simp)]; exact cell_of_heap (alloc_new _ _) 0
  · rw [hcx _ _ (by simp)]; exact cell_of_heap (alloc_new _ _) 1
  · rw [hcx _ _ (by simp)]; exact cell_of_heap (alloc_new _ _) 2

/-- Two blocks hold the two. -/
structure TwoIn (W : World) (n : Nat) (a0 a1 a2 b0 b1 b2 : Value) : Prop where
  x0 : W.cell? ⟨n, 0, none⟩ = some a0
  x1 : W.cell? ⟨n, 1, none⟩ = some a1
  x2 : W.cell? ⟨n, 2, none⟩ = some a2
  y0 : W.cell? ⟨n + 1, 0, none⟩ = some b0
  y1 : W.cell? ⟨n + 1, 1, none⟩ = some b1
  y2 : W.cell? ⟨n + 1, 2, none⟩ = some b2
  lt : n + 1 < W.heap.size

theorem TwoIn.at {W wc : World} {n : Nat} {a0 a1 a2 b0 b1 b2 : Value} (h : TwoIn W n a0 a1 a2 b0 b1 b2) (hb : Below W.heap.size W wc) :
    wc.cell? ⟨n, 0, none⟩ = some a0 ∧ wc.cell? ⟨n, 1, none⟩ = some a1 ∧ wc.cell? ⟨n, 2, none⟩ = some a2 ∧ wc.cell? ⟨n + 1, 0, none⟩ = some b0 ∧ wc.cell? ⟨n + 1, 1, none⟩ = some b1 ∧ wc.cell? ⟨n + 1, 2, none⟩ = some b2 := by
  have := h.lt
  exact ⟨(hb.cell (p := ⟨n, 0, none⟩) (show n < _ by omega)).trans h.x0, (hb.cell (p := ⟨n, 1, none⟩) (show n < _ by omega)).trans h.x1, (hb.cell (p := ⟨n, 2, none⟩) (show n < _ by omega)).trans h.x2, (hb.cell (p := ⟨n + 1, 0, none⟩) this).trans h.y0, (hb.cell (p := ⟨n + 1, 1, none⟩) this).trans h.y1, (hb.cell (p := ⟨n + 1, 2, none⟩) this).trans h.y2⟩

theorem twoIn_new (w : World) (a0 a1 a2 b0 b1 b2 : Value) (t t' : TypeId) : TwoIn ((w.alloc (.cells #[a0, a1, a2] t)).alloc (.cells #[b0, b1, b2] t')) w.heap.size a0 a1 a2 b0 b1 b2 := by
  obtain ⟨h1, h2, h3, h4, h5, h6⟩ := two_docs (Below.refl (w.heap.size + 2) ((w.alloc (.cells #[a0, a1, a2] t)).alloc (.cells #[b0, b1, b2] t')))
  exact ⟨h1, h2, h3, h4, h5, h6, by simp⟩
end Go.Proofs.Ytigkjljknmojhaa
