/-
  A new document: the specification's answer and the program's.
-/
import Derived.Test.YtigkjljknmojhaaNewDoc
namespace Go.Proofs.Ytigkjljknmojhaa
open Go.RowKit

/-- The program's new document, and the block of its one node. -/
def NewPost (w : World) (kind : Int) (e : Ending) (w' : World) : Prop :=
  ∃ b, e = .returned (.tuple #[.agg #[.int .i64 1, .int .i64 2, .slice (some ⟨b, 0, none⟩) 1 1], .int .i64 0]) ∧ w'.heap[b]? = some (.cells #[.int .i64 1, .int .i64 kind, .int .i64 0, .string ⟨#[]⟩, .slice none 0 0] 39 (0, 0)) ∧ w.heap.size ≤ b ∧ Below w.heap.size w w'

/-- The specification's. -/
def SpecNewPost (w : World) (d : PDoc) (c : Int) (e : Ending) (w' : World) : Prop :=
  ∃ a cap, e = .returned (.tuple #[.agg #[.int .i64 d.root, .int .i64 d.next, .slice a d.nodes.length cap], .int .i64 c]) ∧ DocAt w'.heap.size w' (.agg #[.int .i64 d.root, .int .i64 d.next, .slice a d.nodes.length cap]) d ∧ Below w.heap.size w w'

theorem newDoc_at {n : Nat} {w : World} {b : Nat} {kind : Int} {ka : Option Addr} {kc : Nat} {t : TypeId} (hn : b < n) (hh : w.heap[b]? = some (.cells #[.int .i64 1, .int .i64 kind, .int .i64 0, .string ⟨#[]⟩, .slice ka 0 kc] t (0, 0))) : NodesAt n w (.slice (some ⟨b, 0, none⟩) 1 1) (newPlain kind).nodes := by
  refine ⟨_, 1, rfl, .inr ⟨b, 0, rfl, hn, fun j hj => ?_⟩⟩
  have hj0 : j = 0 := by simp [newPlain] at hj; omega
  subst hj0
  exact ⟨cell_of_heap hh 0, cell_of_heap hh 1, cell_of_heap hh 2, cell_of_heap hh 3, _, cell_of_heap hh 4, _, _, rfl, .inl rfl⟩

set_option maxHeartbeats 1000000 in
set_option maxRecDepth 100000 in
theorem implNewDoc_ok (kind : Int) (w : World) (hk : inB kind 1 8 = true) : Calls Try.prog 13 #[.int .i64 kind] w (NewPost w kind) := by
  go_enter Try.func13, Try.ntmps13
  go_wp2_with (go_at_call 44; refine (between_any _ _ _ _).mono ?_; rintro e w' ⟨rfl, rfl⟩)
  have hh := alloc_new (w.alloc (.cells #[.int .i64 1, .int .i64 2, .slice (some ⟨w.heap.size + 1, 0, none⟩) 1 1] 24)) (.cells #[.int .i64 1, .int .i64 kind, .int .i64 0, .string ⟨#[]⟩, .slice none 0 0] 39)
  rw [World.size_alloc] at hh
  refine bodyPost_ret (v := .tuple #[.agg #[.int .i64 1, .int .i64 2, .slice (some ⟨w.heap.size + 1, 0, none⟩) 1 1], .int .i64 0]) (by simp [results, Try.results13, go_sem]) rfl ⟨w.heap.size + 1, rfl, hh, by omega, ?_⟩
  exact ((Below.refl _ _).alloc (Nat.le_refl _) _).alloc (by simp) _

set_option maxHeartbeats 1000000 in
set_option maxRecDepth 100000 in
theorem implNewDoc_no (kind : Int) (w : World) (hk : inB kind 1 8 = false) : Calls Try.prog 13 #[.int .i64 kind] w fun e w' => e = .returned (.tuple #[.agg #[.int .i64 0, .int .i64 0, .slice none 0 0], .int .i64 10]) ∧ Below w.heap.size w w' := by
  go_enter Try.func13, Try.ntmps13
  go_wp2_with (go_at_call 44; refine (between_any _ _ _ _).mono ?_; rintro e w' ⟨rfl, rfl⟩)
  exact bodyPost_ret (v := .tuple #[.agg #[.int .i64 0, .int .i64 0, .slice none 0 0], .int .i64 10]) (by simp [results, Try.results13, go_sem]) rfl ⟨rfl, (Below.refl _ _).alloc (Nat.le_refl _) _⟩

set_option maxHeartbeats 1000000 in
set_option maxRecDepth 100000 in
theorem specNewDoc_no (kind : Int) (w : World) (hk : inB kind 1 8 = false) : Calls Try.prog 12 #[.int .i64 kind] w (SpecNewPost w noPlain 10) := by
  go_enter Try.func12, Try.ntmps12
  go_wp2_with (go_at_call 42; refine (specKind_any _ _).mono ?_; rintro e w' ⟨rfl, rfl⟩)
  exact bodyPost_ret (v := .tuple #[.agg #[.int .i64 0, .int .i64 0, .slice none 0 0], .int .i64 10]) (by simp [results, Try.results12, go_sem]) rfl ⟨none, 0, rfl, ⟨_, rfl, _, _, rfl, .inl rfl⟩, (Below.refl _ _).alloc (Nat.le_refl _) _⟩

def NewInner (w : World) (kind : Int) (e : Ending) (w' : World) : Prop :=
  ∃ b ka kc, e = .returned (.agg #[.int .i64 1, .int .i64 2, .slice (some ⟨b, 0, none⟩) 1 1]) ∧ w'.heap[b]? = some (.cells #[.int .i64 1, .int .i64 kind, .int .i64 0, .string ⟨#[]⟩, .slice ka 0 kc] 39 (0, 0)) ∧ w.heap.size ≤ b ∧ Below w.heap.size w w'

set_option maxHeartbeats 1000000 in
set_option maxRecDepth 100000 in
theorem specNew_any (kind : Int) (w : World) : Calls Try.prog 43 #[.int .i64 kind] w (NewInner w kind) := by
  go_enter Try.func43, Try.ntmps43
  go_wp2_with fail
  have hh := alloc_new ((w.alloc (.cells #[.int .i64 1, .int .i64 2, .slice (some ⟨w.heap.size + 1 + 1, 0, none⟩) 1 1] 24)).alloc (.cells #[] 3)) (.cells #[.int .i64 1, .int .i64 kind, .int .i64 0, .string ⟨#[]⟩, .slice (some ⟨w.heap.size + 1, 0, none⟩) 0 0] 39)
  simp only [World.size_alloc] at hh
  refine bodyPost_ret (v := .agg #[.int .i64 1, .int .i64 2, .slice (some ⟨w.heap.size + 1 + 1, 0, none⟩) 1 1]) (by simp [results, Try.results43, go_sem]) rfl ⟨w.heap.size + 1 + 1, _, _, rfl, hh, by omega, ?_⟩
  exact (((Below.refl _ _).alloc (Nat.le_refl _) _).alloc (by simp) _).alloc (by simp; omega) _

set_option maxHeartbeats 1000000 in
set_option maxRecDepth 100000 in
theorem specNewDoc_ok (kind : Int) (w : World) (hk : inB kind 1 8 = true) : Calls Try.prog 12 #[.int .i64 kind] w (SpecNewPost w (newPlain kind) 0) := by
  have hW := (Below.refl w.heap.size w).alloc (Nat.le_refl _) (.cells #[.int .i64 0, .int .i64 0, .slice none 0 0] 24)
  go_enter Try.func12, Try.ntmps12
  go_wp2_with (go_at_call 42; refine (specKind_any _ _).mono ?_; rintro e w' ⟨rfl, rfl⟩)
  refine (specNew_any kind _).mono ?_
  rintro e w1 ⟨b, ka, kc, rfl, hh, hb, hb1⟩
  simp only [World.size_alloc] at hb hb1
  obtain ⟨x0, x1, x2⟩ := box_doc' hb1
  have hfz : ∀ j, w1.frozen? ⟨w.heap.size, j, none⟩ = false := fun j => by
    rw [hb1.frozen (p := ⟨w.heap.size, j, none⟩) (by show w.heap.size < _; omega)]; exact frozen_of_heap (alloc_new w _) j
  have f0 := hfz 0
  have f1 := hfz 1
  have f2 := hfz 2
  have HH := hide hh
  have hbw : b < w1.heap.size := (Array.getElem?_eq_some_iff.1 hh).1
  clear hh hfz
  go_wp2_with fail
  have h2 : (((w1.setCell ⟨w.heap.size, 0, none⟩ (.int .i64 1)).setCell ⟨w.heap.size, 1, none⟩ (.int .i64 2)).setCell ⟨w.heap.size, 2, none⟩ (.slice (some ⟨b, 0, none⟩) 1 1)).heap[b]? = some (.cells #[.int .i64 1, .int .i64 kind, .int .i64 0, .string ⟨#[]⟩, .slice ka 0 kc] 39 (0, 0)) := by
    iterate 3 rw [heap_setCell_other _ _ _ _ (by show b ≠ w.heap.size; omega)]
    exact HH.out
  refine bodyPost_ret (v := .tuple #[.agg #[.int .i64 1, .int .i64 2, .slice (some ⟨b, 0, none⟩) 1 1], .int .i64 0]) (by simp [results, Try.results12, go_sem, x0, x1, x2]) rfl ⟨some ⟨b, 0, none⟩, 1, rfl, ⟨_, rfl, newDoc_at (by simp; omega) h2⟩, ?_⟩
  exact (hW.trans (hb1.mono (by omega))).trans ((((Below.refl _ w1).setCell (p := ⟨w.heap.size, 0, none⟩) (Nat.le_refl _) _).setCell (p := ⟨w.heap.size, 1, none⟩) (Nat.le_refl _) _).setCell (p := ⟨w.heap.size, 2, none⟩) (Nat.le_refl _) _)
end Go.Proofs.Ytigkjljknmojhaa
