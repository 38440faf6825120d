/-
  Requests: how they lie as values, and which ones are right.
-/
import Derived.Test.YtihoihlkkhndhaaDoorReqAtJ
import Derived.Test.YtihoihlkkhndhaaDoorEditRepJ
namespace Go.Proofs.YtihoihlkkhndhaaDoor
open Go.RowKit

structure PReq where
  kind : Int
  session : Int
  node : Int
  a : Int
  edit : PEdit

@[reducible] def reqVal (x : PReq) : Value := .agg #[.int .i64 x.kind, .int .i64 x.session, .int .i64 x.node, .int .i64 x.a, .int .i64 x.edit.kind, .int .i64 x.edit.node, .int .i64 x.edit.a, .int .i64 x.edit.b, .string x.edit.text]

def editZ (e : PEdit) : Prop := e.kind = 0 ∧ e.node = 0 ∧ e.a = 0 ∧ e.b = 0 ∧ e.text.size = 0
def sessN (n : Int) : Prop := 1 ≤ n ∧ n ≤ 999
def nodeN (n : Int) : Prop := 1 ≤ n ∧ n ≤ 999999

/-- A request is right. -/
def ReqP (x : PReq) : Prop :=
  (x.kind = 1 ∧ x.session = 0 ∧ x.node = 0 ∧ x.a = 0 ∧ editZ x.edit) ∨
  ((x.kind = 2 ∨ x.kind = 3 ∨ x.kind = 8 ∨ x.kind = 9) ∧ sessN x.session ∧ x.node = 0 ∧ x.a = 0 ∧ editZ x.edit) ∨
  (x.kind = 4 ∧ sessN x.session ∧ nodeN x.node ∧ (1 ≤ x.a ∧ x.a ≤ 5) ∧ editZ x.edit) ∨
  ((x.kind = 5 ∨ x.kind = 6 ∨ x.kind = 10) ∧ sessN x.session ∧ nodeN x.node ∧ x.a = 0 ∧ editZ x.edit) ∨
  (x.kind = 7 ∧ sessN x.session ∧ x.node = 0 ∧ x.a = 0 ∧ editB x.edit = true) ∨
  (x.kind = 11 ∧ x.session = 0 ∧ x.node = 0 ∧ (1 ≤ x.a ∧ x.a ≤ 500) ∧ editZ x.edit)

theorem nine_cells {w : World} {b : Nat} {c0 c1 c2 c3 c4 c5 c6 c7 c8 : Value} {t : TypeId} (h : w.heap[b]? = some (.cells #[c0, c1, c2, c3, c4, c5, c6, c7, c8] t (0, 0))) : w.cell? ⟨b, 0, none⟩ = some c0 ∧ w.cell? ⟨b, 1, none⟩ = some c1 ∧ w.cell? ⟨b, 2, none⟩ = some c2 ∧ w.cell? ⟨b, 3, none⟩ = some c3 ∧ w.cell? ⟨b, 4, none⟩ = some c4 ∧ w.cell? ⟨b, 5, none⟩ = some c5 ∧ w.cell? ⟨b, 6, none⟩ = some c6 ∧ w.cell? ⟨b, 7, none⟩ = some c7 ∧ w.cell? ⟨b, 8, none⟩ = some c8 :=
  ⟨cell_of_heap h 0, cell_of_heap h 1, cell_of_heap h 2, cell_of_heap h 3, cell_of_heap h 4, cell_of_heap h 5, cell_of_heap h 6, cell_of_heap h 7, cell_of_heap h 8⟩

theorem szRequest_any (x : PReq) (c : Int) (w : World) (h0 : 0 ≤ c) (h1 : c ≤ 1048576) (hl : x.edit.text.size ≤ 9223372036854775807) :
    Calls Tryd.prog 4 #[reqVal x, .int .i64 c] w fun e w' => ∃ r, e = .returned (.int .i64 r) ∧ -1 ≤ r ∧ r ≤ c ∧ (0 ≤ r → x.edit.text.size ≤ 1048576) ∧ Below w.heap.size w w' := by
  have hW := (Below.refl w.heap.size w).alloc (Nat.le_refl _) (.cells #[.int .i64 x.kind, .int .i64 x.session, .int .i64 x.node, .int .i64 x.a, .int .i64 x.edit.kind, .int .i64 x.edit.node, .int .i64 x.edit.a, .int .i64 x.edit.b, .string x.edit.text] 25)
  have HSz := hide (szEdit_any x.edit c (w.alloc (.cells #[.int .i64 x.kind, .int .i64 x.session, .int .i64 x.node, .int .i64 x.a, .int .i64 x.edit.kind, .int .i64 x.edit.node, .int .i64 x.edit.a, .int .i64 x.edit.b, .string x.edit.text] 25)) h0 h1 hl)
  go_enter Tryd.func4, Tryd.ntmps4
  go_wp2_with fail
  refine HSz.out.mono ?_
  rintro e w1 ⟨q, rfl, hq1, hq2, hq3, hb1⟩
  simp only [World.size_alloc] at hb1
  have HQ := hide hq3
  clear hq3
  by_cases hq : q < 0
  · go_wp2_with fail
    go_ret
    exact ⟨-1, rfl, by omega, by omega, by omega, hW.trans (hb1.mono (by omega))⟩
  · go_wp2_with fail
    go_ret
    exact ⟨q, rfl, hq1, hq2, HQ.out, hW.trans (hb1.mono (by omega))⟩

theorem edit_eql (x y : PEdit) (w : World) : (binOp .eql 28 (editVal x) (editVal y)).run Tryd.prog w = .ok (.bool (x.kind == y.kind && (x.node == y.node && (x.a == y.a && (x.b == y.b && decide (x.text.toList = y.text.toList)))))) w := by
  rw [run_eql_struct, run_equalIn_agg _ _ _ _ _ (by kernel_rfl) (by kernel_rfl)]
  simp [go_sem, Tryd.underlying28]
  by_cases h1 : x.kind = y.kind <;> by_cases h2 : x.node = y.node <;> by_cases h3 : x.a = y.a <;> by_cases h4 : x.b = y.b <;> by_cases h5 : x.text.toList = y.text.toList <;> simp [h1, h2, h3, h4, h5]
theorem edit_neq (x y : PEdit) (w : World) : (binOp .neq 28 (editVal x) (editVal y)).run Tryd.prog w = .ok (.bool (!(x.kind == y.kind && (x.node == y.node && (x.a == y.a && (x.b == y.b && decide (x.text.toList = y.text.toList))))))) w := by
  rw [run_neq_struct, run_equalIn_agg _ _ _ _ _ (by kernel_rfl) (by kernel_rfl)]
  simp [go_sem, Tryd.underlying28]
  by_cases h1 : x.kind = y.kind <;> by_cases h2 : x.node = y.node <;> by_cases h3 : x.a = y.a <;> by_cases h4 : x.b = y.b <;> by_cases h5 : x.text.toList = y.text.toList <;> simp [h1, h2, h3, h4, h5]

def editZero : PEdit := ⟨0, 0, 0, 0, ByteArray.empty⟩
theorem editZ_iff {e : PEdit} : (e.kind == editZero.kind && (e.node == editZero.node && (e.a == editZero.a && (e.b == editZero.b && decide (e.text.toList = editZero.text.toList))))) = true ↔ editZ e := by
  have h0 : ByteArray.empty.toList = [] := toList_nil.2 rfl
  simp only [editZero, Bool.and_eq_true, beq_iff_eq, decide_eq_true_eq, editZ, h0, toList_nil]

set_option maxHeartbeats 1600000 in
set_option maxRecDepth 100000 in
theorem toRequest_any (x : PReq) (w : World) :
    Calls Tryd.prog 6 #[reqVal x] w fun e w' => e = .returned (reqVal x) ∧ Below w.heap.size w w' := by
  obtain ⟨W0, hW0⟩ : ∃ W0, W0 = ((w.alloc (.cells #[.int .i64 x.kind, .int .i64 x.session, .int .i64 x.node, .int .i64 x.a, .int .i64 x.edit.kind, .int .i64 x.edit.node, .int .i64 x.edit.a, .int .i64 x.edit.b, .string x.edit.text] 25)).alloc (.cells #[.int .i64 0, .int .i64 0, .int .i64 0, .int .i64 0, .int .i64 0, .int .i64 0, .int .i64 0, .int .i64 0, .string ⟨#[]⟩] 30)).alloc (.cells #[.int .i64 x.kind, .int .i64 x.session, .int .i64 x.node, .int .i64 x.a, .int .i64 0, .int .i64 0, .int .i64 0, .int .i64 0, .string ⟨#[]⟩] 30) := ⟨_, rfl⟩
  have hb0 : Below w.heap.size w W0 := by rw [hW0]; exact (((Below.refl _ _).alloc (Nat.le_refl _) _).alloc (by simp) _).alloc (by simp; omega) _
  have hh1 : W0.heap[w.heap.size + 1]? = some (.cells #[.int .i64 0, .int .i64 0, .int .i64 0, .int .i64 0, .int .i64 0, .int .i64 0, .int .i64 0, .int .i64 0, .string ⟨#[]⟩] 30 (0, 0)) := by
    rw [hW0, Below.heap_alloc _ _ _ (by simp)]
    have := alloc_new (w.alloc (.cells #[.int .i64 x.kind, .int .i64 x.session, .int .i64 x.node, .int .i64 x.a, .int .i64 x.edit.kind, .int .i64 x.edit.node, .int .i64 x.edit.a, .int .i64 x.edit.b, .string x.edit.text] 25)) (.cells #[.int .i64 0, .int .i64 0, .int .i64 0, .int .i64 0, .int .i64 0, .int .i64 0, .int .i64 0, .int .i64 0, .string ⟨#[]⟩] 30)
    simpa using this
  have hh2 : W0.heap[w.heap.size + 1 + 1]? = some (.cells #[.int .i64 x.kind, .int .i64 x.session, .int .i64 x.node, .int .i64 x.a, .int .i64 0, .int .i64 0, .int .i64 0, .int .i64 0, .string ⟨#[]⟩] 30 (0, 0)) := by
    rw [hW0]
    have := alloc_new ((w.alloc (.cells #[.int .i64 x.kind, .int .i64 x.session, .int .i64 x.node, .int .i64 x.a, .int .i64 x.edit.kind, .int .i64 x.edit.node, .int .i64 x.edit.a, .int .i64 x.edit.b, .string x.edit.text] 25)).alloc (.cells #[.int .i64 0, .int .i64 0, .int .i64 0, .int .i64 0, .int .i64 0, .int .i64 0, .int .i64 0, .int .i64 0, .string ⟨#[]⟩] 30)) (.cells #[.int .i64 x.kind, .int .i64 x.session, .int .i64 x.node, .int .i64 x.a, .int .i64 0, .int .i64 0, .int .i64 0, .int .i64 0, .string ⟨#[]⟩] 30)
    simpa using this
  have HTo := hide (toEdit_any x.edit W0)
  have hz2 : w.heap.size + 1 + 1 < W0.heap.size := (Array.getElem?_eq_some_iff.1 hh2).1
  go_enter Tryd.func6, Tryd.ntmps6
  go_wp2_with fail
  rw [← hW0]
  refine HTo.out.mono ?_
  rintro e w1 ⟨rfl, hb1⟩
  have hs1 := hb1.size
  have m1 := (hb1.block (w.heap.size + 1) (by omega)).trans hh1
  have m2 := (hb1.block (w.heap.size + 1 + 1) (by omega)).trans hh2
  have hbw := hb0.trans (hb1.mono hb0.size)
  obtain ⟨k0, k1, k2, k3, k4, k5, k6, k7, k8⟩ := nine_cells m2
  obtain ⟨n0, n1, n2, n3, n4, n5, n6, n7, n8⟩ := nine_cells m1
  have f1 : ∀ j, w1.frozen? ⟨w.heap.size + 1, j, none⟩ = false := fun j => frozen_of_heap m1 j
  have f2 : ∀ j, w1.frozen? ⟨w.heap.size + 1 + 1, j, none⟩ = false := fun j => frozen_of_heap m2 j
  have hz3 : w.heap.size + 1 < w1.heap.size := by omega
  have hz4 : w.heap.size + 1 + 1 < w1.heap.size := by omega
  clear hh1 hh2 m1 m2 hW0
  go_wp2_with fail
  refine bodyPost_ret (v := reqVal x) (by simp [results, Tryd.results6, go_sem, n0, n1, n2, n3, n4, n5, n6, n7, n8]) rfl ⟨rfl, ?_⟩
  have hs : ∀ {wx : World} (b o : Nat) (v : Value), w.heap.size ≤ b → Below w.heap.size w wx → Below w.heap.size w (wx.setCell ⟨b, o, none⟩ v) := fun b o v h hb => hb.setCell (p := ⟨b, o, none⟩) h v
  iterate 14 refine hs _ _ _ (by omega) ?_
  exact hbw
end Go.Proofs.YtihoihlkkhndhaaDoor
