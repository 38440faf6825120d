/-
  Whose kid a node is: the specification's answer and the program's.
-/
import Derived.Test.YtigkjljknmojhaaImplAt
namespace Go.Proofs.Ytigkjljknmojhaa
open Go.RowKit Go.Shelf

/-- The parent, 0 of none and where nothing is asked. -/
noncomputable def parentAns (d : PDoc) (id : Int) : Int := by
  classical exact if askOf d id = 0 then parentOf d.nodes id else 0

theorem parentAns_no {d : PDoc} {id : Int} (h : askOf d id ≠ 0) : parentAns d id = 0 := by unfold parentAns; rw [if_neg h]
theorem parentAns_ok {d : PDoc} {id : Int} (h : askOf d id = 0) : parentAns d id = parentOf d.nodes id := by unfold parentAns; rw [if_pos h]

theorem ret_ints {a b a' b' : Int} (h : a = a') (h' : b = b') : Ending.returned (.tuple #[.int .i64 a, .int .i64 b]) = Ending.returned (.tuple #[.int .i64 a', .int .i64 b']) := by rw [h, h']

set_option maxHeartbeats 1000000 in
set_option maxRecDepth 100000 in
theorem specParentOf_any (n₀ : Nat) (d : PDoc) (s : Value) (id : Int) (w : World) (hN : NodesAt n₀ w s d.nodes) (hn : n₀ ≤ w.heap.size) (hl : d.nodes.length ≤ 1048576) (hkl : ∀ x ∈ d.nodes, x.kids.length ≤ 1048576) (c q : Int) (hc : c = askOf d id) (hq : q = parentAns d id) :
    Calls Try.prog 26 #[.agg #[.int .i64 d.root, .int .i64 d.next, s], .int .i64 id] w fun e w' => e = .returned (.tuple #[.int .i64 q, .int .i64 c]) ∧ Below w.heap.size w w' := by
  have hW := (Below.refl w.heap.size w).alloc (Nat.le_refl _) (.cells #[.int .i64 d.root, .int .i64 d.next, s] 24)
  have HA : Hid (Calls Try.prog 52 #[.agg #[.int .i64 d.root, .int .i64 d.next, s], .int .i64 id] (w.alloc (.cells #[.int .i64 d.root, .int .i64 d.next, s] 24)) fun e w' => e = .returned (.int .i64 c) ∧ Below (w.heap.size + 1) (w.alloc (.cells #[.int .i64 d.root, .int .i64 d.next, s] 24)) w') := by
    have := specAsk_any n₀ d s id (w.alloc (.cells #[.int .i64 d.root, .int .i64 d.next, s] 24)) (hN.below (Nat.le_refl _) (hW.mono hn)) (by simp; omega) hl hkl c hc
    unfold Hid; simpa using this
  have HP : Hid (∀ w1, Below w.heap.size w w1 → Calls Try.prog 57 #[.agg #[.int .i64 d.root, .int .i64 d.next, s], .int .i64 id] w1 fun e w' => e = .returned (.int .i64 (parentOf d.nodes id)) ∧ Below w1.heap.size w1 w') := fun w1 hb =>
    specParent_any n₀ d.root d.next s d.nodes id w1 (hN.below (Nat.le_refl _) (hb.mono hn)) (by have := hb.size; omega) hl hkl
  have HC := hide hc
  have HQ := hide hq
  obtain ⟨a, cap, rfl, -⟩ := hN
  clear hkl hc hq
  by_cases h0 : c = 0
  · have he : Hid (q = parentOf d.nodes id) := HQ.out.trans (parentAns_ok (HC.out.symm.trans h0))
    subst h0
    generalize parentOf d.nodes id = pr at *
    go_enter Try.func26, Try.ntmps26
    go_wp2_with fail
    refine HA.out.mono ?_
    rintro e w1 ⟨rfl, hb1⟩
    have hb1' := hW.trans (hb1.mono (by omega))
    obtain ⟨x0, x1, x2⟩ := box_doc' hb1
    have hs1 := hb1'.size
    go_wp2_with (go_at_call 57; refine (HP.out _ hb1').mono ?_; rintro e w2 ⟨rfl, hb2⟩)
    go_ret2
    exact ⟨ret_ints he.out.symm rfl, hb1'.trans (hb2.mono hs1)⟩
  · have he : Hid (q = 0) := HQ.out.trans (parentAns_no (fun e => h0 (HC.out.trans e)))
    have hne : (c != 0) = true := by simp [h0]
    have hne2 : (c == 0) = false := by simp [h0]
    clear h0
    go_enter Try.func26, Try.ntmps26
    go_wp2_with (go_at_call 52; refine HA.out.mono ?_; rintro e w1 ⟨rfl, hb1⟩)
    go_ret2
    exact ⟨ret_ints he.out.symm rfl, hW.trans (hb1.mono (by omega))⟩

set_option maxHeartbeats 1000000 in
set_option maxRecDepth 100000 in
theorem implParentOf_any (n₀ : Nat) (d : PDoc) (s : Value) (id : Int) (w : World) (hN : NodesAt n₀ w s d.nodes) (hn : n₀ ≤ w.heap.size) (hl : d.nodes.length ≤ 1048576) (hwf : WfDoc d) (c q : Int) (hc : c = askOf d id) (hq : q = parentAns d id) :
    Calls Try.prog 27 #[.agg #[.int .i64 d.root, .int .i64 d.next, s], .int .i64 id] w fun e w' => e = .returned (.tuple #[.int .i64 q, .int .i64 c]) ∧ Below w.heap.size w w' := by
  have hW := (Below.refl w.heap.size w).alloc (Nat.le_refl _) (.cells #[.int .i64 d.root, .int .i64 d.next, s] 24)
  have HA : Hid (Calls Try.prog 55 #[.agg #[.int .i64 d.root, .int .i64 d.next, s], .int .i64 id] (w.alloc (.cells #[.int .i64 d.root, .int .i64 d.next, s] 24)) (AtPost (w.alloc (.cells #[.int .i64 d.root, .int .i64 d.next, s] 24)) d id)) :=
    branchAt_any n₀ d s id _ (hN.below (Nat.le_refl _) (hW.mono hn)) (by simp; omega) hl hwf
  have HC := hide hc
  have HQ := hide hq
  obtain ⟨a, cap, rfl, -⟩ := hN
  clear hc hq hwf
  go_enter Try.func27, Try.ntmps27
  go_wp2_with fail
  refine HA.out.mono ?_
  rintro e w1 (⟨rfl, hno, hb1⟩ | ⟨rfl, ⟨hg, hin⟩, hb1⟩ | ⟨tb, ad, up, kv, rfl, ⟨hg, hin⟩, hgr, hb1⟩)
  · simp only [World.size_alloc] at hb1
    have h1 : Hid (c = 1) := HC.out.trans (askOf_bad hno)
    have h2 : Hid (q = 0) := HQ.out.trans (parentAns_no (by rw [← HC.out, h1.out]; decide))
    clear hno
    go_wp2_with fail
    go_ret2
    exact ⟨ret_ints h2.out.symm h1.out.symm, hW.trans (hb1.mono (by omega))⟩
  · simp only [World.size_alloc] at hb1
    have h1 : Hid (c = 5) := HC.out.trans (askOf_none hg hin)
    have h2 : Hid (q = 0) := HQ.out.trans (parentAns_no (by rw [← HC.out, h1.out]; decide))
    clear hg hin
    go_wp2_with fail
    go_ret2
    exact ⟨ret_ints h2.out.symm h1.out.symm, hW.trans (hb1.mono (by omega))⟩
  · simp only [World.size_alloc] at hb1
    have h1 : Hid (c = 0) := HC.out.trans (askOf_ok hg hin)
    have h2 : Hid (q = parentOf d.nodes id) := HQ.out.trans (parentAns_ok (by rw [← HC.out, h1.out]))
    have hT := hgr.tree hg
    obtain ⟨x, hx, rfl⟩ := node_of hin
    have hB := hT x hx
    have c4 := hB.c4
    cases hup : up x.id with
    | none =>
      rw [hup] at c4
      simp only [Option.map_none, ptrTo] at c4
      have h3 : Hid (q = 0) := h2.out.trans (parentOf_none ((hgr.upNone _).1 hup))
      clear hup hB hT hg hin hgr hx
      go_wp2_with fail
      go_ret2
      exact ⟨ret_ints h3.out.symm h1.out.symm, hW.trans (hb1.mono (by omega))⟩
    | some p =>
      rw [hup] at c4
      simp only [Option.map_some, ptrTo] at c4
      have hk := hgr.upKid _ _ hup
      have h3 : Hid (q = p) := h2.out.trans (one_parent hg.once (parentOf_up hg.rise (kidsAt_all hk)) hk)
      obtain ⟨y, hy, rfl, -⟩ := mem_kidsAt hk
      have d0 := (hT y hy).c0
      clear hup hB hT hg hin hgr hx hk hy
      go_wp2_with fail
      go_ret2
      exact ⟨ret_ints h3.out.symm h1.out.symm, hW.trans (hb1.mono (by omega))⟩
end Go.Proofs.Ytigkjljknmojhaa
