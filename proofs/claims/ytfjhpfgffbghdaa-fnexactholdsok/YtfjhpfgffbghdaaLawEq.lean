/-
  The law package's comparisons answer yes to what is alike.
-/
import Derived.Test.YtfjhpfgffbghdaaSpecNode
import Derived.Test.YtfjhpfgffbghdaaLawInts
import Derived.Deep.DeepCutAuto
import Derived.WalkSmall
import Derived.WalkLawsBesides
namespace Go.Proofs.Ytfjhpfgffbghdaa
open Go.RowKit

/-- The value is a node. -/
def NodeVal (n₀ : Nat) (w : World) (v : Value) (x : PNode) : Prop :=
  ∃ kv, v = .agg #[.int .i64 x.id, .int .i64 x.kind, .int .i64 x.attr, .string x.text, kv] ∧ IntsAt n₀ w kv x.kids

theorem NodeVal.below {n₀ n₁ : Nat} {w w' : World} {v : Value} {x : PNode} (h : NodeVal n₀ w v x) (hn : n₀ ≤ n₁) (hb : Below n₀ w w') : NodeVal n₁ w' v x := by
  obtain ⟨kv, rfl, h⟩ := h
  exact ⟨kv, rfl, h.below hn hb⟩

set_option maxHeartbeats 400000 in
theorem eqNode_any (n₀ : Nat) (v v' : Value) (x : PNode) (w : World) (h : NodeVal n₀ w v x) (h' : NodeVal n₀ w v' x) (hn : n₀ ≤ w.heap.size) (hl : x.kids.length ≤ 1048576) :
    Calls Try.prog 65 #[v, v'] w fun e w' => e = .returned (.bool true) ∧ Below w.heap.size w w' := by
  obtain ⟨kv, rfl, hk⟩ := h
  obtain ⟨kv', rfl, hk'⟩ := h'
  have hs : (x.text.toList == x.text.toList) = true := by simp
  have HE : Hid (∀ w1, Below w.heap.size w w1 → Calls Try.prog 90 #[kv, kv'] w1 fun e w' => e = .returned (.bool true) ∧ Below w1.heap.size w1 w') := fun w1 hb =>
    eqInts_any n₀ kv kv' x.kids w1 (hk.below (Nat.le_refl _) (hb.mono hn)) (hk'.below (Nat.le_refl _) (hb.mono hn)) hl
  obtain ⟨a, cap, rfl, -⟩ := hk
  obtain ⟨a', cap', rfl, -⟩ := hk'
  have hW2 := ((Below.refl w.heap.size w).alloc (Nat.le_refl _) (.cells #[.int .i64 x.id, .int .i64 x.kind, .int .i64 x.attr, .string x.text, .slice a x.kids.length cap] 98)).alloc (by simp) (.cells #[.int .i64 x.id, .int .i64 x.kind, .int .i64 x.attr, .string x.text, .slice a' x.kids.length cap'] 98)
  go_enter Try.func65, Try.ntmps65
  go_wp2_with (go_at_call 90; refine (HE.out _ hW2).mono ?_; rintro e w1 ⟨rfl, hb1⟩)
  go_ret
  exact ⟨rfl, hW2.trans (hb1.mono (by simp; omega))⟩

theorem NodeAt.val {n₀ : Nat} {w : World} {b o : Nat} {x : PNode} (h : NodeAt n₀ w b o x) : ∃ kv, w.cell? ⟨b, o + 4, none⟩ = some kv ∧ NodeVal n₀ w (.agg #[.int .i64 x.id, .int .i64 x.kind, .int .i64 x.attr, .string x.text, kv]) x := by
  obtain ⟨kv, h4, hi⟩ := h.c4
  exact ⟨kv, h4, kv, rfl, hi⟩

set_option maxHeartbeats 1000000 in
set_option maxRecDepth 100000 in
theorem eqNodes_any (n₀ : Nat) (v v' : Value) (l : List PNode) (w : World) (h : NodesAt n₀ w v l) (h' : NodesAt n₀ w v' l) (hn : n₀ ≤ w.heap.size) (hl : l.length ≤ 1048576) (hkl : ∀ x ∈ l, x.kids.length ≤ 1048576) :
    Calls Try.prog 36 #[v, v'] w fun e w' => e = .returned (.bool true) ∧ Below w.heap.size w w' := by
  obtain ⟨a, cap, rfl, hk⟩ := h
  obtain ⟨a', cap', rfl, hk'⟩ := h'
  have HKL := hide hkl
  clear hkl
  go_enter Try.func36, Try.ntmps36
  go_wp2_with fail
  go_loopw [5] (fun i wr => ∃ k : Nat, k ≤ l.length ∧ i = .int .i64 k ∧ Below w.heap.size w wr) (fun i _ => l.length - (intOf i).toNat)
  case atStart => exact ⟨0, Nat.zero_le _, rfl, Below.refl _ _⟩
  case round =>
    obtain ⟨k, hkl, rfl, hbr⟩ := hrel
    have hsz := hbr.size
    by_cases hlt : k < l.length
    · obtain ⟨b, off, rfl, hb, hc⟩ := hk.resolve_left (by intro e; simp [e] at hlt)
      obtain ⟨b', off', rfl, hb', hc'⟩ := hk'.resolve_left (by intro e; simp [e] at hlt)
      have hA := (hc k hlt).below hb (Nat.le_refl _) (hbr.mono hn)
      have hA' := (hc' k hlt).below hb' (Nat.le_refl _) (hbr.mono hn)
      have hlx := HKL.out (l[k]?.getD nodeNil) (by simp [hlt])
      have g0 := hA.c0
      have g1 := hA.c1
      have g2 := hA.c2
      have g3 := hA.c3
      have f0 := hA'.c0
      have f1 := hA'.c1
      have f2 := hA'.c2
      have f3 := hA'.c3
      obtain ⟨kv, g4, hi⟩ := hA.c4
      obtain ⟨kv', f4, hi'⟩ := hA'.c4
      have hv : NodeVal n₀ wr (.agg #[.int .i64 (l[k]?.getD nodeNil).id, .int .i64 (l[k]?.getD nodeNil).kind, .int .i64 (l[k]?.getD nodeNil).attr, .string (l[k]?.getD nodeNil).text, kv]) (l[k]?.getD nodeNil) := ⟨kv, rfl, hi⟩
      have hv' : NodeVal n₀ wr (.agg #[.int .i64 (l[k]?.getD nodeNil).id, .int .i64 (l[k]?.getD nodeNil).kind, .int .i64 (l[k]?.getD nodeNil).attr, .string (l[k]?.getD nodeNil).text, kv']) (l[k]?.getD nodeNil) := ⟨kv', rfl, hi'⟩
      have hlt1 : (k : Int) < (l.length : Int) := by omega
      have hbw : b < wr.heap.size := by omega
      have hbw' : b' < wr.heap.size := by omega
      have hcal := calm_cell wr
      have HE : Hid (∀ t : Calm wr, Calls Try.prog 65 #[.agg #[.int .i64 (l[k]?.getD nodeNil).id, .int .i64 (l[k]?.getD nodeNil).kind, .int .i64 (l[k]?.getD nodeNil).attr, .string (l[k]?.getD nodeNil).text, kv], .agg #[.int .i64 (l[k]?.getD nodeNil).id, .int .i64 (l[k]?.getD nodeNil).kind, .int .i64 (l[k]?.getD nodeNil).attr, .string (l[k]?.getD nodeNil).text, kv']] t.out fun e w' => e = .returned (.bool true) ∧ Below t.out.heap.size t.out w') := fun t =>
        eqNode_any n₀ _ _ (l[k]?.getD nodeNil) t.out (hv.below (Nat.le_refl _) (t.below.mono (by omega))) (hv'.below (Nat.le_refl _) (t.below.mono (by omega))) (by have := t.below.size; omega) hlx
      clear hv hv'
      obtain ⟨ak, ck, rfl, -⟩ := hi
      obtain ⟨ak', ck', rfl, -⟩ := hi'
      clear hA hA' hc hc' hk hk'
      generalize l[k]?.getD nodeNil = x at *
      go_wp2_with fail
      refine wp_region_calm (by kernel_rfl) (by kernel_rfl) ?_
      repeat (go_big_quiet_step ((go_at_call 65; exact calm_of (HE.out _))))
      refine wpQuiet_nil ?_
      rintro _ ⟨t, rfl⟩
      have ht := t.below
      go_wp2_with fail
      exact ⟨⟨k + 1, by omega, by go_num, hbr.trans (ht.mono hsz)⟩, by simp [intOf]; omega⟩
    · clear hk hk'
      go_wp2_with fail
      go_ret
      exact ⟨rfl, hbr⟩

set_option maxHeartbeats 400000 in
theorem eqDoc_any (n₀ : Nat) (v v' : Value) (d : PDoc) (w : World) (h : DocAt n₀ w v d) (h' : DocAt n₀ w v' d) (hn : n₀ ≤ w.heap.size) (hl : d.nodes.length ≤ 1048576) (hkl : ∀ x ∈ d.nodes, x.kids.length ≤ 1048576) :
    Calls Try.prog 14 #[v, v'] w fun e w' => e = .returned (.bool true) ∧ Below w.heap.size w w' := by
  obtain ⟨s, rfl, hk⟩ := h
  obtain ⟨s', rfl, hk'⟩ := h'
  have HE : Hid (∀ w1, Below w.heap.size w w1 → Calls Try.prog 36 #[s, s'] w1 fun e w' => e = .returned (.bool true) ∧ Below w1.heap.size w1 w') := fun w1 hb =>
    eqNodes_any n₀ s s' d.nodes w1 (hk.below (Nat.le_refl _) (hb.mono hn)) (hk'.below (Nat.le_refl _) (hb.mono hn)) (by have := hb.size; omega) hl hkl
  obtain ⟨a, cap, rfl, -⟩ := hk
  obtain ⟨a', cap', rfl, -⟩ := hk'
  clear hkl
  have hW2 := ((Below.refl w.heap.size w).alloc (Nat.le_refl _) (.cells #[.int .i64 d.root, .int .i64 d.next, .slice a d.nodes.length cap] 31)).alloc (by simp) (.cells #[.int .i64 d.root, .int .i64 d.next, .slice a' d.nodes.length cap'] 31)
  go_enter Try.func14, Try.ntmps14
  go_wp2_with (go_at_call 36; refine (HE.out _ hW2).mono ?_; rintro e w1 ⟨rfl, hb1⟩)
  go_ret
  exact ⟨rfl, hW2.trans (hb1.mono (by simp; omega))⟩
end Go.Proofs.Ytfjhpfgffbghdaa
