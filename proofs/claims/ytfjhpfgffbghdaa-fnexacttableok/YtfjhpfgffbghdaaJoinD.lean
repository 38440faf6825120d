/-
  The law package's comparisons answer yes to what is alike.
  The law package's copies of a document: new memory of their own, with the same content; and how large a document is.
  The law package's copy of a whole document, and how it asks whether one is small enough.
-/
import Derived.Test.YtfjhpfgffbghdaaJoinB
import Derived.Test.YtfjhpfgffbghdaaLawIntsJ
import Derived.Deep.DeepCutAuto
import Derived.WalkSmall
import Derived.WalkLawsBesides
import Derived.Laws.MakeOwn
import Derived.Laws.Rows
namespace Go.Proofs.Ytfjhpfgffbghdaa
open Go.RowKit

/-- The value is a node. -/
def NodeVal (n₀ : Nat) (w : World) (v : Value) (x : PNode) : Prop :=
  ∃ kv, v = .agg #[.int .i64 x.id, .int .i64 x.kind, .int .i64 x.attr, .string x.text, kv] ∧ IntsAt n₀ w kv x.kids

theorem NodeVal.below {n₀ n₁ : Nat} {w w' : World} {v : Value} {x : PNode} (h : NodeVal n₀ w v x) (hn : n₀ ≤ n₁) (hb : Below n₀ w w') : NodeVal n₁ w' v x := by
  obtain ⟨kv, rfl, h⟩ := h
  exact ⟨kv, rfl, h.below hn hb⟩

set_option maxHeartbeats 400000 in
theorem eqNode_any (n₀ : Nat) (v v' : Value) (x : PNode) (w : World) (h : NodeVal n₀ w v x) (h' : NodeVal n₀ w v' x) (hn : n₀ ≤ w.heap.size) (hl : x.kids.length ≤ 1048576) :
    Calls Try.prog 65 #[v, v'] w fun e w' => e = .returned (.bool true) ∧ Below w.heap.size w w' := by
  obtain ⟨kv, rfl, hk⟩ := h
  obtain ⟨kv', rfl, hk'⟩ := h'
  have hs : (x.text.toList == x.text.toList) = true := by simp
  have HE : Hid (∀ w1, Below w.heap.size w w1 → Calls Try.prog 90 #[kv, kv'] w1 fun e w' => e = .returned (.bool true) ∧ Below w1.heap.size w1 w') := fun w1 hb =>
    eqInts_any n₀ kv kv' x.kids w1 (hk.below (Nat.le_refl _) (hb.mono hn)) (hk'.below (Nat.le_refl _) (hb.mono hn)) hl
  obtain ⟨a, cap, rfl, -⟩ := hk
  obtain ⟨a', cap', rfl, -⟩ := hk'
  have hW2 := ((Below.refl w.heap.size w).alloc (Nat.le_refl _) (.cells #[.int .i64 x.id, .int .i64 x.kind, .int .i64 x.attr, .string x.text, .slice a x.kids.length cap] 98)).alloc (by simp) (.cells #[.int .i64 x.id, .int .i64 x.kind, .int .i64 x.attr, .string x.text, .slice a' x.kids.length cap'] 98)
  go_enter Try.func65, Try.ntmps65
  go_wp2_with (go_at_call 90; refine (HE.out _ hW2).mono ?_; rintro e w1 ⟨rfl, hb1⟩)
  go_ret
  exact ⟨rfl, hW2.trans (hb1.mono (by simp; omega))⟩

theorem NodeAt.val {n₀ : Nat} {w : World} {b o : Nat} {x : PNode} (h : NodeAt n₀ w b o x) : ∃ kv, w.cell? ⟨b, o + 4, none⟩ = some kv ∧ NodeVal n₀ w (.agg #[.int .i64 x.id, .int .i64 x.kind, .int .i64 x.attr, .string x.text, kv]) x := by
  obtain ⟨kv, h4, hi⟩ := h.c4
  exact ⟨kv, h4, kv, rfl, hi⟩

set_option maxHeartbeats 1000000 in
set_option maxRecDepth 100000 in
theorem eqNodes_any (n₀ : Nat) (v v' : Value) (l : List PNode) (w : World) (h : NodesAt n₀ w v l) (h' : NodesAt n₀ w v' l) (hn : n₀ ≤ w.heap.size) (hl : l.length ≤ 1048576) (hkl : ∀ x ∈ l, x.kids.length ≤ 1048576) :
    Calls Try.prog 36 #[v, v'] w fun e w' => e = .returned (.bool true) ∧ Below w.heap.size w w' := by
  obtain ⟨a, cap, rfl, hk⟩ := h
  obtain ⟨a', cap', rfl, hk'⟩ := h'
  have HKL := hide hkl
  clear hkl
  go_enter Try.func36, Try.ntmps36
  go_wp2_with fail
  go_loopw [5] (fun i wr => ∃ k : Nat, k ≤ l.length ∧ i = .int .i64 k ∧ Below w.heap.size w wr) (fun i _ => l.length - (intOf i).toNat)
  case atStart => exact ⟨0, Nat.zero_le _, rfl, Below.refl _ _⟩
  case round =>
    obtain ⟨k, hkl, rfl, hbr⟩ := hrel
    have hsz := hbr.size
    by_cases hlt : k < l.length
    · obtain ⟨b, off, rfl, hb, hc⟩ := hk.resolve_left (by intro e; simp [e] at hlt)
      obtain ⟨b', off', rfl, hb', hc'⟩ := hk'.resolve_left (by intro e; simp [e] at hlt)
      have hA := (hc k hlt).below hb (Nat.le_refl _) (hbr.mono hn)
      have hA' := (hc' k hlt).below hb' (Nat.le_refl _) (hbr.mono hn)
      have hlx := HKL.out (l[k]?.getD nodeNil) (by simp [hlt])
      have g0 := hA.c0
      have g1 := hA.c1
      have g2 := hA.c2
      have g3 := hA.c3
      have f0 := hA'.c0
      have f1 := hA'.c1
      have f2 := hA'.c2
      have f3 := hA'.c3
      obtain ⟨kv, g4, hi⟩ := hA.c4
      obtain ⟨kv', f4, hi'⟩ := hA'.c4
      have hv : NodeVal n₀ wr (.agg #[.int .i64 (l[k]?.getD nodeNil).id, .int .i64 (l[k]?.getD nodeNil).kind, .int .i64 (l[k]?.getD nodeNil).attr, .string (l[k]?.getD nodeNil).text, kv]) (l[k]?.getD nodeNil) := ⟨kv, rfl, hi⟩
      have hv' : NodeVal n₀ wr (.agg #[.int .i64 (l[k]?.getD nodeNil).id, .int .i64 (l[k]?.getD nodeNil).kind, .int .i64 (l[k]?.getD nodeNil).attr, .string (l[k]?.getD nodeNil).text, kv']) (l[k]?.getD nodeNil) := ⟨kv', rfl, hi'⟩
      have hlt1 : (k : Int) < (l.length : Int) := by omega
      have hbw : b < wr.heap.size := by omega
      have hbw' : b' < wr.heap.size := by omega
      have hcal := calm_cell wr
      have HE : Hid (∀ t : Calm wr, Calls Try.prog 65 #[.agg #[.int .i64 (l[k]?.getD nodeNil).id, .int .i64 (l[k]?.getD nodeNil).kind, .int .i64 (l[k]?.getD nodeNil).attr, .string (l[k]?.getD nodeNil).text, kv], .agg #[.int .i64 (l[k]?.getD nodeNil).id, .int .i64 (l[k]?.getD nodeNil).kind, .int .i64 (l[k]?.getD nodeNil).attr, .string (l[k]?.getD nodeNil).text, kv']] t.out fun e w' => e = .returned (.bool true) ∧ Below t.out.heap.size t.out w') := fun t =>
        eqNode_any n₀ _ _ (l[k]?.getD nodeNil) t.out (hv.below (Nat.le_refl _) (t.below.mono (by omega))) (hv'.below (Nat.le_refl _) (t.below.mono (by omega))) (by have := t.below.size; omega) hlx
      clear hv hv'
      obtain ⟨ak, ck, rfl, -⟩ := hi
      obtain ⟨ak', ck', rfl, -⟩ := hi'
      clear hA hA' hc hc' hk hk'
      generalize l[k]?.getD nodeNil = x at *
      go_wp2_with fail
      refine wp_region_calm (by kernel_rfl) (by kernel_rfl) ?_
      repeat (go_big_quiet_step ((go_at_call 65; exact calm_of (HE.out _))))
      refine wpQuiet_nil ?_
      rintro _ ⟨t, rfl⟩
      have ht := t.below
      go_wp2_with fail
      exact ⟨⟨k + 1, by omega, by go_num, hbr.trans (ht.mono hsz)⟩, by simp [intOf]; omega⟩
    · clear hk hk'
      go_wp2_with fail
      go_ret
      exact ⟨rfl, hbr⟩

set_option maxHeartbeats 400000 in
theorem eqDoc_any (n₀ : Nat) (v v' : Value) (d : PDoc) (w : World) (h : DocAt n₀ w v d) (h' : DocAt n₀ w v' d) (hn : n₀ ≤ w.heap.size) (hl : d.nodes.length ≤ 1048576) (hkl : ∀ x ∈ d.nodes, x.kids.length ≤ 1048576) :
    Calls Try.prog 14 #[v, v'] w fun e w' => e = .returned (.bool true) ∧ Below w.heap.size w w' := by
  obtain ⟨s, rfl, hk⟩ := h
  obtain ⟨s', rfl, hk'⟩ := h'
  have HE : Hid (∀ w1, Below w.heap.size w w1 → Calls Try.prog 36 #[s, s'] w1 fun e w' => e = .returned (.bool true) ∧ Below w1.heap.size w1 w') := fun w1 hb =>
    eqNodes_any n₀ s s' d.nodes w1 (hk.below (Nat.le_refl _) (hb.mono hn)) (hk'.below (Nat.le_refl _) (hb.mono hn)) (by have := hb.size; omega) hl hkl
  obtain ⟨a, cap, rfl, -⟩ := hk
  obtain ⟨a', cap', rfl, -⟩ := hk'
  clear hkl
  have hW2 := ((Below.refl w.heap.size w).alloc (Nat.le_refl _) (.cells #[.int .i64 d.root, .int .i64 d.next, .slice a d.nodes.length cap] 31)).alloc (by simp) (.cells #[.int .i64 d.root, .int .i64 d.next, .slice a' d.nodes.length cap'] 31)
  go_enter Try.func14, Try.ntmps14
  go_wp2_with (go_at_call 36; refine (HE.out _ hW2).mono ?_; rintro e w1 ⟨rfl, hb1⟩)
  go_ret
  exact ⟨rfl, hW2.trans (hb1.mono (by simp; omega))⟩
end Go.Proofs.Ytfjhpfgffbghdaa

namespace Go.Proofs.Ytfjhpfgffbghdaa
open Go.RowKit

set_option maxHeartbeats 1000000 in
set_option maxRecDepth 100000 in
theorem toNode_any (n₀ : Nat) (v : Value) (x : PNode) (w : World) (h : NodeVal n₀ w v x) (hn : n₀ ≤ w.heap.size) (hl : x.kids.length ≤ 1048576) :
    Calls Try.prog 61 #[v] w fun e w' => ∃ kv, e = .returned (.agg #[.int .i64 x.id, .int .i64 x.kind, .int .i64 x.attr, .string x.text, kv]) ∧ IntsOwn w.heap.size w'.heap.size w' kv x.kids ∧ Below w.heap.size w w' ∧ w.heap.size < w'.heap.size := by
  obtain ⟨kv, rfl, hk⟩ := h
  have HT : Hid (∀ w1, Below w.heap.size w w1 → Calls Try.prog 82 #[kv] w1 fun e w' => ∃ u, e = .returned u ∧ IntsOwn w1.heap.size w'.heap.size w' u x.kids ∧ Below w1.heap.size w1 w' ∧ w1.heap.size < w'.heap.size) := fun w1 hb =>
    toInts_any n₀ kv x.kids w1 (hk.below (Nat.le_refl _) (hb.mono hn)) (by have := hb.size; omega) hl
  obtain ⟨a, cap, rfl, -⟩ := hk
  have hW3 := (((Below.refl w.heap.size w).alloc (Nat.le_refl _) (.cells #[.int .i64 x.id, .int .i64 x.kind, .int .i64 x.attr, .string x.text, .slice a x.kids.length cap] 94)).alloc (by simp) (.cells #[.int .i64 0, .int .i64 0, .int .i64 0, .string ⟨#[]⟩, .slice none 0 0] 98)).alloc (by simp; omega) (.cells #[.int .i64 x.id, .int .i64 x.kind, .int .i64 x.attr, .string x.text, .slice none 0 0] 98)
  go_enter Try.func61, Try.ntmps61
  go_wp2_with fail
  refine (HT.out _ hW3).mono ?_
  rintro e w1 ⟨u, rfl, hown, hb1, hlt⟩
  simp only [World.size_alloc] at hown hb1 hlt
  have hb1' := hW3.trans (hb1.mono (by omega))
  have hcx : ∀ b o, b < w.heap.size + 1 + 1 + 1 → w1.cell? ⟨b, o, none⟩ = _ := fun b o h => hb1.cell (p := ⟨b, o, none⟩) h
  have hfx : ∀ b o, b < w.heap.size + 1 + 1 + 1 → w1.frozen? ⟨b, o, none⟩ = _ := fun b o h => hb1.frozen (p := ⟨b, o, none⟩) h
  have hz1 : w.heap.size + 1 < w1.heap.size := by omega
  have hz2 : w.heap.size + 1 + 1 < w1.heap.size := by omega
  have HOwn := hide hown
  obtain ⟨bo, co, cs, rfl, hlo, hhi, hbo, -⟩ := hown
  have HHeap : Hid (∀ w2 : World, (∀ k, w.heap.size + 1 + 1 < k → w2.heap[k]? = w1.heap[k]?) → w2.heap.size = w1.heap.size → IntsOwn w.heap.size w2.heap.size w2 (.slice (some ⟨bo, 0, none⟩) x.kids.length co) x.kids) := fun w2 h2 hs2 =>
    HOwn.out.heap (by omega) (by omega) fun k h3 _ => h2 k (by omega)
  clear hbo HT
  go_wp2_with fail
  refine bodyPost_ret (v := .agg #[.int .i64 x.id, .int .i64 x.kind, .int .i64 x.attr, .string x.text, .slice (some ⟨bo, 0, none⟩) x.kids.length co]) (by simp [results, Try.results61, go_sem, hcx]) rfl ⟨_, rfl, HHeap.out _ ?_ (by simp), ?_, by simp; omega⟩
  · intro k hk
    iterate 6 rw [heap_setCell_other _ _ _ _ (by show k ≠ _; simp; omega)]
  · exact (((((hb1'.setCell (p := ⟨w.heap.size + 1 + 1, 4, none⟩) (by simp; omega) _).setCell (p := ⟨w.heap.size + 1, 0, none⟩) (by simp) _).setCell (p := ⟨w.heap.size + 1, 1, none⟩) (by simp) _).setCell (p := ⟨w.heap.size + 1, 2, none⟩) (by simp) _).setCell (p := ⟨w.heap.size + 1, 3, none⟩) (by simp) _).setCell (p := ⟨w.heap.size + 1, 4, none⟩) (by simp) _

/-- A list of nodes in a block of its own, and the lists of their kids each in one of its own behind it. -/
def NodesOwn (lo hi : Nat) (w : World) (v : Value) (l : List PNode) : Prop :=
  ∃ b cap cs, v = .slice (some ⟨b, 0, none⟩) l.length cap ∧ lo ≤ b ∧ b < hi ∧ w.heap[b]? = some (.cells cs 98 (0, 0)) ∧
    ∀ j, j < l.length → ∃ kv, cs[j * 5]? = some (.int .i64 (l[j]?.getD nodeNil).id) ∧ cs[j * 5 + 1]? = some (.int .i64 (l[j]?.getD nodeNil).kind) ∧ cs[j * 5 + 2]? = some (.int .i64 (l[j]?.getD nodeNil).attr) ∧ cs[j * 5 + 3]? = some (.string (l[j]?.getD nodeNil).text) ∧ cs[j * 5 + 4]? = some kv ∧ IntsOwn (b + 1) hi w kv (l[j]?.getD nodeNil).kids

theorem NodesOwn.at {lo hi : Nat} {w : World} {v : Value} {l : List PNode} (h : NodesOwn lo hi w v l) : NodesAt hi w v l := by
  obtain ⟨b, cap, cs, rfl, h1, h2, h3, h4⟩ := h
  refine ⟨_, cap, rfl, .inr ⟨b, 0, rfl, h2, fun j hj => ?_⟩⟩
  obtain ⟨kv, g0, g1, g2, g3, g4, g5⟩ := h4 j hj
  rw [Nat.zero_add]
  exact ⟨by rw [cell_of_heap h3, g0], by rw [cell_of_heap h3, g1], by rw [cell_of_heap h3, g2], by rw [cell_of_heap h3, g3], kv, by rw [cell_of_heap h3, g4], g5.at⟩

theorem NodesOwn.below {lo hi : Nat} {w w' : World} {v : Value} {l : List PNode} (h : NodesOwn lo hi w v l) (hb : Below hi w w') : NodesOwn lo hi w' v l := by
  obtain ⟨b, cap, cs, rfl, h1, h2, h3, h4⟩ := h
  refine ⟨b, cap, cs, rfl, h1, h2, (hb.block b h2).trans h3, fun j hj => ?_⟩
  obtain ⟨kv, g0, g1, g2, g3, g4, g5⟩ := h4 j hj
  exact ⟨kv, g0, g1, g2, g3, g4, g5.below hb⟩

theorem nodeInfo : (Try.prog.info? 98).map (fun i => (i.zero, i.size, i.bytes)) = some (some (.agg #[.int .i64 0, .int .i64 0, .int .i64 0, .string ⟨#[]⟩, .slice none 0 0]), 5, 64) := by kernel_rfl

theorem set_five {cs : Array Value} {k j : Nat} {a b c d e : Value} (h : k * 5 + 4 < cs.size) :
    (j = k → (((((cs.setIfInBounds (k * 5) a).setIfInBounds (k * 5 + 1) b).setIfInBounds (k * 5 + 2) c).setIfInBounds (k * 5 + 3) d).setIfInBounds (k * 5 + 4) e)[j * 5]? = some a ∧
      (((((cs.setIfInBounds (k * 5) a).setIfInBounds (k * 5 + 1) b).setIfInBounds (k * 5 + 2) c).setIfInBounds (k * 5 + 3) d).setIfInBounds (k * 5 + 4) e)[j * 5 + 1]? = some b ∧
      (((((cs.setIfInBounds (k * 5) a).setIfInBounds (k * 5 + 1) b).setIfInBounds (k * 5 + 2) c).setIfInBounds (k * 5 + 3) d).setIfInBounds (k * 5 + 4) e)[j * 5 + 2]? = some c ∧
      (((((cs.setIfInBounds (k * 5) a).setIfInBounds (k * 5 + 1) b).setIfInBounds (k * 5 + 2) c).setIfInBounds (k * 5 + 3) d).setIfInBounds (k * 5 + 4) e)[j * 5 + 3]? = some d ∧
      (((((cs.setIfInBounds (k * 5) a).setIfInBounds (k * 5 + 1) b).setIfInBounds (k * 5 + 2) c).setIfInBounds (k * 5 + 3) d).setIfInBounds (k * 5 + 4) e)[j * 5 + 4]? = some e) ∧
    (j ≠ k → ∀ m, m < 5 → (((((cs.setIfInBounds (k * 5) a).setIfInBounds (k * 5 + 1) b).setIfInBounds (k * 5 + 2) c).setIfInBounds (k * 5 + 3) d).setIfInBounds (k * 5 + 4) e)[j * 5 + m]? = cs[j * 5 + m]?) := by
  constructor
  · rintro rfl
    simp only [Array.getElem?_setIfInBounds, Array.size_setIfInBounds]
    refine ⟨?_, ?_, ?_, ?_, ?_⟩ <;> (repeat rw [if_neg (by omega)]) <;> rw [if_pos trivial, if_pos (by omega)]
  · intro hne m hm
    simp only [Array.getElem?_setIfInBounds, Array.size_setIfInBounds]
    repeat rw [if_neg (by omega)]

theorem five_world (w1 : World) (B i : Nat) (a b c d e : Value) {cs : Array Value} {t : TypeId} (hh : w1.heap[B]? = some (.cells cs t (0, 0))) :
    (((((w1.setCell ⟨B, i, none⟩ a).setCell ⟨B, i + 1, none⟩ b).setCell ⟨B, i + 2, none⟩ c).setCell ⟨B, i + 3, none⟩ d).setCell ⟨B, i + 4, none⟩ e).heap[B]? = some (.cells (((((cs.setIfInBounds i a).setIfInBounds (i + 1) b).setIfInBounds (i + 2) c).setIfInBounds (i + 3) d).setIfInBounds (i + 4) e) t (0, 0)) ∧
    ∀ m, m ≠ B → (((((w1.setCell ⟨B, i, none⟩ a).setCell ⟨B, i + 1, none⟩ b).setCell ⟨B, i + 2, none⟩ c).setCell ⟨B, i + 3, none⟩ d).setCell ⟨B, i + 4, none⟩ e).heap[m]? = w1.heap[m]? := by
  constructor
  · exact heap_setCell_same _ _ _ _ _ _ (heap_setCell_same _ _ _ _ _ _ (heap_setCell_same _ _ _ _ _ _ (heap_setCell_same _ _ _ _ _ _ (heap_setCell_same _ _ _ _ _ _ hh))))
  · intro m hm
    iterate 5 rw [heap_setCell_other _ _ _ _ (by exact hm)]

set_option maxHeartbeats 1000000 in
set_option maxRecDepth 100000 in
theorem toNodes_any (n₀ : Nat) (v : Value) (l : List PNode) (w : World) (h : NodesAt n₀ w v l) (hn : n₀ ≤ w.heap.size) (hl : l.length ≤ 1048576) (hkl : ∀ x ∈ l, x.kids.length ≤ 1048576) :
    Calls Try.prog 34 #[v] w fun e w' => ∃ u, e = .returned u ∧ NodesOwn w.heap.size w'.heap.size w' u l ∧ Below w.heap.size w w' := by
  obtain ⟨i0, hi, hz0, hz1, hz2⟩ := info_parts nodeInfo
  have hmk : ∀ w, (Instr.makeSlice 29 (.int .i64 (l.length : Int)) (.int .i64 (l.length : Int))).run Try.prog w = .ok (.slice (some ⟨w.heap.size, 0, none⟩) l.length l.length) (w.alloc (.cells (madeCells #[.int .i64 0, .int .i64 0, .int .i64 0, .string ⟨#[]⟩, .slice none 0 0] (l.length * 5)) 98)) := fun w => by
    have := run_make (P := Try.prog) w 29 98 i0 (.agg #[.int .i64 0, .int .i64 0, .int .i64 0, .string ⟨#[]⟩, .slice none 0 0]) Try.underlying29 hi hz0 .i64 .i64 l.length l.length (by omega) (Int.le_refl _) (by rw [hz2]; omega) (by omega)
    simpa [hz1, Value.cells] using this
  obtain ⟨a, cap, rfl, hk⟩ := h
  have HKL := hide hkl
  clear hi hz0 hz1 hz2 hkl
  go_enter Try.func34, Try.ntmps34
  go_wp2_with fail
  go_loopw [4] (fun i wr => ∃ (k : Nat) (cs : Array Value), k ≤ l.length ∧ i = .int .i64 k ∧ Hid (wr.heap[w.heap.size]? = some (.cells cs 98 (0, 0))) ∧ cs.size = l.length * 5 ∧ Hid (∀ j, j < k → ∃ kv, cs[j * 5]? = some (.int .i64 (l[j]?.getD nodeNil).id) ∧ cs[j * 5 + 1]? = some (.int .i64 (l[j]?.getD nodeNil).kind) ∧ cs[j * 5 + 2]? = some (.int .i64 (l[j]?.getD nodeNil).attr) ∧ cs[j * 5 + 3]? = some (.string (l[j]?.getD nodeNil).text) ∧ cs[j * 5 + 4]? = some kv ∧ IntsOwn (w.heap.size + 1) wr.heap.size wr kv (l[j]?.getD nodeNil).kids) ∧ Below w.heap.size w wr) (fun i _ => l.length - (intOf i).toNat)
  case atStart => exact ⟨0, _, Nat.zero_le _, rfl, alloc_new w _, size_madeCells _ _, fun j hj => by omega, (Below.refl _ _).alloc (Nat.le_refl _) _⟩
  case round =>
    obtain ⟨k, cs, hkl, rfl, hh, hcs, hall, hbr⟩ := hrel
    have hlt2 : w.heap.size < wr.heap.size := (Array.getElem?_eq_some_iff.1 hh.out).1
    by_cases hlt : k < l.length
    · obtain ⟨b, off, rfl, hb, hc⟩ := hk.resolve_left (by intro e; simp [e] at hlt)
      have hA := (hc k hlt).below hb (Nat.le_refl _) (hbr.mono hn)
      have hlx := HKL.out (l[k]?.getD nodeNil) (by simp [hlt])
      have g0 := hA.c0
      have g1 := hA.c1
      have g2 := hA.c2
      have g3 := hA.c3
      obtain ⟨kv, g4, hi⟩ := hA.c4
      have HCall := hide (toNode_any n₀ (.agg #[.int .i64 (l[k]?.getD nodeNil).id, .int .i64 (l[k]?.getD nodeNil).kind, .int .i64 (l[k]?.getD nodeNil).attr, .string (l[k]?.getD nodeNil).text, kv]) (l[k]?.getD nodeNil) wr ⟨kv, rfl, hi⟩ (by omega) hlx)
      obtain ⟨ak, ck, rfl, -⟩ := hi
      have hbw : b < wr.heap.size := by omega
      clear hA hc hk
      generalize hx : l[k]?.getD nodeNil = x at *
      have HX := hide hx
      clear hx
      go_wp2_with fail
      refine HCall.out.mono ?_
      rintro e w1 ⟨ku, rfl, hown, hb1, hs1⟩
      have hh1 : w1.heap[w.heap.size]? = some (.cells cs 98 (0, 0)) := (hb1.block _ hlt2).trans hh.out
      have hf1 : ∀ j, w1.frozen? ⟨w.heap.size, j, none⟩ = false := fun j => frozen_of_heap hh1 j
      have hc1 : ∀ j, j < cs.size → ∃ u, w1.cell? ⟨w.heap.size, j, none⟩ = some u := fun j hj => by rw [cell_of_heap hh1]; exact ⟨cs[j], by simp [hj]⟩
      obtain ⟨o0, p0⟩ := hc1 (k * 5) (by omega)
      obtain ⟨o1, p1⟩ := hc1 (k * 5 + 1) (by omega)
      obtain ⟨o2, p2⟩ := hc1 (k * 5 + 2) (by omega)
      obtain ⟨o3, p3⟩ := hc1 (k * 5 + 3) (by omega)
      obtain ⟨o4, p4⟩ := hc1 (k * 5 + 4) (by omega)
      have HOwn := hide hown
      obtain ⟨bo, co, cs', rfl, hlo, hhi, hbo, -⟩ := hown
      clear hc1 HCall hbo
      obtain ⟨q1, q2⟩ := five_world w1 w.heap.size (k * 5) (.int .i64 x.id) (.int .i64 x.kind) (.int .i64 x.attr) (.string x.text) (.slice (some ⟨bo, 0, none⟩) x.kids.length co) hh1
      have HQ1 := hide q1
      have HB5 : Hid (Below w.heap.size w (((((w1.setCell ⟨w.heap.size, k * 5, none⟩ (.int .i64 x.id)).setCell ⟨w.heap.size, k * 5 + 1, none⟩ (.int .i64 x.kind)).setCell ⟨w.heap.size, k * 5 + 2, none⟩ (.int .i64 x.attr)).setCell ⟨w.heap.size, k * 5 + 3, none⟩ (.string x.text)).setCell ⟨w.heap.size, k * 5 + 4, none⟩ (.slice (some ⟨bo, 0, none⟩) x.kids.length co))) :=
        (((((hbr.trans (hb1.mono (by omega))).setCell (p := ⟨w.heap.size, k * 5, none⟩) (Nat.le_refl _) _).setCell (p := ⟨w.heap.size, k * 5 + 1, none⟩) (Nat.le_refl _) _).setCell (p := ⟨w.heap.size, k * 5 + 2, none⟩) (Nat.le_refl _) _).setCell (p := ⟨w.heap.size, k * 5 + 3, none⟩) (Nat.le_refl _) _).setCell (p := ⟨w.heap.size, k * 5 + 4, none⟩) (Nat.le_refl _) _
      have HAll2 : Hid (∀ j, j < k + 1 → ∃ kv, (((((cs.setIfInBounds (k * 5) (.int .i64 x.id)).setIfInBounds (k * 5 + 1) (.int .i64 x.kind)).setIfInBounds (k * 5 + 2) (.int .i64 x.attr)).setIfInBounds (k * 5 + 3) (.string x.text)).setIfInBounds (k * 5 + 4) (.slice (some ⟨bo, 0, none⟩) x.kids.length co))[j * 5]? = some (.int .i64 (l[j]?.getD nodeNil).id) ∧ (((((cs.setIfInBounds (k * 5) (.int .i64 x.id)).setIfInBounds (k * 5 + 1) (.int .i64 x.kind)).setIfInBounds (k * 5 + 2) (.int .i64 x.attr)).setIfInBounds (k * 5 + 3) (.string x.text)).setIfInBounds (k * 5 + 4) (.slice (some ⟨bo, 0, none⟩) x.kids.length co))[j * 5 + 1]? = some (.int .i64 (l[j]?.getD nodeNil).kind) ∧ (((((cs.setIfInBounds (k * 5) (.int .i64 x.id)).setIfInBounds (k * 5 + 1) (.int .i64 x.kind)).setIfInBounds (k * 5 + 2) (.int .i64 x.attr)).setIfInBounds (k * 5 + 3) (.string x.text)).setIfInBounds (k * 5 + 4) (.slice (some ⟨bo, 0, none⟩) x.kids.length co))[j * 5 + 2]? = some (.int .i64 (l[j]?.getD nodeNil).attr) ∧ (((((cs.setIfInBounds (k * 5) (.int .i64 x.id)).setIfInBounds (k * 5 + 1) (.int .i64 x.kind)).setIfInBounds (k * 5 + 2) (.int .i64 x.attr)).setIfInBounds (k * 5 + 3) (.string x.text)).setIfInBounds (k * 5 + 4) (.slice (some ⟨bo, 0, none⟩) x.kids.length co))[j * 5 + 3]? = some (.string (l[j]?.getD nodeNil).text) ∧ (((((cs.setIfInBounds (k * 5) (.int .i64 x.id)).setIfInBounds (k * 5 + 1) (.int .i64 x.kind)).setIfInBounds (k * 5 + 2) (.int .i64 x.attr)).setIfInBounds (k * 5 + 3) (.string x.text)).setIfInBounds (k * 5 + 4) (.slice (some ⟨bo, 0, none⟩) x.kids.length co))[j * 5 + 4]? = some kv ∧ IntsOwn (w.heap.size + 1) (((((w1.setCell ⟨w.heap.size, k * 5, none⟩ (.int .i64 x.id)).setCell ⟨w.heap.size, k * 5 + 1, none⟩ (.int .i64 x.kind)).setCell ⟨w.heap.size, k * 5 + 2, none⟩ (.int .i64 x.attr)).setCell ⟨w.heap.size, k * 5 + 3, none⟩ (.string x.text)).setCell ⟨w.heap.size, k * 5 + 4, none⟩ (.slice (some ⟨bo, 0, none⟩) x.kids.length co)).heap.size (((((w1.setCell ⟨w.heap.size, k * 5, none⟩ (.int .i64 x.id)).setCell ⟨w.heap.size, k * 5 + 1, none⟩ (.int .i64 x.kind)).setCell ⟨w.heap.size, k * 5 + 2, none⟩ (.int .i64 x.attr)).setCell ⟨w.heap.size, k * 5 + 3, none⟩ (.string x.text)).setCell ⟨w.heap.size, k * 5 + 4, none⟩ (.slice (some ⟨bo, 0, none⟩) x.kids.length co)) kv (l[j]?.getD nodeNil).kids) := by
        intro j hj
        obtain ⟨f1, f2⟩ := @set_five cs k j (.int .i64 x.id) (.int .i64 x.kind) (.int .i64 x.attr) (.string x.text) (.slice (some ⟨bo, 0, none⟩) x.kids.length co) (by omega)
        by_cases e : j = k
        · obtain ⟨a0, a1, a2, a3, a4⟩ := f1 e
          rw [e, HX.out] at *
          exact ⟨_, a0, a1, a2, a3, a4, HOwn.out.heap (by omega) (by simp) fun b h3 _ => q2 b (by omega)⟩
        · obtain ⟨kv, b0, b1, b2, b3, b4, b5⟩ := hall.out j (by omega)
          have g := f2 e
          have g00 := g 0 (by omega)
          rw [Nat.add_zero] at g00
          refine ⟨kv, g00.trans b0, (g 1 (by omega)).trans b1, (g 2 (by omega)).trans b2, (g 3 (by omega)).trans b3, (g 4 (by omega)).trans b4, b5.heap (Nat.le_refl _) (by simp; omega) fun b h3 h4 => (q2 b (by omega)).trans (hb1.block b h4)⟩
      have hsz5 : (((((cs.setIfInBounds (k * 5) (.int .i64 x.id)).setIfInBounds (k * 5 + 1) (.int .i64 x.kind)).setIfInBounds (k * 5 + 2) (.int .i64 x.attr)).setIfInBounds (k * 5 + 3) (.string x.text)).setIfInBounds (k * 5 + 4) (.slice (some ⟨bo, 0, none⟩) x.kids.length co)).size = l.length * 5 := by simp [hcs]
      have HSz := hide hsz5
      clear q1 q2 hsz5 hall hh hh1
      go_wp2_with fail
      exact ⟨⟨k + 1, _, by omega, by go_num, HQ1, HSz.out, HAll2, HB5.out⟩, by simp [intOf]; omega⟩
    · clear hk
      go_wp2_with fail
      go_ret
      exact ⟨_, rfl, ⟨w.heap.size, l.length, cs, rfl, Nat.le_refl _, hlt2, hh.out, fun j hj => hall.out j (by omega)⟩, hbr⟩
end Go.Proofs.Ytfjhpfgffbghdaa

namespace Go.Proofs.Ytfjhpfgffbghdaa
open Go.RowKit

/-- The value is a document in memory of its own. -/
def DocOwn (lo hi : Nat) (w : World) (v : Value) (d : PDoc) : Prop :=
  ∃ s, v = .agg #[.int .i64 d.root, .int .i64 d.next, s] ∧ NodesOwn lo hi w s d.nodes

theorem DocOwn.at {lo hi : Nat} {w : World} {v : Value} {d : PDoc} (h : DocOwn lo hi w v d) : DocAt hi w v d := by
  obtain ⟨s, rfl, h⟩ := h
  exact ⟨s, rfl, h.at⟩

theorem DocOwn.below {lo hi : Nat} {w w' : World} {v : Value} {d : PDoc} (h : DocOwn lo hi w v d) (hb : Below hi w w') : DocOwn lo hi w' v d := by
  obtain ⟨s, rfl, h⟩ := h
  exact ⟨s, rfl, h.below hb⟩

theorem DocAt.form {n₀ : Nat} {w : World} {v : Value} {d : PDoc} (h : DocAt n₀ w v d) : ∃ a cap, v = .agg #[.int .i64 d.root, .int .i64 d.next, .slice a d.nodes.length cap] ∧ NodesAt n₀ w (.slice a d.nodes.length cap) d.nodes := by
  obtain ⟨s, rfl, hk⟩ := h
  have hk' := hk
  obtain ⟨a, cap, rfl, -⟩ := hk
  exact ⟨a, cap, rfl, hk'⟩

theorem NodesOwn.heap {lo hi lo' hi' : Nat} {w w' : World} {v : Value} {l : List PNode} (h : NodesOwn lo hi w v l) (hl : lo' ≤ lo) (hh : hi ≤ hi') (hb : ∀ b, lo ≤ b → b < hi → w'.heap[b]? = w.heap[b]?) : NodesOwn lo' hi' w' v l := by
  obtain ⟨b, cap, cs, rfl, h1, h2, h3, h4⟩ := h
  refine ⟨b, cap, cs, rfl, by omega, by omega, (hb b h1 h2).trans h3, fun j hj => ?_⟩
  obtain ⟨kv, g0, g1, g2, g3, g4, g5⟩ := h4 j hj
  exact ⟨kv, g0, g1, g2, g3, g4, g5.heap (Nat.le_refl _) hh fun b h6 h7 => hb b (by omega) h7⟩

/-- Small enough for the laws. -/
structure Small (d : PDoc) : Prop where
  len : d.nodes.length ≤ 1048576
  kids : ∀ x ∈ d.nodes, x.kids.length ≤ 1048576
  text : ∀ x ∈ d.nodes, x.text.size ≤ 1048576

set_option maxHeartbeats 1000000 in
set_option maxRecDepth 100000 in
theorem toDoc_any (n₀ : Nat) (v : Value) (d : PDoc) (w : World) (h : DocAt n₀ w v d) (hn : n₀ ≤ w.heap.size) (S : Small d) :
    Calls Try.prog 11 #[v] w fun e w' => ∃ u, e = .returned u ∧ DocOwn w.heap.size w'.heap.size w' u d ∧ Below w.heap.size w w' := by
  obtain ⟨s, rfl, hk⟩ := h
  have HT : Hid (∀ w1, Below w.heap.size w w1 → Calls Try.prog 34 #[s] w1 fun e w' => ∃ u, e = .returned u ∧ NodesOwn w1.heap.size w'.heap.size w' u d.nodes ∧ Below w1.heap.size w1 w') := fun w1 hb =>
    toNodes_any n₀ s d.nodes w1 (hk.below (Nat.le_refl _) (hb.mono hn)) (by have := hb.size; omega) S.len S.kids
  obtain ⟨a, cap, rfl, -⟩ := hk
  clear S
  have hW3 := (((Below.refl w.heap.size w).alloc (Nat.le_refl _) (.cells #[.int .i64 d.root, .int .i64 d.next, .slice a d.nodes.length cap] 24)).alloc (by simp) (.cells #[.int .i64 0, .int .i64 0, .slice none 0 0] 31)).alloc (by simp; omega) (.cells #[.int .i64 d.root, .int .i64 d.next, .slice none 0 0] 31)
  go_enter Try.func11, Try.ntmps11
  go_wp2_with fail
  refine (HT.out _ hW3).mono ?_
  rintro e w1 ⟨u, rfl, hown, hb1⟩
  simp only [World.size_alloc] at hown hb1
  have hlt := hb1.size
  simp only [World.size_alloc] at hlt
  have hb1' := hW3.trans (hb1.mono (by omega))
  have hcx : ∀ b o, b < w.heap.size + 1 + 1 + 1 → w1.cell? ⟨b, o, none⟩ = _ := fun b o h => hb1.cell (p := ⟨b, o, none⟩) h
  have hfx : ∀ b o, b < w.heap.size + 1 + 1 + 1 → w1.frozen? ⟨b, o, none⟩ = _ := fun b o h => hb1.frozen (p := ⟨b, o, none⟩) h
  have hz1 : w.heap.size + 1 < w1.heap.size := by omega
  have hz2 : w.heap.size + 1 + 1 < w1.heap.size := by omega
  have HOwn := hide hown
  obtain ⟨bo, co, cs, rfl, hlo, hhi, hbo, -⟩ := hown
  have HHeap : Hid (∀ w2 : World, (∀ k, w.heap.size + 1 + 1 < k → w2.heap[k]? = w1.heap[k]?) → w2.heap.size = w1.heap.size → NodesOwn w.heap.size w2.heap.size w2 (.slice (some ⟨bo, 0, none⟩) d.nodes.length co) d.nodes) := fun w2 h2 hs2 =>
    HOwn.out.heap (by omega) (by omega) fun k h3 _ => h2 k (by omega)
  clear hbo HT
  go_wp2_with fail
  refine bodyPost_ret (v := .agg #[.int .i64 d.root, .int .i64 d.next, .slice (some ⟨bo, 0, none⟩) d.nodes.length co]) (by simp [results, Try.results11, go_sem, hcx]) rfl ⟨_, rfl, ⟨_, rfl, HHeap.out _ ?_ (by simp)⟩, ?_⟩
  · intro k hk
    iterate 4 rw [heap_setCell_other _ _ _ _ (by show k ≠ _; simp; omega)]
  · exact (((hb1'.setCell (p := ⟨w.heap.size + 1 + 1, 2, none⟩) (by simp; omega) _).setCell (p := ⟨w.heap.size + 1, 0, none⟩) (by simp) _).setCell (p := ⟨w.heap.size + 1, 1, none⟩) (by simp) _).setCell (p := ⟨w.heap.size + 1, 2, none⟩) (by simp) _

set_option maxHeartbeats 400000 in
theorem szNode_any (x : PNode) (a : Option Addr) (cap : Nat) (c : Int) (w : World) (h0 : 0 ≤ c) (h1 : c ≤ 1048576) (hl : x.kids.length ≤ 9223372036854775807) (ht : x.text.size ≤ 9223372036854775807) :
    Calls Try.prog 54 #[.agg #[.int .i64 x.id, .int .i64 x.kind, .int .i64 x.attr, .string x.text, .slice a x.kids.length cap], .int .i64 c] w fun e w' => ∃ r, e = .returned (.int .i64 r) ∧ -1 ≤ r ∧ r ≤ c ∧ (0 ≤ r → x.kids.length ≤ 1048576 ∧ x.text.size ≤ 1048576) ∧ Below w.heap.size w w' := by
  by_cases h : c - x.text.size < 0
  · go_enter Try.func54, Try.ntmps54
    go_wp2_with fail
    go_ret
    exact ⟨_, rfl, by omega, by omega, by omega, (Below.refl _ _).alloc (Nat.le_refl _) _⟩
  · have HS := hide (fun w1 => szInts_any a x.kids.length cap (c - x.text.size) w1 (by omega) (by omega) hl)
    go_enter Try.func54, Try.ntmps54
    go_wp2_with fail
    refine (HS.out _).mono ?_
    rintro e w1 ⟨r, rfl, hr1, hr2, hr3, rfl⟩
    by_cases hr : r < 0
    · go_wp2_with fail
      go_ret
      exact ⟨_, rfl, by omega, by omega, by omega, (Below.refl _ _).alloc (Nat.le_refl _) _⟩
    · have HR := hide hr3
      clear hr3
      go_wp2_with fail
      go_ret
      exact ⟨_, rfl, by omega, by omega, fun h => ⟨HR.out h, by omega⟩, (Below.refl _ _).alloc (Nat.le_refl _) _⟩

set_option maxHeartbeats 1000000 in
set_option maxRecDepth 100000 in
theorem szNodes_any (n₀ : Nat) (v : Value) (l : List PNode) (c : Int) (w : World) (h : NodesAt n₀ w v l) (hn : n₀ ≤ w.heap.size) (h0 : 0 ≤ c) (h1 : c ≤ 1048576) (hl : l.length ≤ 9223372036854775807) (hk : ∀ x ∈ l, x.kids.length ≤ 9223372036854775807 ∧ x.text.size ≤ 9223372036854775807) :
    Calls Try.prog 31 #[v, .int .i64 c] w fun e w' => ∃ r, e = .returned (.int .i64 r) ∧ -1 ≤ r ∧ r ≤ c ∧ (0 ≤ r → l.length ≤ 1048576 ∧ ∀ x ∈ l, x.kids.length ≤ 1048576 ∧ x.text.size ≤ 1048576) ∧ Below w.heap.size w w' := by
  obtain ⟨a, cap, rfl, hk'⟩ := h
  have HK := hide hk
  clear hk
  by_cases h : c - l.length < 0
  · clear hk'
    go_enter Try.func31, Try.ntmps31
    go_wp2_with fail
    go_ret
    exact ⟨_, rfl, by omega, by omega, by omega, Below.refl _ _⟩
  · go_enter Try.func31, Try.ntmps31
    go_wp2_with fail
    go_loopw [1, 5] (fun cv i wr => ∃ (k : Nat) (r : Int), k ≤ l.length ∧ i = .int .i64 k ∧ cv = .int .i64 r ∧ 0 ≤ r ∧ r ≤ c ∧ Hid (∀ x ∈ l.take k, x.kids.length ≤ 1048576 ∧ x.text.size ≤ 1048576) ∧ Below w.heap.size w wr) (fun _ i _ => l.length - (intOf i).toNat)
    case atStart => exact ⟨0, _, Nat.zero_le _, rfl, rfl, by omega, by omega, by simp [Hid], Below.refl _ _⟩
    case round =>
      obtain ⟨k, r, hkl, rfl, rfl, hr0, hrc, hall, hbr⟩ := hrel
      have hsz := hbr.size
      by_cases hlt : k < l.length
      · obtain ⟨b, off, rfl, hb, hc⟩ := hk'.resolve_left (by intro e; simp [e] at hlt)
        have hA := (hc k hlt).below hb (Nat.le_refl _) (hbr.mono hn)
        have hlx := HK.out (l[k]?.getD nodeNil) (by simp [hlt])
        have g0 := hA.c0
        have g1 := hA.c1
        have g2 := hA.c2
        have g3 := hA.c3
        obtain ⟨kv, g4, ak, ck, rfl, -⟩ := hA.c4
        have HCall := hide (szNode_any (l[k]?.getD nodeNil) ak ck r wr hr0 (by omega) hlx.1 hlx.2)
        have HSn := hide (@take_no_snoc l k hlt (fun x => x.kids.length ≤ 1048576 ∧ x.text.size ≤ 1048576) hall.out)
        have hbw : b < wr.heap.size := by omega
        clear hA hc hk' hlx hall
        generalize l[k]?.getD nodeNil = x at *
        go_wp2_with fail
        refine HCall.out.mono ?_
        rintro e w1 ⟨r1, rfl, hr1, hr2, hr3, hb1⟩
        by_cases hr : r1 < 0
        · clear hr3
          go_wp2_with fail
          go_ret
          exact ⟨_, rfl, by omega, by omega, by omega, hbr.trans (hb1.mono hsz)⟩
        · have HA2 := hide (HSn.out (hr3 (by omega)))
          clear hr3 HCall
          go_wp2_with fail
          exact ⟨⟨k + 1, r1, by omega, by go_num, rfl, by omega, by omega, HA2, hbr.trans (hb1.mono hsz)⟩, by simp [intOf]; omega⟩
      · have HA2 : Hid (∀ x ∈ l, x.kids.length ≤ 1048576 ∧ x.text.size ≤ 1048576) := by have := hall.out; rwa [List.take_of_length_le (by omega)] at this
        clear hk' hall
        go_wp2_with fail
        go_ret
        exact ⟨_, rfl, by omega, by omega, fun _ => ⟨by omega, HA2.out⟩, hbr⟩

/-- Lists and texts that the model's memory can hold. -/
structure Fits (d : PDoc) : Prop where
  len : d.nodes.length ≤ 9223372036854775807
  nodes : ∀ x ∈ d.nodes, x.kids.length ≤ 9223372036854775807 ∧ x.text.size ≤ 9223372036854775807

set_option maxHeartbeats 400000 in
theorem szDoc_any (n₀ : Nat) (v : Value) (d : PDoc) (c : Int) (w : World) (h : DocAt n₀ w v d) (hn : n₀ ≤ w.heap.size) (h0 : 0 ≤ c) (h1 : c ≤ 1048576) (hf : Fits d) :
    Calls Try.prog 8 #[v, .int .i64 c] w fun e w' => ∃ r, e = .returned (.int .i64 r) ∧ -1 ≤ r ∧ r ≤ c ∧ (0 ≤ r → Small d) ∧ Below w.heap.size w w' := by
  obtain ⟨s, rfl, hk⟩ := h
  have hW := (Below.refl w.heap.size w).alloc (Nat.le_refl _) (.cells #[.int .i64 d.root, .int .i64 d.next, s] 24)
  have HS := hide (szNodes_any n₀ s d.nodes c (w.alloc (.cells #[.int .i64 d.root, .int .i64 d.next, s] 24)) (hk.below (Nat.le_refl _) (hW.mono hn)) (by simp; omega) h0 h1 hf.len hf.nodes)
  obtain ⟨a, cap, rfl, -⟩ := hk
  clear hf
  go_enter Try.func8, Try.ntmps8
  go_wp2_with fail
  refine HS.out.mono ?_
  rintro e w1 ⟨r, rfl, hr1, hr2, hr3, hb1⟩
  simp only [World.size_alloc] at hb1
  have HR : Hid (0 ≤ r → Small d) := fun h => ⟨(hr3 h).1, fun x hx => ((hr3 h).2 x hx).1, fun x hx => ((hr3 h).2 x hx).2⟩
  clear hr3
  by_cases hr : r < 0
  · go_wp2_with fail
    go_ret
    exact ⟨_, rfl, by omega, by omega, by omega, hW.trans (hb1.mono (by omega))⟩
  · go_wp2_with fail
    go_ret
    exact ⟨_, rfl, by omega, by omega, HR.out, hW.trans (hb1.mono (by omega))⟩
end Go.Proofs.Ytfjhpfgffbghdaa
