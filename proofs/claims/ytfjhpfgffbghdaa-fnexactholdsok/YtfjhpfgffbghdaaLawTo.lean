/-
  The law package's copies of a document: new memory of their own, with the same content; and how large a document is.
-/
import Derived.Test.YtfjhpfgffbghdaaLawEq
import Derived.Laws.MakeOwn
import Derived.Laws.Rows
namespace Go.Proofs.Ytfjhpfgffbghdaa
open Go.RowKit

set_option maxHeartbeats 1000000 in
set_option maxRecDepth 100000 in
theorem toNode_any (n₀ : Nat) (v : Value) (x : PNode) (w : World) (h : NodeVal n₀ w v x) (hn : n₀ ≤ w.heap.size) (hl : x.kids.length ≤ 1048576) :
    Calls Try.prog 61 #[v] w fun e w' => ∃ kv, e = .returned (.agg #[.int .i64 x.id, .int .i64 x.kind, .int .i64 x.attr, .string x.text, kv]) ∧ IntsOwn w.heap.size w'.heap.size w' kv x.kids ∧ Below w.heap.size w w' ∧ w.heap.size < w'.heap.size := by
  obtain ⟨kv, rfl, hk⟩ := h
  have HT : Hid (∀ w1, Below w.heap.size w w1 → Calls Try.prog 82 #[kv] w1 fun e w' => ∃ u, e = .returned u ∧ IntsOwn w1.heap.size w'.heap.size w' u x.kids ∧ Below w1.heap.size w1 w' ∧ w1.heap.size < w'.heap.size) := fun w1 hb =>
    toInts_any n₀ kv x.kids w1 (hk.below (Nat.le_refl _) (hb.mono hn)) (by have := hb.size; omega) hl
  obtain ⟨a, cap, rfl, -⟩ := hk
  have hW3 := (((Below.refl w.heap.size w).alloc (Nat.le_refl _) (.cells #[.int .i64 x.id, .int .i64 x.kind, .int .i64 x.attr, .string x.text, .slice a x.kids.length cap] 94)).alloc (by simp) (.cells #[.int .i64 0, .int .i64 0, .int .i64 0, .string ⟨#[]⟩, .slice none 0 0] 98)).alloc (by simp; omega) (.cells #[.int .i64 x.id, .int .i64 x.kind, .int .i64 x.attr, .string x.text, .slice none 0 0] 98)
  go_enter Try.func61, Try.ntmps61
  go_wp2_with fail
  refine (HT.out _ hW3).mono ?_
  rintro e w1 ⟨u, rfl, hown, hb1, hlt⟩
  simp only [World.size_alloc] at hown hb1 hlt
  have hb1' := hW3.trans (hb1.mono (by omega))
  have hcx : ∀ b o, b < w.heap.size + 1 + 1 + 1 → w1.cell? ⟨b, o, none⟩ = _ := fun b o h => hb1.cell (p := ⟨b, o, none⟩) h
  have hfx : ∀ b o, b < w.heap.size + 1 + 1 + 1 → w1.frozen? ⟨b, o, none⟩ = _ := fun b o h => hb1.frozen (p := ⟨b, o, none⟩) h
  have hz1 : w.heap.size + 1 < w1.heap.size := by omega
  have hz2 : w.heap.size + 1 + 1 < w1.heap.size := by omega
  have HOwn := hide hown
  obtain ⟨bo, co, cs, rfl, hlo, hhi, hbo, -⟩ := hown
  have HHeap : Hid (∀ w2 : World, (∀ k, w.heap.size + 1 + 1 < k → w2.heap[k]? = w1.heap[k]?) → w2.heap.size = w1.heap.size → IntsOwn w.heap.size w2.heap.size w2 (.slice (some ⟨bo, 0, none⟩) x.kids.length co) x.kids) := fun w2 h2 hs2 =>
    HOwn.out.heap (by omega) (by omega) fun k h3 _ => h2 k (by omega)
  clear hbo HT
  go_wp2_with fail
  refine bodyPost_ret (v := .agg #[.int .i64 x.id, .int .i64 x.kind, .int .i64 x.attr, .string x.text, .slice (some ⟨bo, 0, none⟩) x.kids.length co]) (by simp [results, Try.results61, go_sem, hcx]) rfl ⟨_, rfl, HHeap.out _ ?_ (by simp), ?_, by simp; omega⟩
  · intro k hk
    iterate 6 rw [heap_setCell_other _ _ _ _ (by show k ≠ _; simp; omega)]
  · exact (((((hb1'.setCell (p := ⟨w.heap.size + 1 + 1, 4, none⟩) (by simp; omega) _).setCell (p := ⟨w.heap.size + 1, 0, none⟩) (by simp) _).setCell (p := ⟨w.heap.size + 1, 1, none⟩) (by simp) _).setCell (p := ⟨w.heap.size + 1, 2, none⟩) (by simp) _).setCell (p := ⟨w.heap.size + 1, 3, none⟩) (by simp) _).setCell (p := ⟨w.heap.size + 1, 4, none⟩) (by simp) _

/-- A list of nodes in a block of its own, and the lists of their kids each in one of its own behind it. -/
def NodesOwn (lo hi : Nat) (w : World) (v : Value) (l : List PNode) : Prop :=
  ∃ b cap cs, v = .slice (some ⟨b, 0, none⟩) l.length cap ∧ lo ≤ b ∧ b < hi ∧ w.heap[b]? = some (.cells cs 98 (0, 0)) ∧
    ∀ j, j < l.length → ∃ kv, cs[j * 5]? = some (.int .i64 (l[j]?.getD nodeNil).id) ∧ cs[j * 5 + 1]? = some (.int .i64 (l[j]?.getD nodeNil).kind) ∧ cs[j * 5 + 2]? = some (.int .i64 (l[j]?.getD nodeNil).attr) ∧ cs[j * 5 + 3]? = some (.string (l[j]?.getD nodeNil).text) ∧ cs[j * 5 + 4]? = some kv ∧ IntsOwn (b + 1) hi w kv (l[j]?.getD nodeNil).kids

theorem NodesOwn.at {lo hi : Nat} {w : World} {v : Value} {l : List PNode} (h : NodesOwn lo hi w v l) : NodesAt hi w v l := by
  obtain ⟨b, cap, cs, rfl, h1, h2, h3, h4⟩ := h
  refine ⟨_, cap, rfl, .inr ⟨b, 0, rfl, h2, fun j hj => ?_⟩⟩
  obtain ⟨kv, g0, g1, g2, g3, g4, g5⟩ := h4 j hj
  rw [Nat.zero_add]
  exact ⟨by rw [cell_of_heap h3, g0], by rw [cell_of_heap h3, g1], by rw [cell_of_heap h3, g2], by rw [cell_of_heap h3, g3], kv, by rw [cell_of_heap h3, g4], g5.at⟩

theorem NodesOwn.below {lo hi : Nat} {w w' : World} {v : Value} {l : List PNode} (h : NodesOwn lo hi w v l) (hb : Below hi w w') : NodesOwn lo hi w' v l := by
  obtain ⟨b, cap, cs, rfl, h1, h2, h3, h4⟩ := h
  refine ⟨b, cap, cs, rfl, h1, h2, (hb.block b h2).trans h3, fun j hj => ?_⟩
  obtain ⟨kv, g0, g1, g2, g3, g4, g5⟩ := h4 j hj
  exact ⟨kv, g0, g1, g2, g3, g4, g5.below hb⟩

theorem nodeInfo : (Try.prog.info? 98).map (fun i => (i.zero, i.size, i.bytes)) = some (some (.agg #[.int .i64 0, .int .i64 0, .int .i64 0, .string ⟨#[]⟩, .slice none 0 0]), 5, 64) := by kernel_rfl

theorem set_five {cs : Array Value} {k j : Nat} {a b c d e : Value} (h : k * 5 + 4 < cs.size) :
    (j = k → (((((cs.setIfInBounds (k * 5) a).setIfInBounds (k * 5 + 1) b).setIfInBounds (k * 5 + 2) c).setIfInBounds (k * 5 + 3) d).setIfInBounds (k * 5 + 4) e)[j * 5]? = some a ∧
      (((((cs.setIfInBounds (k * 5) a).setIfInBounds (k * 5 + 1) b).setIfInBounds (k * 5 + 2) c).setIfInBounds (k * 5 + 3) d).setIfInBounds (k * 5 + 4) e)[j * 5 + 1]? = some b ∧
      (((((cs.setIfInBounds (k * 5) a).setIfInBounds (k * 5 + 1) b).setIfInBounds (k * 5 + 2) c).setIfInBounds (k * 5 + 3) d).setIfInBounds (k * 5 + 4) e)[j * 5 + 2]? = some c ∧
      (((((cs.setIfInBounds (k * 5) a).setIfInBounds (k * 5 + 1) b).setIfInBounds (k * 5 + 2) c).setIfInBounds (k * 5 + 3) d).setIfInBounds (k * 5 + 4) e)[j * 5 + 3]? = some d ∧
      (((((cs.setIfInBounds (k * 5) a).setIfInBounds (k * 5 + 1) b).setIfInBounds (k * 5 + 2) c).setIfInBounds (k * 5 + 3) d).setIfInBounds (k * 5 + 4) e)[j * 5 + 4]? = some e) ∧
    (j ≠ k → ∀ m, m < 5 → (((((cs.setIfInBounds (k * 5) a).setIfInBounds (k * 5 + 1) b).setIfInBounds (k * 5 + 2) c).setIfInBounds (k * 5 + 3) d).setIfInBounds (k * 5 + 4) e)[j * 5 + m]? = cs[j * 5 + m]?) := by
  constructor
  · rintro rfl
    simp only [Array.getElem?_setIfInBounds, Array.size_setIfInBounds]
    refine ⟨?_, ?_, ?_, ?_, ?_⟩ <;> (repeat rw [if_neg (by omega)]) <;> rw [if_pos trivial, if_pos (by omega)]
  · intro hne m hm
    simp only [Array.getElem?_setIfInBounds, Array.size_setIfInBounds]
    repeat rw [if_neg (by omega)]

theorem five_world (w1 : World) (B i : Nat) (a b c d e : Value) {cs : Array Value} {t : TypeId} (hh : w1.heap[B]? = some (.cells cs t (0, 0))) :
    (((((w1.setCell ⟨B, i, none⟩ a).setCell ⟨B, i + 1, none⟩ b).setCell ⟨B, i + 2, none⟩ c).setCell ⟨B, i + 3, none⟩ d).setCell ⟨B, i + 4, none⟩ e).heap[B]? = some (.cells (((((cs.setIfInBounds i a).setIfInBounds (i + 1) b).setIfInBounds (i + 2) c).setIfInBounds (i + 3) d).setIfInBounds (i + 4) e) t (0, 0)) ∧
    ∀ m, m ≠ B → (((((w1.setCell ⟨B, i, none⟩ a).setCell ⟨B, i + 1, none⟩ b).setCell ⟨B, i + 2, none⟩ c).setCell ⟨B, i + 3, none⟩ d).setCell ⟨B, i + 4, none⟩ e).heap[m]? = w1.heap[m]? := by
  constructor
  · exact heap_setCell_same _ _ _ _ _ _ (heap_setCell_same _ _ _ _ _ _ (heap_setCell_same _ _ _ _ _ _ (heap_setCell_same _ _ _ _ _ _ (heap_setCell_same _ _ _ _ _ _ hh))))
  · intro m hm
    iterate 5 rw [heap_setCell_other _ _ _ _ (by exact hm)]

set_option maxHeartbeats 1000000 in
set_option maxRecDepth 100000 in
theorem toNodes_any (n₀ : Nat) (v : Value) (l : List PNode) (w : World) (h : NodesAt n₀ w v l) (hn : n₀ ≤ w.heap.size) (hl : l.length ≤ 1048576) (hkl : ∀ x ∈ l, x.kids.length ≤ 1048576) :
    Calls Try.prog 34 #[v] w fun e w' => ∃ u, e = .returned u ∧ NodesOwn w.heap.size w'.heap.size w' u l ∧ Below w.heap.size w w' := by
  obtain ⟨i0, hi, hz0, hz1, hz2⟩ := info_parts nodeInfo
  have hmk : ∀ w, (Instr.makeSlice 29 (.int .i64 (l.length : Int)) (.int .i64 (l.length : Int))).run Try.prog w = .ok (.slice (some ⟨w.heap.size, 0, none⟩) l.length l.length) (w.alloc (.cells (madeCells #[.int .i64 0, .int .i64 0, .int .i64 0, .string ⟨#[]⟩, .slice none 0 0] (l.length * 5)) 98)) := fun w => by
    have := run_make (P := Try.prog) w 29 98 i0 (.agg #[.int .i64 0, .int .i64 0, .int .i64 0, .string ⟨#[]⟩, .slice none 0 0]) Try.underlying29 hi hz0 .i64 .i64 l.length l.length (by omega) (Int.le_refl _) (by rw [hz2]; omega) (by omega)
    simpa [hz1, Value.cells] using this
  obtain ⟨a, cap, rfl, hk⟩ := h
  have HKL := hide hkl
  clear hi hz0 hz1 hz2 hkl
  go_enter Try.func34, Try.ntmps34
  go_wp2_with fail
  go_loopw [4] (fun i wr => ∃ (k : Nat) (cs : Array Value), k ≤ l.length ∧ i = .int .i64 k ∧ Hid (wr.heap[w.heap.size]? = some (.cells cs 98 (0, 0))) ∧ cs.size = l.length * 5 ∧ Hid (∀ j, j < k → ∃ kv, cs[j * 5]? = some (.int .i64 (l[j]?.getD nodeNil).id) ∧ cs[j * 5 + 1]? = some (.int .i64 (l[j]?.getD nodeNil).kind) ∧ cs[j * 5 + 2]? = some (.int .i64 (l[j]?.getD nodeNil).attr) ∧ cs[j * 5 + 3]? = some (.string (l[j]?.getD nodeNil).text) ∧ cs[j * 5 + 4]? = some kv ∧ IntsOwn (w.heap.size + 1) wr.heap.size wr kv (l[j]?.getD nodeNil).kids) ∧ Below w.heap.size w wr) (fun i _ => l.length - (intOf i).toNat)
  case atStart => exact ⟨0, _, Nat.zero_le _, rfl, alloc_new w _, size_madeCells _ _, fun j hj => by omega, (Below.refl _ _).alloc (Nat.le_refl _) _⟩
  case round =>
    obtain ⟨k, cs, hkl, rfl, hh, hcs, hall, hbr⟩ := hrel
    have hlt2 : w.heap.size < wr.heap.size := (Array.getElem?_eq_some_iff.1 hh.out).1
    by_cases hlt : k < l.length
    · obtain ⟨b, off, rfl, hb, hc⟩ := hk.resolve_left (by intro e; simp [e] at hlt)
      have hA := (hc k hlt).below hb (Nat.le_refl _) (hbr.mono hn)
      have hlx := HKL.out (l[k]?.getD nodeNil) (by simp [hlt])
      have g0 := hA.c0
      have g1 := hA.c1
      have g2 := hA.c2
      have g3 := hA.c3
      obtain ⟨kv, g4, hi⟩ := hA.c4
      have HCall := hide (toNode_any n₀ (.agg #[.int .i64 (l[k]?.getD nodeNil).id, .int .i64 (l[k]?.getD nodeNil).kind, .int .i64 (l[k]?.getD nodeNil).attr, .string (l[k]?.getD nodeNil).text, kv]) (l[k]?.getD nodeNil) wr ⟨kv, rfl, hi⟩ (by omega) hlx)
      obtain ⟨ak, ck, rfl, -⟩ := hi
      have hbw : b < wr.heap.size := by omega
      clear hA hc hk
      generalize hx : l[k]?.getD nodeNil = x at *
      have HX := hide hx
      clear hx
      go_wp2_with fail
      refine HCall.out.mono ?_
      rintro e w1 ⟨ku, rfl, hown, hb1, hs1⟩
      have hh1 : w1.heap[w.heap.size]? = some (.cells cs 98 (0, 0)) := (hb1.block _ hlt2).trans hh.out
      have hf1 : ∀ j, w1.frozen? ⟨w.heap.size, j, none⟩ = false := fun j => frozen_of_heap hh1 j
      have hc1 : ∀ j, j < cs.size → ∃ u, w1.cell? ⟨w.heap.size, j, none⟩ = some u := fun j hj => by rw [cell_of_heap hh1]; exact ⟨cs[j], by simp [hj]⟩
      obtain ⟨o0, p0⟩ := hc1 (k * 5) (by omega)
      obtain ⟨o1, p1⟩ := hc1 (k * 5 + 1) (by omega)
      obtain ⟨o2, p2⟩ := hc1 (k * 5 + 2) (by omega)
      obtain ⟨o3, p3⟩ := hc1 (k * 5 + 3) (by omega)
      obtain ⟨o4, p4⟩ := hc1 (k * 5 + 4) (by omega)
      have HOwn := hide hown
      obtain ⟨bo, co, cs', rfl, hlo, hhi, hbo, -⟩ := hown
      clear hc1 HCall hbo
      obtain ⟨q1, q2⟩ := five_world w1 w.heap.size (k * 5) (.int .i64 x.id) (.int .i64 x.kind) (.int .i64 x.attr) (.string x.text) (.slice (some ⟨bo, 0, none⟩) x.kids.length co) hh1
      have HQ1 := hide q1
      have HB5 : Hid (Below w.heap.size w (((((w1.setCell ⟨w.heap.size, k * 5, none⟩ (.int .i64 x.id)).setCell ⟨w.heap.size, k * 5 + 1, none⟩ (.int .i64 x.kind)).setCell ⟨w.heap.size, k * 5 + 2, none⟩ (.int .i64 x.attr)).setCell ⟨w.heap.size, k * 5 + 3, none⟩ (.string x.text)).setCell ⟨w.heap.size, k * 5 + 4, none⟩ (.slice (some ⟨bo, 0, none⟩) x.kids.length co))) :=
        (((((hbr.trans (hb1.mono (by omega))).setCell (p := ⟨w.heap.size, k * 5, none⟩) (Nat.le_refl _) _).setCell (p := ⟨w.heap.size, k * 5 + 1, none⟩) (Nat.le_refl _) _).setCell (p := ⟨w.heap.size, k * 5 + 2, none⟩) (Nat.le_refl _) _).setCell (p := ⟨w.heap.size, k * 5 + 3, none⟩) (Nat.le_refl _) _).setCell (p := ⟨w.heap.size, k * 5 + 4, none⟩) (Nat.le_refl _) _
      have HAll2 : Hid (∀ j, j < k + 1 → ∃ kv, (((((cs.setIfInBounds (k * 5) (.int .i64 x.id)).setIfInBounds (k * 5 + 1) (.int .i64 x.kind)).setIfInBounds (k * 5 + 2) (.int .i64 x.attr)).setIfInBounds (k * 5 + 3) (.string x.text)).setIfInBounds (k * 5 + 4) (.slice (some ⟨bo, 0, none⟩) x.kids.length co))[j * 5]? = some (.int .i64 (l[j]?.getD nodeNil).id) ∧ (((((cs.setIfInBounds (k * 5) (.int .i64 x.id)).setIfInBounds (k * 5 + 1) (.int .i64 x.kind)).setIfInBounds (k * 5 + 2) (.int .i64 x.attr)).setIfInBounds (k * 5 + 3) (.string x.text)).setIfInBounds (k * 5 + 4) (.slice (some ⟨bo, 0, none⟩) x.kids.length co))[j * 5 + 1]? = some (.int .i64 (l[j]?.getD nodeNil).kind) ∧ (((((cs.setIfInBounds (k * 5) (.int .i64 x.id)).setIfInBounds (k * 5 + 1) (.int .i64 x.kind)).setIfInBounds (k * 5 + 2) (.int .i64 x.attr)).setIfInBounds (k * 5 + 3) (.string x.text)).setIfInBounds (k * 5 + 4) (.slice (some ⟨bo, 0, none⟩) x.kids.length co))[j * 5 + 2]? = some (.int .i64 (l[j]?.getD nodeNil).attr) ∧ (((((cs.setIfInBounds (k * 5) (.int .i64 x.id)).setIfInBounds (k * 5 + 1) (.int .i64 x.kind)).setIfInBounds (k * 5 + 2) (.int .i64 x.attr)).setIfInBounds (k * 5 + 3) (.string x.text)).setIfInBounds (k * 5 + 4) (.slice (some ⟨bo, 0, none⟩) x.kids.length co))[j * 5 + 3]? = some (.string (l[j]?.getD nodeNil).text) ∧ (((((cs.setIfInBounds (k * 5) (.int .i64 x.id)).setIfInBounds (k * 5 + 1) (.int .i64 x.kind)).setIfInBounds (k * 5 + 2) (.int .i64 x.attr)).setIfInBounds (k * 5 + 3) (.string x.text)).setIfInBounds (k * 5 + 4) (.slice (some ⟨bo, 0, none⟩) x.kids.length co))[j * 5 + 4]? = some kv ∧ IntsOwn (w.heap.size + 1) (((((w1.setCell ⟨w.heap.size, k * 5, none⟩ (.int .i64 x.id)).setCell ⟨w.heap.size, k * 5 + 1, none⟩ (.int .i64 x.kind)).setCell ⟨w.heap.size, k * 5 + 2, none⟩ (.int .i64 x.attr)).setCell ⟨w.heap.size, k * 5 + 3, none⟩ (.string x.text)).setCell ⟨w.heap.size, k * 5 + 4, none⟩ (.slice (some ⟨bo, 0, none⟩) x.kids.length co)).heap.size (((((w1.setCell ⟨w.heap.size, k * 5, none⟩ (.int .i64 x.id)).setCell ⟨w.heap.size, k * 5 + 1, none⟩ (.int .i64 x.kind)).setCell ⟨w.heap.size, k * 5 + 2, none⟩ (.int .i64 x.attr)).setCell ⟨w.heap.size, k * 5 + 3, none⟩ (.string x.text)).setCell ⟨w.heap.size, k * 5 + 4, none⟩ (.slice (some ⟨bo, 0, none⟩) x.kids.length co)) kv (l[j]?.getD nodeNil).kids) := by
        intro j hj
        obtain ⟨f1, f2⟩ := @set_five cs k j (.int .i64 x.id) (.int .i64 x.kind) (.int .i64 x.attr) (.string x.text) (.slice (some ⟨bo, 0, none⟩) x.kids.length co) (by omega)
        by_cases e : j = k
        · obtain ⟨a0, a1, a2, a3, a4⟩ := f1 e
          rw [e, HX.out] at *
          exact ⟨_, a0, a1, a2, a3, a4, HOwn.out.heap (by omega) (by simp) fun b h3 _ => q2 b (by omega)⟩
        · obtain ⟨kv, b0, b1, b2, b3, b4, b5⟩ := hall.out j (by omega)
          have g := f2 e
          have g00 := g 0 (by omega)
          rw [Nat.add_zero] at g00
          refine ⟨kv, g00.trans b0, (g 1 (by omega)).trans b1, (g 2 (by omega)).trans b2, (g 3 (by omega)).trans b3, (g 4 (by omega)).trans b4, b5.heap (Nat.le_refl _) (by simp; omega) fun b h3 h4 => (q2 b (by omega)).trans (hb1.block b h4)⟩
      have hsz5 : (((((cs.setIfInBounds (k * 5) (.int .i64 x.id)).setIfInBounds (k * 5 + 1) (.int .i64 x.kind)).setIfInBounds (k * 5 + 2) (.int .i64 x.attr)).setIfInBounds (k * 5 + 3) (.string x.text)).setIfInBounds (k * 5 + 4) (.slice (some ⟨bo, 0, none⟩) x.kids.length co)).size = l.length * 5 := by simp [hcs]
      have HSz := hide hsz5
      clear q1 q2 hsz5 hall hh hh1
      go_wp2_with fail
      exact ⟨⟨k + 1, _, by omega, by go_num, HQ1, HSz.out, HAll2, HB5.out⟩, by simp [intOf]; omega⟩
    · clear hk
      go_wp2_with fail
      go_ret
      exact ⟨_, rfl, ⟨w.heap.size, l.length, cs, rfl, Nat.le_refl _, hlt2, hh.out, fun j hj => hall.out j (by omega)⟩, hbr⟩
end Go.Proofs.Ytfjhpfgffbghdaa
