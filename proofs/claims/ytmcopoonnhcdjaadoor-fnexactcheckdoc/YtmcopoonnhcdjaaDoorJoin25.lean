/-
  The law package's copies of terms: new memory of their own, with the same content.
  The law package's copies of rules: new memory of their own, with the same content.
-/
import Derived.Test.YtmcopoonnhcdjaaDoorJoin16
import Derived.Test.YtmcopoonnhcdjaaDoorJoin17
namespace Go.Proofs.YtmcopoonnhcdjaaDoor
open Go.RowKit

set_option maxHeartbeats 1000000 in
set_option maxRecDepth 100000 in
theorem toTerm_any (n₀ : Nat) (v : Value) (x : PTerm) (w : World) (h : TermVal n₀ w v x) (hn : n₀ ≤ w.heap.size) (hl : x.kinds.length ≤ 1048576) :
    Calls Tryd.prog 93 #[v] w fun e w' => ∃ kv, e = .returned (.agg #[kv, .int .i64 x.many]) ∧ IntsOwn w.heap.size w'.heap.size w' kv x.kinds ∧ Below w.heap.size w w' ∧ w.heap.size < w'.heap.size := by
  obtain ⟨kv, rfl, hk⟩ := h
  have HT : Hid (∀ w1, Below w.heap.size w w1 → Calls Tryd.prog 94 #[kv] w1 fun e w' => ∃ u, e = .returned u ∧ IntsOwn w1.heap.size w'.heap.size w' u x.kinds ∧ Below w1.heap.size w1 w' ∧ w1.heap.size < w'.heap.size) := fun w1 hb =>
    toInts_any n₀ kv x.kinds w1 (hk.below (Nat.le_refl _) (hb.mono hn)) (by have := hb.size; omega) hl
  obtain ⟨a, cap, rfl, -⟩ := hk
  have hW3 := (((Below.refl w.heap.size w).alloc (Nat.le_refl _) (.cells #[.slice a x.kinds.length cap, .int .i64 x.many] 135)).alloc (by simp) (.cells #[.slice none 0 0, .int .i64 0] 126)).alloc (by simp; omega) (.cells #[.slice none 0 0, .int .i64 0] 126)
  go_enter Tryd.func93, Tryd.ntmps93
  go_wp2_with fail
  refine (HT.out _ hW3).mono ?_
  rintro e w1 ⟨u, rfl, hown, hb1, hlt⟩
  simp only [World.size_alloc] at hown hb1 hlt
  have hb1' := hW3.trans (hb1.mono (by omega))
  have hcx : ∀ b o, b < w.heap.size + 1 + 1 + 1 → w1.cell? ⟨b, o, none⟩ = _ := fun b o h => hb1.cell (p := ⟨b, o, none⟩) h
  have hfx : ∀ b o, b < w.heap.size + 1 + 1 + 1 → w1.frozen? ⟨b, o, none⟩ = _ := fun b o h => hb1.frozen (p := ⟨b, o, none⟩) h
  have hz0 : w.heap.size < w1.heap.size := by omega
  have hz1 : w.heap.size + 1 < w1.heap.size := by omega
  have hz2 : w.heap.size + 1 + 1 < w1.heap.size := by omega
  have HOwn := hide hown
  obtain ⟨bo, co, cs, rfl, hlo, hhi, hbo, -⟩ := hown
  have HHeap : Hid (∀ w2 : World, (∀ k, w.heap.size + 1 + 1 < k → w2.heap[k]? = w1.heap[k]?) → w2.heap.size = w1.heap.size → IntsOwn w.heap.size w2.heap.size w2 (.slice (some ⟨bo, 0, none⟩) x.kinds.length co) x.kinds) := fun w2 h2 hs2 =>
    HOwn.out.heap (by omega) (by omega) fun k h3 _ => h2 k (by omega)
  clear hbo HT
  go_wp2_with fail
  refine bodyPost_ret (v := .agg #[.slice (some ⟨bo, 0, none⟩) x.kinds.length co, .int .i64 x.many]) (by simp [results, Tryd.results93, go_sem, hcx]) rfl ⟨_, rfl, HHeap.out _ ?_ (by simp), ?_, by simp; omega⟩
  · intro k hk
    iterate 4 rw [heap_setCell_other _ _ _ _ (by show k ≠ _; simp; omega)]
  · exact (((hb1'.setCell (p := ⟨w.heap.size + 1 + 1, 0, none⟩) (by simp; omega) _).setCell (p := ⟨w.heap.size + 1 + 1, 1, none⟩) (by simp; omega) _).setCell (p := ⟨w.heap.size + 1, 0, none⟩) (by simp) _).setCell (p := ⟨w.heap.size + 1, 1, none⟩) (by simp) _

/-- A list of terms in a block of its own, and the lists of their kinds each in one of its own behind it. -/
def TermsOwn (lo hi : Nat) (w : World) (v : Value) (l : List PTerm) : Prop :=
  ∃ b cap cs, v = .slice (some ⟨b, 0, none⟩) l.length cap ∧ l.length ≤ cap ∧ lo ≤ b ∧ b < hi ∧ w.heap[b]? = some (.cells cs 126 (0, 0)) ∧
    ∀ j, j < l.length → ∃ kv, cs[j * 2]? = some kv ∧ cs[j * 2 + 1]? = some (.int .i64 (l[j]?.getD termNil).many) ∧ IntsOwn (b + 1) hi w kv (l[j]?.getD termNil).kinds

theorem TermsOwn.at {lo hi : Nat} {w : World} {v : Value} {l : List PTerm} (h : TermsOwn lo hi w v l) : TermsAt hi w v l := by
  obtain ⟨b, cap, cs, rfl, hcp, h1, h2, h3, h4⟩ := h
  refine ⟨_, cap, rfl, .inr ⟨b, 0, rfl, h2, fun j hj => ?_⟩⟩
  obtain ⟨kv, g0, g1, g5⟩ := h4 j hj
  rw [Nat.zero_add]
  exact ⟨⟨kv, by rw [cell_of_heap h3, g0], g5.at⟩, by rw [cell_of_heap h3, g1]⟩

theorem TermsOwn.heap {lo hi lo' hi' : Nat} {w w' : World} {v : Value} {l : List PTerm} (h : TermsOwn lo hi w v l) (hl : lo' ≤ lo) (hh : hi ≤ hi') (hb : ∀ b, lo ≤ b → b < hi → w'.heap[b]? = w.heap[b]?) : TermsOwn lo' hi' w' v l := by
  obtain ⟨b, cap, cs, rfl, hcp, h1, h2, h3, h4⟩ := h
  refine ⟨b, cap, cs, rfl, hcp, by omega, by omega, (hb b h1 h2).trans h3, fun j hj => ?_⟩
  obtain ⟨kv, g0, g1, g5⟩ := h4 j hj
  exact ⟨kv, g0, g1, g5.heap (Nat.le_refl _) hh fun b h6 h7 => hb b (by omega) h7⟩

theorem TermsOwn.below {lo hi : Nat} {w w' : World} {v : Value} {l : List PTerm} (h : TermsOwn lo hi w v l) (hb : Below hi w w') : TermsOwn lo hi w' v l := h.heap (Nat.le_refl _) (Nat.le_refl _) fun b _ h2 => hb.block b h2

theorem termInfo : (Tryd.prog.info? 126).map (fun i => (i.zero, i.size, i.bytes)) = some (some (.agg #[.slice none 0 0, .int .i64 0]), 2, 32) := by kernel_rfl

theorem set_two {cs : Array Value} {k j : Nat} {a b : Value} (h : k * 2 + 1 < cs.size) :
    (j = k → ((cs.setIfInBounds (k * 2) a).setIfInBounds (k * 2 + 1) b)[j * 2]? = some a ∧ ((cs.setIfInBounds (k * 2) a).setIfInBounds (k * 2 + 1) b)[j * 2 + 1]? = some b) ∧
    (j ≠ k → ∀ m, m < 2 → ((cs.setIfInBounds (k * 2) a).setIfInBounds (k * 2 + 1) b)[j * 2 + m]? = cs[j * 2 + m]?) := by
  constructor
  · rintro rfl
    simp only [Array.getElem?_setIfInBounds, Array.size_setIfInBounds]
    refine ⟨?_, ?_⟩ <;> (repeat rw [if_neg (by omega)]) <;> rw [if_pos trivial, if_pos (by omega)]
  · intro hne m hm
    simp only [Array.getElem?_setIfInBounds, Array.size_setIfInBounds]
    repeat rw [if_neg (by omega)]

theorem two_world (w1 : World) (B i : Nat) (a b : Value) {cs : Array Value} {t : TypeId} (hh : w1.heap[B]? = some (.cells cs t (0, 0))) :
    ((w1.setCell ⟨B, i, none⟩ a).setCell ⟨B, i + 1, none⟩ b).heap[B]? = some (.cells ((cs.setIfInBounds i a).setIfInBounds (i + 1) b) t (0, 0)) ∧
    ∀ m, m ≠ B → ((w1.setCell ⟨B, i, none⟩ a).setCell ⟨B, i + 1, none⟩ b).heap[m]? = w1.heap[m]? := by
  constructor
  · exact heap_setCell_same _ _ _ _ _ _ (heap_setCell_same _ _ _ _ _ _ hh)
  · intro m hm
    iterate 2 rw [heap_setCell_other _ _ _ _ (by exact hm)]

set_option maxHeartbeats 1000000 in
set_option maxRecDepth 100000 in
theorem toTerms_any (n₀ : Nat) (v : Value) (l : List PTerm) (w : World) (h : TermsAt n₀ w v l) (hn : n₀ ≤ w.heap.size) (hl : l.length ≤ 1048576) (hkl : ∀ x ∈ l, x.kinds.length ≤ 1048576) :
    Calls Tryd.prog 65 #[v] w fun e w' => ∃ u, e = .returned u ∧ TermsOwn w.heap.size w'.heap.size w' u l ∧ Below w.heap.size w w' ∧ w.heap.size < w'.heap.size := by
  obtain ⟨i0, hi, hz0, hz1, hz2⟩ := info_parts termInfo
  have hmk : ∀ w, (Instr.makeSlice 70 (.int .i64 (l.length : Int)) (.int .i64 (l.length : Int))).run Tryd.prog w = .ok (.slice (some ⟨w.heap.size, 0, none⟩) l.length l.length) (w.alloc (.cells (madeCells #[.slice none 0 0, .int .i64 0] (l.length * 2)) 126)) := fun w => by
    have := run_make (P := Tryd.prog) w 70 126 i0 (.agg #[.slice none 0 0, .int .i64 0]) Tryd.underlying70 hi hz0 .i64 .i64 l.length l.length (by omega) (Int.le_refl _) (by rw [hz2]; omega) (by omega)
    simpa [hz1, Value.cells] using this
  obtain ⟨a, cap, rfl, hk⟩ := h
  have HKL := hide hkl
  clear hi hz0 hz1 hz2 hkl
  go_enter Tryd.func65, Tryd.ntmps65
  go_wp2_with fail
  go_loopw [4] (fun i wr => ∃ (k : Nat) (cs : Array Value), k ≤ l.length ∧ i = .int .i64 k ∧ Hid (wr.heap[w.heap.size]? = some (.cells cs 126 (0, 0))) ∧ cs.size = l.length * 2 ∧ Hid (∀ j, j < k → ∃ kv, cs[j * 2]? = some kv ∧ cs[j * 2 + 1]? = some (.int .i64 (l[j]?.getD termNil).many) ∧ IntsOwn (w.heap.size + 1) wr.heap.size wr kv (l[j]?.getD termNil).kinds) ∧ Below w.heap.size w wr) (fun i _ => l.length - (intOf i).toNat)
  case atStart => exact ⟨0, _, Nat.zero_le _, rfl, alloc_new w _, size_madeCells _ _, fun j hj => by omega, (Below.refl _ _).alloc (Nat.le_refl _) _⟩
  case round =>
    obtain ⟨k, cs, hkl, rfl, hh, hcs, hall, hbr⟩ := hrel
    have hlt2 : w.heap.size < wr.heap.size := (Array.getElem?_eq_some_iff.1 hh.out).1
    by_cases hlt : k < l.length
    · obtain ⟨b, off, rfl, hb, hc⟩ := hk.resolve_left (by intro e; simp [e] at hlt)
      have hA := (hc k hlt).below hb (Nat.le_refl _) (hbr.mono hn)
      have hlx := HKL.out (l[k]?.getD termNil) (by simp [hlt])
      have g1 := hA.c1
      obtain ⟨kv, g0, hi⟩ := hA.c0
      have HCall := hide (toTerm_any n₀ (.agg #[kv, .int .i64 (l[k]?.getD termNil).many]) (l[k]?.getD termNil) wr ⟨kv, rfl, hi⟩ (by omega) hlx)
      obtain ⟨ak, ck, rfl, -⟩ := hi
      have hbw : b < wr.heap.size := by omega
      clear hA hc hk
      generalize hx : l[k]?.getD termNil = x at *
      have HX := hide hx
      clear hx
      go_wp2_with fail
      refine HCall.out.mono ?_
      rintro e w1 ⟨ku, rfl, hown, hb1, hs1⟩
      have hh1 : w1.heap[w.heap.size]? = some (.cells cs 126 (0, 0)) := (hb1.block _ hlt2).trans hh.out
      have hf1 : ∀ j, w1.frozen? ⟨w.heap.size, j, none⟩ = false := fun j => frozen_of_heap hh1 j
      have hc1 : ∀ j, j < cs.size → ∃ u, w1.cell? ⟨w.heap.size, j, none⟩ = some u := fun j hj => by rw [cell_of_heap hh1]; exact ⟨cs[j], by simp [hj]⟩
      obtain ⟨o0, p0⟩ := hc1 (k * 2) (by omega)
      obtain ⟨o1, p1⟩ := hc1 (k * 2 + 1) (by omega)
      have HOwn := hide hown
      obtain ⟨bo, co, cs', rfl, hlo, hhi, hbo, -⟩ := hown
      clear hc1 HCall hbo
      obtain ⟨q1, q2⟩ := two_world w1 w.heap.size (k * 2) (.slice (some ⟨bo, 0, none⟩) x.kinds.length co) (.int .i64 x.many) hh1
      have HQ1 := hide q1
      have HB5 : Hid (Below w.heap.size w ((w1.setCell ⟨w.heap.size, k * 2, none⟩ (.slice (some ⟨bo, 0, none⟩) x.kinds.length co)).setCell ⟨w.heap.size, k * 2 + 1, none⟩ (.int .i64 x.many))) :=
        ((hbr.trans (hb1.mono (by omega))).setCell (p := ⟨w.heap.size, k * 2, none⟩) (Nat.le_refl _) _).setCell (p := ⟨w.heap.size, k * 2 + 1, none⟩) (Nat.le_refl _) _
      have HAll2 : Hid (∀ j, j < k + 1 → ∃ kv, ((cs.setIfInBounds (k * 2) (.slice (some ⟨bo, 0, none⟩) x.kinds.length co)).setIfInBounds (k * 2 + 1) (.int .i64 x.many))[j * 2]? = some kv ∧ ((cs.setIfInBounds (k * 2) (.slice (some ⟨bo, 0, none⟩) x.kinds.length co)).setIfInBounds (k * 2 + 1) (.int .i64 x.many))[j * 2 + 1]? = some (.int .i64 (l[j]?.getD termNil).many) ∧ IntsOwn (w.heap.size + 1) ((w1.setCell ⟨w.heap.size, k * 2, none⟩ (.slice (some ⟨bo, 0, none⟩) x.kinds.length co)).setCell ⟨w.heap.size, k * 2 + 1, none⟩ (.int .i64 x.many)).heap.size ((w1.setCell ⟨w.heap.size, k * 2, none⟩ (.slice (some ⟨bo, 0, none⟩) x.kinds.length co)).setCell ⟨w.heap.size, k * 2 + 1, none⟩ (.int .i64 x.many)) kv (l[j]?.getD termNil).kinds) := by
        intro j hj
        obtain ⟨f1, f2⟩ := @set_two cs k j (.slice (some ⟨bo, 0, none⟩) x.kinds.length co) (.int .i64 x.many) (by omega)
        by_cases e : j = k
        · obtain ⟨a0, a1⟩ := f1 e
          rw [e, HX.out] at *
          exact ⟨_, a0, a1, HOwn.out.heap (by omega) (by simp) fun b h3 _ => q2 b (by omega)⟩
        · obtain ⟨kv, b0, b1, b5⟩ := hall.out j (by omega)
          have g := f2 e
          have g00 := g 0 (by omega)
          rw [Nat.add_zero] at g00
          refine ⟨kv, g00.trans b0, (g 1 (by omega)).trans b1, b5.heap (Nat.le_refl _) (by simp; omega) fun b h3 h4 => (q2 b (by omega)).trans (hb1.block b h4)⟩
      have hsz5 : ((cs.setIfInBounds (k * 2) (.slice (some ⟨bo, 0, none⟩) x.kinds.length co)).setIfInBounds (k * 2 + 1) (.int .i64 x.many)).size = l.length * 2 := by simp [hcs]
      have HSz := hide hsz5
      clear q1 q2 hsz5 hall hh hh1
      go_wp2_with fail
      exact ⟨⟨k + 1, _, by omega, by go_num, HQ1, HSz.out, HAll2, HB5.out⟩, by simp [intOf]; omega⟩
    · clear hk
      go_wp2_with fail
      go_ret
      exact ⟨_, rfl, ⟨w.heap.size, l.length, cs, rfl, Nat.le_refl _, Nat.le_refl _, hlt2, hh.out, fun j hj => hall.out j (by omega)⟩, hbr, hlt2⟩

theorem TermsOwn.room {lo hi : Nat} {w : World} {v : Value} {l : List PTerm} (h : TermsOwn lo hi w v l) : Roomy v l.length := by
  obtain ⟨b, cap, cs, rfl, hcp, -⟩ := h
  exact ⟨_, cap, rfl, hcp⟩
end Go.Proofs.YtmcopoonnhcdjaaDoor

namespace Go.Proofs.YtmcopoonnhcdjaaDoor
open Go.RowKit

set_option maxHeartbeats 1000000 in
set_option maxRecDepth 100000 in
theorem toRule_any (n₀ : Nat) (v : Value) (x : PRule) (w : World) (h : RuleVal n₀ w v x) (hn : n₀ ≤ w.heap.size) (hl : SmallRule x) :
    Calls Tryd.prog 40 #[v] w fun e w' => ∃ kv, e = .returned (.agg #[.string x.name, .bool x.leaf, kv]) ∧ TermsOwn w.heap.size w'.heap.size w' kv x.terms ∧ Below w.heap.size w w' ∧ w.heap.size < w'.heap.size := by
  obtain ⟨kv, rfl, hk⟩ := h
  have HT : Hid (∀ w1, Below w.heap.size w w1 → Calls Tryd.prog 65 #[kv] w1 fun e w' => ∃ u, e = .returned u ∧ TermsOwn w1.heap.size w'.heap.size w' u x.terms ∧ Below w1.heap.size w1 w' ∧ w1.heap.size < w'.heap.size) := fun w1 hb =>
    toTerms_any n₀ kv x.terms w1 (hk.below (Nat.le_refl _) (hb.mono hn)) (by have := hb.size; omega) hl.terms.len hl.terms.kinds
  obtain ⟨a, cap, rfl, -⟩ := hk
  clear hl
  have hW3 := (((Below.refl w.heap.size w).alloc (Nat.le_refl _) (.cells #[.string x.name, .bool x.leaf, .slice a x.terms.length cap] 64)).alloc (by simp) (.cells #[.string ⟨#[]⟩, .bool false, .slice none 0 0] 72)).alloc (by simp; omega) (.cells #[.string x.name, .bool x.leaf, .slice none 0 0] 72)
  go_enter Tryd.func40, Tryd.ntmps40
  go_wp2_with fail
  refine (HT.out _ hW3).mono ?_
  rintro e w1 ⟨u, rfl, hown, hb1, hlt⟩
  simp only [World.size_alloc] at hown hb1 hlt
  have hb1' := hW3.trans (hb1.mono (by omega))
  have hcx : ∀ b o, b < w.heap.size + 1 + 1 + 1 → w1.cell? ⟨b, o, none⟩ = _ := fun b o h => hb1.cell (p := ⟨b, o, none⟩) h
  have hfx : ∀ b o, b < w.heap.size + 1 + 1 + 1 → w1.frozen? ⟨b, o, none⟩ = _ := fun b o h => hb1.frozen (p := ⟨b, o, none⟩) h
  have hz1 : w.heap.size + 1 < w1.heap.size := by omega
  have hz2 : w.heap.size + 1 + 1 < w1.heap.size := by omega
  have HOwn := hide hown
  obtain ⟨bo, co, cs, rfl, -, hlo, hhi, hbo, -⟩ := hown
  have HHeap : Hid (∀ w2 : World, (∀ k, w.heap.size + 1 + 1 < k → w2.heap[k]? = w1.heap[k]?) → w2.heap.size = w1.heap.size → TermsOwn w.heap.size w2.heap.size w2 (.slice (some ⟨bo, 0, none⟩) x.terms.length co) x.terms) := fun w2 h2 hs2 =>
    HOwn.out.heap (by omega) (by omega) fun k h3 _ => h2 k (by omega)
  clear hbo HT
  go_wp2_with fail
  refine bodyPost_ret (v := .agg #[.string x.name, .bool x.leaf, .slice (some ⟨bo, 0, none⟩) x.terms.length co]) (by simp [results, Tryd.results40, go_sem, hcx]) rfl ⟨_, rfl, HHeap.out _ ?_ (by simp), ?_, by simp; omega⟩
  · intro k hk
    iterate 4 rw [heap_setCell_other _ _ _ _ (by show k ≠ _; simp; omega)]
  · exact (((hb1'.setCell (p := ⟨w.heap.size + 1 + 1, 2, none⟩) (by simp; omega) _).setCell (p := ⟨w.heap.size + 1, 0, none⟩) (by simp) _).setCell (p := ⟨w.heap.size + 1, 1, none⟩) (by simp) _).setCell (p := ⟨w.heap.size + 1, 2, none⟩) (by simp) _

/-- A list of rules in a block of its own, and the lists of their terms each in blocks of their own behind it. -/
def RulesOwn (lo hi : Nat) (w : World) (v : Value) (l : List PRule) : Prop :=
  ∃ b cap cs, v = .slice (some ⟨b, 0, none⟩) l.length cap ∧ l.length ≤ cap ∧ lo ≤ b ∧ b < hi ∧ w.heap[b]? = some (.cells cs 72 (0, 0)) ∧
    ∀ j, j < l.length → ∃ kv, cs[j * 3]? = some (.string (l[j]?.getD ruleNil).name) ∧ cs[j * 3 + 1]? = some (.bool (l[j]?.getD ruleNil).leaf) ∧ cs[j * 3 + 2]? = some kv ∧ TermsOwn (b + 1) hi w kv (l[j]?.getD ruleNil).terms

theorem RulesOwn.at {lo hi : Nat} {w : World} {v : Value} {l : List PRule} (h : RulesOwn lo hi w v l) : RulesAt hi w v l := by
  obtain ⟨b, cap, cs, rfl, hcp, h1, h2, h3, h4⟩ := h
  refine ⟨_, cap, rfl, .inr ⟨b, 0, rfl, h2, fun j hj => ?_⟩⟩
  obtain ⟨kv, g0, g1, g2, g5⟩ := h4 j hj
  rw [Nat.zero_add]
  exact ⟨by rw [cell_of_heap h3, g0], by rw [cell_of_heap h3, g1], kv, by rw [cell_of_heap h3, g2], g5.at⟩

theorem RulesOwn.heap {lo hi lo' hi' : Nat} {w w' : World} {v : Value} {l : List PRule} (h : RulesOwn lo hi w v l) (hl : lo' ≤ lo) (hh : hi ≤ hi') (hb : ∀ b, lo ≤ b → b < hi → w'.heap[b]? = w.heap[b]?) : RulesOwn lo' hi' w' v l := by
  obtain ⟨b, cap, cs, rfl, hcp, h1, h2, h3, h4⟩ := h
  refine ⟨b, cap, cs, rfl, hcp, by omega, by omega, (hb b h1 h2).trans h3, fun j hj => ?_⟩
  obtain ⟨kv, g0, g1, g2, g5⟩ := h4 j hj
  exact ⟨kv, g0, g1, g2, g5.heap (Nat.le_refl _) hh fun b h6 h7 => hb b (by omega) h7⟩

theorem RulesOwn.below {lo hi : Nat} {w w' : World} {v : Value} {l : List PRule} (h : RulesOwn lo hi w v l) (hb : Below hi w w') : RulesOwn lo hi w' v l := h.heap (Nat.le_refl _) (Nat.le_refl _) fun b _ h2 => hb.block b h2

theorem ruleInfo : (Tryd.prog.info? 72).map (fun i => (i.zero, i.size, i.bytes)) = some (some (.agg #[.string ⟨#[]⟩, .bool false, .slice none 0 0]), 3, 48) := by kernel_rfl

theorem set_three {cs : Array Value} {k j : Nat} {a b c : Value} (h : k * 3 + 2 < cs.size) :
    (j = k → (((cs.setIfInBounds (k * 3) a).setIfInBounds (k * 3 + 1) b).setIfInBounds (k * 3 + 2) c)[j * 3]? = some a ∧ (((cs.setIfInBounds (k * 3) a).setIfInBounds (k * 3 + 1) b).setIfInBounds (k * 3 + 2) c)[j * 3 + 1]? = some b ∧ (((cs.setIfInBounds (k * 3) a).setIfInBounds (k * 3 + 1) b).setIfInBounds (k * 3 + 2) c)[j * 3 + 2]? = some c) ∧
    (j ≠ k → ∀ m, m < 3 → (((cs.setIfInBounds (k * 3) a).setIfInBounds (k * 3 + 1) b).setIfInBounds (k * 3 + 2) c)[j * 3 + m]? = cs[j * 3 + m]?) := by
  constructor
  · rintro rfl
    simp only [Array.getElem?_setIfInBounds, Array.size_setIfInBounds]
    refine ⟨?_, ?_, ?_⟩ <;> (repeat rw [if_neg (by omega)]) <;> rw [if_pos trivial, if_pos (by omega)]
  · intro hne m hm
    simp only [Array.getElem?_setIfInBounds, Array.size_setIfInBounds]
    repeat rw [if_neg (by omega)]

theorem three_world (w1 : World) (B i : Nat) (a b c : Value) {cs : Array Value} {t : TypeId} (hh : w1.heap[B]? = some (.cells cs t (0, 0))) :
    (((w1.setCell ⟨B, i, none⟩ a).setCell ⟨B, i + 1, none⟩ b).setCell ⟨B, i + 2, none⟩ c).heap[B]? = some (.cells (((cs.setIfInBounds i a).setIfInBounds (i + 1) b).setIfInBounds (i + 2) c) t (0, 0)) ∧
    ∀ m, m ≠ B → (((w1.setCell ⟨B, i, none⟩ a).setCell ⟨B, i + 1, none⟩ b).setCell ⟨B, i + 2, none⟩ c).heap[m]? = w1.heap[m]? := by
  constructor
  · exact heap_setCell_same _ _ _ _ _ _ (heap_setCell_same _ _ _ _ _ _ (heap_setCell_same _ _ _ _ _ _ hh))
  · intro m hm
    iterate 3 rw [heap_setCell_other _ _ _ _ (by exact hm)]

set_option maxHeartbeats 1000000 in
set_option maxRecDepth 100000 in
theorem toRules_any (n₀ : Nat) (v : Value) (l : List PRule) (w : World) (h : RulesAt n₀ w v l) (hn : n₀ ≤ w.heap.size) (hl : SmallRules l) :
    Calls Tryd.prog 11 #[v] w fun e w' => ∃ u, e = .returned u ∧ RulesOwn w.heap.size w'.heap.size w' u l ∧ Below w.heap.size w w' ∧ w.heap.size < w'.heap.size := by
  have hl1 := hl.len
  obtain ⟨i0, hi, hz0, hz1, hz2⟩ := info_parts ruleInfo
  have hmk : ∀ w, (Instr.makeSlice 29 (.int .i64 (l.length : Int)) (.int .i64 (l.length : Int))).run Tryd.prog w = .ok (.slice (some ⟨w.heap.size, 0, none⟩) l.length l.length) (w.alloc (.cells (madeCells #[.string ⟨#[]⟩, .bool false, .slice none 0 0] (l.length * 3)) 72)) := fun w => by
    have := run_make (P := Tryd.prog) w 29 72 i0 (.agg #[.string ⟨#[]⟩, .bool false, .slice none 0 0]) Tryd.underlying29 hi hz0 .i64 .i64 l.length l.length (by omega) (Int.le_refl _) (by rw [hz2]; omega) (by omega)
    simpa [hz1, Value.cells] using this
  obtain ⟨a, cap, rfl, hk⟩ := h
  have HKL := hide hl.rules
  clear hi hz0 hz1 hz2 hl
  go_enter Tryd.func11, Tryd.ntmps11
  go_wp2_with fail
  go_loopw [4] (fun i wr => ∃ (k : Nat) (cs : Array Value), k ≤ l.length ∧ i = .int .i64 k ∧ Hid (wr.heap[w.heap.size]? = some (.cells cs 72 (0, 0))) ∧ cs.size = l.length * 3 ∧ Hid (∀ j, j < k → ∃ kv, cs[j * 3]? = some (.string (l[j]?.getD ruleNil).name) ∧ cs[j * 3 + 1]? = some (.bool (l[j]?.getD ruleNil).leaf) ∧ cs[j * 3 + 2]? = some kv ∧ TermsOwn (w.heap.size + 1) wr.heap.size wr kv (l[j]?.getD ruleNil).terms) ∧ Below w.heap.size w wr) (fun i _ => l.length - (intOf i).toNat)
  case atStart => exact ⟨0, _, Nat.zero_le _, rfl, alloc_new w _, size_madeCells _ _, fun j hj => by omega, (Below.refl _ _).alloc (Nat.le_refl _) _⟩
  case round =>
    obtain ⟨k, cs, hkl, rfl, hh, hcs, hall, hbr⟩ := hrel
    have hlt2 : w.heap.size < wr.heap.size := (Array.getElem?_eq_some_iff.1 hh.out).1
    by_cases hlt : k < l.length
    · obtain ⟨b, off, rfl, hb, hc⟩ := hk.resolve_left (by intro e; simp [e] at hlt)
      have hA := (hc k hlt).below hb (Nat.le_refl _) (hbr.mono hn)
      have HLX := hide (HKL.out (l[k]?.getD ruleNil) (by simp [hlt]))
      have g0 := hA.c0
      have g1 := hA.c1
      obtain ⟨kv, g2, hi⟩ := hA.c2
      have HCall := hide (toRule_any n₀ (.agg #[.string (l[k]?.getD ruleNil).name, .bool (l[k]?.getD ruleNil).leaf, kv]) (l[k]?.getD ruleNil) wr ⟨kv, rfl, hi⟩ (by omega) HLX.out)
      obtain ⟨ak, ck, rfl, -⟩ := hi
      have hbw : b < wr.heap.size := by omega
      clear hA hc hk HLX
      generalize hx : l[k]?.getD ruleNil = x at *
      have HX := hide hx
      clear hx
      go_wp2_with fail
      refine HCall.out.mono ?_
      rintro e w1 ⟨ku, rfl, hown, hb1, hs1⟩
      have hh1 : w1.heap[w.heap.size]? = some (.cells cs 72 (0, 0)) := (hb1.block _ hlt2).trans hh.out
      have hf1 : ∀ j, w1.frozen? ⟨w.heap.size, j, none⟩ = false := fun j => frozen_of_heap hh1 j
      have hc1 : ∀ j, j < cs.size → ∃ u, w1.cell? ⟨w.heap.size, j, none⟩ = some u := fun j hj => by rw [cell_of_heap hh1]; exact ⟨cs[j], by simp [hj]⟩
      obtain ⟨o0, p0⟩ := hc1 (k * 3) (by omega)
      obtain ⟨o1, p1⟩ := hc1 (k * 3 + 1) (by omega)
      obtain ⟨o2, p2⟩ := hc1 (k * 3 + 2) (by omega)
      have HOwn := hide hown
      obtain ⟨bo, co, cs', rfl, -, hlo, hhi, hbo, -⟩ := hown
      clear hc1 HCall hbo
      obtain ⟨q1, q2⟩ := three_world w1 w.heap.size (k * 3) (.string x.name) (.bool x.leaf) (.slice (some ⟨bo, 0, none⟩) x.terms.length co) hh1
      have HQ1 := hide q1
      have HB5 : Hid (Below w.heap.size w (((w1.setCell ⟨w.heap.size, k * 3, none⟩ (.string x.name)).setCell ⟨w.heap.size, k * 3 + 1, none⟩ (.bool x.leaf)).setCell ⟨w.heap.size, k * 3 + 2, none⟩ (.slice (some ⟨bo, 0, none⟩) x.terms.length co))) :=
        (((hbr.trans (hb1.mono (by omega))).setCell (p := ⟨w.heap.size, k * 3, none⟩) (Nat.le_refl _) _).setCell (p := ⟨w.heap.size, k * 3 + 1, none⟩) (Nat.le_refl _) _).setCell (p := ⟨w.heap.size, k * 3 + 2, none⟩) (Nat.le_refl _) _
      have HAll2 : Hid (∀ j, j < k + 1 → ∃ kv, (((cs.setIfInBounds (k * 3) (.string x.name)).setIfInBounds (k * 3 + 1) (.bool x.leaf)).setIfInBounds (k * 3 + 2) (.slice (some ⟨bo, 0, none⟩) x.terms.length co))[j * 3]? = some (.string (l[j]?.getD ruleNil).name) ∧ (((cs.setIfInBounds (k * 3) (.string x.name)).setIfInBounds (k * 3 + 1) (.bool x.leaf)).setIfInBounds (k * 3 + 2) (.slice (some ⟨bo, 0, none⟩) x.terms.length co))[j * 3 + 1]? = some (.bool (l[j]?.getD ruleNil).leaf) ∧ (((cs.setIfInBounds (k * 3) (.string x.name)).setIfInBounds (k * 3 + 1) (.bool x.leaf)).setIfInBounds (k * 3 + 2) (.slice (some ⟨bo, 0, none⟩) x.terms.length co))[j * 3 + 2]? = some kv ∧ TermsOwn (w.heap.size + 1) (((w1.setCell ⟨w.heap.size, k * 3, none⟩ (.string x.name)).setCell ⟨w.heap.size, k * 3 + 1, none⟩ (.bool x.leaf)).setCell ⟨w.heap.size, k * 3 + 2, none⟩ (.slice (some ⟨bo, 0, none⟩) x.terms.length co)).heap.size (((w1.setCell ⟨w.heap.size, k * 3, none⟩ (.string x.name)).setCell ⟨w.heap.size, k * 3 + 1, none⟩ (.bool x.leaf)).setCell ⟨w.heap.size, k * 3 + 2, none⟩ (.slice (some ⟨bo, 0, none⟩) x.terms.length co)) kv (l[j]?.getD ruleNil).terms) := by
        intro j hj
        obtain ⟨f1, f2⟩ := @set_three cs k j (.string x.name) (.bool x.leaf) (.slice (some ⟨bo, 0, none⟩) x.terms.length co) (by omega)
        by_cases e : j = k
        · obtain ⟨a0, a1, a2⟩ := f1 e
          rw [e, HX.out] at *
          exact ⟨_, a0, a1, a2, HOwn.out.heap (by omega) (by simp) fun b h3 _ => q2 b (by omega)⟩
        · obtain ⟨kv, b0, b1, b2, b5⟩ := hall.out j (by omega)
          have g := f2 e
          have g00 := g 0 (by omega)
          rw [Nat.add_zero] at g00
          refine ⟨kv, g00.trans b0, (g 1 (by omega)).trans b1, (g 2 (by omega)).trans b2, b5.heap (Nat.le_refl _) (by simp; omega) fun b h3 h4 => (q2 b (by omega)).trans (hb1.block b h4)⟩
      have hsz5 : (((cs.setIfInBounds (k * 3) (.string x.name)).setIfInBounds (k * 3 + 1) (.bool x.leaf)).setIfInBounds (k * 3 + 2) (.slice (some ⟨bo, 0, none⟩) x.terms.length co)).size = l.length * 3 := by simp [hcs]
      have HSz := hide hsz5
      clear q1 q2 hsz5 hall hh hh1
      go_wp2_with fail
      exact ⟨⟨k + 1, _, by omega, by go_num, HQ1, HSz.out, HAll2, HB5.out⟩, by simp [intOf]; omega⟩
    · clear hk
      go_wp2_with fail
      go_ret
      exact ⟨_, rfl, ⟨w.heap.size, l.length, cs, rfl, Nat.le_refl _, Nat.le_refl _, hlt2, hh.out, fun j hj => hall.out j (by omega)⟩, hbr, hlt2⟩

theorem RulesOwn.room {lo hi : Nat} {w : World} {v : Value} {l : List PRule} (h : RulesOwn lo hi w v l) : Roomy v l.length := by
  obtain ⟨b, cap, cs, rfl, hcp, -⟩ := h
  exact ⟨_, cap, rfl, hcp⟩
end Go.Proofs.YtmcopoonnhcdjaaDoor
