/-
  The law package's copies of terms: new memory of their own, with the same content.
  The law package's copies of rules: new memory of their own, with the same content.
  The terms of each rule have room for themselves.
  What the row's list gives of the table of amounts: its cells hold the least and the most of each Many, and its mark.
  Is a number in a list: slices.Index and slices.Contains.
-/
import Derived.Test.YtpkblnponeonkaaDoorTermEq
import Derived.Test.YtpkblnponeonkaaDoorSchEq
import Derived.Test.YtpkblnponeonkaaDoorMatchPlain
import Derived.Test.YtpkblnponeonkaaDoorRows
import Derived.OpenShut
import Derived.ChangeArms
import Derived.FnData
import Derived.MakeChecks
import Derived.Lib.LaidTab
import Derived.Test.YtpkblnponeonkaaDoorTreeRep
import Derived.Test.YtpkblnponeonkaaDoorBasicHas
namespace Go.Proofs.YtpkblnponeonkaaDoor
open Go.RowKit

set_option maxHeartbeats 1000000 in
set_option maxRecDepth 100000 in
theorem toTerm_any (n₀ : Nat) (v : Value) (x : PTerm) (w : World) (h : TermVal n₀ w v x) (hn : n₀ ≤ w.heap.size) (hl : x.kinds.length ≤ 1048576) :
    Calls Tryd.prog 107 #[v] w fun e w' => ∃ kv, e = .returned (.agg #[kv, .int .i64 x.many]) ∧ IntsOwn w.heap.size w'.heap.size w' kv x.kinds ∧ Below w.heap.size w w' ∧ w.heap.size < w'.heap.size := by
  obtain ⟨kv, rfl, hk⟩ := h
  have HT : Hid (∀ w1, Below w.heap.size w w1 → Calls Tryd.prog 108 #[kv] w1 fun e w' => ∃ u, e = .returned u ∧ IntsOwn w1.heap.size w'.heap.size w' u x.kinds ∧ Below w1.heap.size w1 w' ∧ w1.heap.size < w'.heap.size) := fun w1 hb =>
    toInts_any n₀ kv x.kinds w1 (hk.below (Nat.le_refl _) (hb.mono hn)) (by have := hb.size; omega) hl
  obtain ⟨a, cap, rfl, -⟩ := hk
  have hW3 := (((Below.refl w.heap.size w).alloc (Nat.le_refl _) (.cells #[.slice a x.kinds.length cap, .int .i64 x.many] 153)).alloc (by simp) (.cells #[.slice none 0 0, .int .i64 0] 131)).alloc (by simp; omega) (.cells #[.slice none 0 0, .int .i64 0] 131)
  go_enter Tryd.func107, Tryd.ntmps107
  go_wp2_with fail
  refine (HT.out _ hW3).mono ?_
  rintro e w1 ⟨u, rfl, hown, hb1, hlt⟩
  simp only [World.size_alloc] at hown hb1 hlt
  have hb1' := hW3.trans (hb1.mono (by omega))
  have hcx : ∀ b o, b < w.heap.size + 1 + 1 + 1 → w1.cell? ⟨b, o, none⟩ = _ := fun b o h => hb1.cell (p := ⟨b, o, none⟩) h
  have hfx : ∀ b o, b < w.heap.size + 1 + 1 + 1 → w1.frozen? ⟨b, o, none⟩ = _ := fun b o h => hb1.frozen (p := ⟨b, o, none⟩) h
  have hz0 : w.heap.size < w1.heap.size := by omega
  have hz1 : w.heap.size + 1 < w1.heap.size := by omega
  have hz2 : w.heap.size + 1 + 1 < w1.heap.size := by omega
  have HOwn := hide hown
  obtain ⟨bo, co, cs, rfl, hlo, hhi, hbo, -⟩ := hown
  have HHeap : Hid (∀ w2 : World, (∀ k, w.heap.size + 1 + 1 < k → w2.heap[k]? = w1.heap[k]?) → w2.heap.size = w1.heap.size → IntsOwn w.heap.size w2.heap.size w2 (.slice (some ⟨bo, 0, none⟩) x.kinds.length co) x.kinds) := fun w2 h2 hs2 =>
    HOwn.out.heap (by omega) (by omega) fun k h3 _ => h2 k (by omega)
  clear hbo HT
  go_wp2_with fail
  refine bodyPost_ret (v := .agg #[.slice (some ⟨bo, 0, none⟩) x.kinds.length co, .int .i64 x.many]) (by simp [results, Tryd.results107, go_sem, hcx]) rfl ⟨_, rfl, HHeap.out _ ?_ (by simp), ?_, by simp; omega⟩
  · intro k hk
    iterate 4 rw [heap_setCell_other _ _ _ _ (by show k ≠ _; simp; omega)]
  · exact (((hb1'.setCell (p := ⟨w.heap.size + 1 + 1, 0, none⟩) (by simp; omega) _).setCell (p := ⟨w.heap.size + 1 + 1, 1, none⟩) (by simp; omega) _).setCell (p := ⟨w.heap.size + 1, 0, none⟩) (by simp) _).setCell (p := ⟨w.heap.size + 1, 1, none⟩) (by simp) _

/-- A list of terms in a block of its own, and the lists of their kinds each in one of its own behind it. -/
def TermsOwn (lo hi : Nat) (w : World) (v : Value) (l : List PTerm) : Prop :=
  ∃ b cap cs, v = .slice (some ⟨b, 0, none⟩) l.length cap ∧ l.length ≤ cap ∧ lo ≤ b ∧ b < hi ∧ w.heap[b]? = some (.cells cs 131 (0, 0)) ∧
    ∀ j, j < l.length → ∃ kv, cs[j * 2]? = some kv ∧ cs[j * 2 + 1]? = some (.int .i64 (l[j]?.getD termNil).many) ∧ IntsOwn (b + 1) hi w kv (l[j]?.getD termNil).kinds

theorem TermsOwn.at {lo hi : Nat} {w : World} {v : Value} {l : List PTerm} (h : TermsOwn lo hi w v l) : TermsAt hi w v l := by
  obtain ⟨b, cap, cs, rfl, hcp, h1, h2, h3, h4⟩ := h
  refine ⟨_, cap, rfl, .inr ⟨b, 0, rfl, h2, fun j hj => ?_⟩⟩
  obtain ⟨kv, g0, g1, g5⟩ := h4 j hj
  rw [Nat.zero_add]
  exact ⟨⟨kv, by rw [cell_of_heap h3, g0], g5.at⟩, by rw [cell_of_heap h3, g1]⟩

theorem TermsOwn.heap {lo hi lo' hi' : Nat} {w w' : World} {v : Value} {l : List PTerm} (h : TermsOwn lo hi w v l) (hl : lo' ≤ lo) (hh : hi ≤ hi') (hb : ∀ b, lo ≤ b → b < hi → w'.heap[b]? = w.heap[b]?) : TermsOwn lo' hi' w' v l := by
  obtain ⟨b, cap, cs, rfl, hcp, h1, h2, h3, h4⟩ := h
  refine ⟨b, cap, cs, rfl, hcp, by omega, by omega, (hb b h1 h2).trans h3, fun j hj => ?_⟩
  obtain ⟨kv, g0, g1, g5⟩ := h4 j hj
  exact ⟨kv, g0, g1, g5.heap (Nat.le_refl _) hh fun b h6 h7 => hb b (by omega) h7⟩

theorem TermsOwn.below {lo hi : Nat} {w w' : World} {v : Value} {l : List PTerm} (h : TermsOwn lo hi w v l) (hb : Below hi w w') : TermsOwn lo hi w' v l := h.heap (Nat.le_refl _) (Nat.le_refl _) fun b _ h2 => hb.block b h2

theorem termInfo : (Tryd.prog.info? 131).map (fun i => (i.zero, i.size, i.bytes)) = some (some (.agg #[.slice none 0 0, .int .i64 0]), 2, 32) := by kernel_rfl

theorem set_two {cs : Array Value} {k j : Nat} {a b : Value} (h : k * 2 + 1 < cs.size) :
    (j = k → ((cs.setIfInBounds (k * 2) a).setIfInBounds (k * 2 + 1) b)[j * 2]? = some a ∧ ((cs.setIfInBounds (k * 2) a).setIfInBounds (k * 2 + 1) b)[j * 2 + 1]? = some b) ∧
    (j ≠ k → ∀ m, m < 2 → ((cs.setIfInBounds (k * 2) a).setIfInBounds (k * 2 + 1) b)[j * 2 + m]? = cs[j * 2 + m]?) := by
  constructor
  · rintro rfl
    simp only [Array.getElem?_setIfInBounds, Array.size_setIfInBounds]
    refine ⟨?_, ?_⟩ <;> (repeat rw [if_neg (by omega)]) <;> rw [if_pos trivial, if_pos (by omega)]
  · intro hne m hm
    simp only [Array.getElem?_setIfInBounds, Array.size_setIfInBounds]
    repeat rw [if_neg (by omega)]

theorem two_world (w1 : World) (B i : Nat) (a b : Value) {cs : Array Value} {t : TypeId} (hh : w1.heap[B]? = some (.cells cs t (0, 0))) :
    ((w1.setCell ⟨B, i, none⟩ a).setCell ⟨B, i + 1, none⟩ b).heap[B]? = some (.cells ((cs.setIfInBounds i a).setIfInBounds (i + 1) b) t (0, 0)) ∧
    ∀ m, m ≠ B → ((w1.setCell ⟨B, i, none⟩ a).setCell ⟨B, i + 1, none⟩ b).heap[m]? = w1.heap[m]? := by
  constructor
  · exact heap_setCell_same _ _ _ _ _ _ (heap_setCell_same _ _ _ _ _ _ hh)
  · intro m hm
    iterate 2 rw [heap_setCell_other _ _ _ _ (by exact hm)]

set_option maxHeartbeats 1000000 in
set_option maxRecDepth 100000 in
theorem toTerms_any (n₀ : Nat) (v : Value) (l : List PTerm) (w : World) (h : TermsAt n₀ w v l) (hn : n₀ ≤ w.heap.size) (hl : l.length ≤ 1048576) (hkl : ∀ x ∈ l, x.kinds.length ≤ 1048576) :
    Calls Tryd.prog 82 #[v] w fun e w' => ∃ u, e = .returned u ∧ TermsOwn w.heap.size w'.heap.size w' u l ∧ Below w.heap.size w w' ∧ w.heap.size < w'.heap.size := by
  obtain ⟨i0, hi, hz0, hz1, hz2⟩ := info_parts termInfo
  have hmk : ∀ w, (Instr.makeSlice 85 (.int .i64 (l.length : Int)) (.int .i64 (l.length : Int))).run Tryd.prog w = .ok (.slice (some ⟨w.heap.size, 0, none⟩) l.length l.length) (w.alloc (.cells (madeCells #[.slice none 0 0, .int .i64 0] (l.length * 2)) 131)) := fun w => by
    have := run_make (P := Tryd.prog) w 85 131 i0 (.agg #[.slice none 0 0, .int .i64 0]) Tryd.underlying85 hi hz0 .i64 .i64 l.length l.length (by omega) (Int.le_refl _) (by rw [hz2]; omega) (by omega)
    simpa [hz1, Value.cells] using this
  obtain ⟨a, cap, rfl, hk⟩ := h
  have HKL := hide hkl
  clear hi hz0 hz1 hz2 hkl
  go_enter Tryd.func82, Tryd.ntmps82
  go_wp2_with fail
  go_loopw [4] (fun i wr => ∃ (k : Nat) (cs : Array Value), k ≤ l.length ∧ i = .int .i64 k ∧ Hid (wr.heap[w.heap.size]? = some (.cells cs 131 (0, 0))) ∧ cs.size = l.length * 2 ∧ Hid (∀ j, j < k → ∃ kv, cs[j * 2]? = some kv ∧ cs[j * 2 + 1]? = some (.int .i64 (l[j]?.getD termNil).many) ∧ IntsOwn (w.heap.size + 1) wr.heap.size wr kv (l[j]?.getD termNil).kinds) ∧ Below w.heap.size w wr) (fun i _ => l.length - (intOf i).toNat)
  case atStart => exact ⟨0, _, Nat.zero_le _, rfl, alloc_new w _, size_madeCells _ _, fun j hj => by omega, (Below.refl _ _).alloc (Nat.le_refl _) _⟩
  case round =>
    obtain ⟨k, cs, hkl, rfl, hh, hcs, hall, hbr⟩ := hrel
    have hlt2 : w.heap.size < wr.heap.size := (Array.getElem?_eq_some_iff.1 hh.out).1
    by_cases hlt : k < l.length
    · obtain ⟨b, off, rfl, hb, hc⟩ := hk.resolve_left (by intro e; simp [e] at hlt)
      have hA := (hc k hlt).below hb (Nat.le_refl _) (hbr.mono hn)
      have hlx := HKL.out (l[k]?.getD termNil) (by simp [hlt])
      have g1 := hA.c1
      obtain ⟨kv, g0, hi⟩ := hA.c0
      have HCall := hide (toTerm_any n₀ (.agg #[kv, .int .i64 (l[k]?.getD termNil).many]) (l[k]?.getD termNil) wr ⟨kv, rfl, hi⟩ (by omega) hlx)
      obtain ⟨ak, ck, rfl, -⟩ := hi
      have hbw : b < wr.heap.size := by omega
      clear hA hc hk
      generalize hx : l[k]?.getD termNil = x at *
      have HX := hide hx
      clear hx
      go_wp2_with fail
      refine HCall.out.mono ?_
      rintro e w1 ⟨ku, rfl, hown, hb1, hs1⟩
      have hh1 : w1.heap[w.heap.size]? = some (.cells cs 131 (0, 0)) := (hb1.block _ hlt2).trans hh.out
      have hf1 : ∀ j, w1.frozen? ⟨w.heap.size, j, none⟩ = false := fun j => frozen_of_heap hh1 j
      have hc1 : ∀ j, j < cs.size → ∃ u, w1.cell? ⟨w.heap.size, j, none⟩ = some u := fun j hj => by rw [cell_of_heap hh1]; exact ⟨cs[j], by simp [hj]⟩
      obtain ⟨o0, p0⟩ := hc1 (k * 2) (by omega)
      obtain ⟨o1, p1⟩ := hc1 (k * 2 + 1) (by omega)
      have HOwn := hide hown
      obtain ⟨bo, co, cs', rfl, hlo, hhi, hbo, -⟩ := hown
      clear hc1 HCall hbo
      obtain ⟨q1, q2⟩ := two_world w1 w.heap.size (k * 2) (.slice (some ⟨bo, 0, none⟩) x.kinds.length co) (.int .i64 x.many) hh1
      have HQ1 := hide q1
      have HB5 : Hid (Below w.heap.size w ((w1.setCell ⟨w.heap.size, k * 2, none⟩ (.slice (some ⟨bo, 0, none⟩) x.kinds.length co)).setCell ⟨w.heap.size, k * 2 + 1, none⟩ (.int .i64 x.many))) :=
        ((hbr.trans (hb1.mono (by omega))).setCell (p := ⟨w.heap.size, k * 2, none⟩) (Nat.le_refl _) _).setCell (p := ⟨w.heap.size, k * 2 + 1, none⟩) (Nat.le_refl _) _
      have HAll2 : Hid (∀ j, j < k + 1 → ∃ kv, ((cs.setIfInBounds (k * 2) (.slice (some ⟨bo, 0, none⟩) x.kinds.length co)).setIfInBounds (k * 2 + 1) (.int .i64 x.many))[j * 2]? = some kv ∧ ((cs.setIfInBounds (k * 2) (.slice (some ⟨bo, 0, none⟩) x.kinds.length co)).setIfInBounds (k * 2 + 1) (.int .i64 x.many))[j * 2 + 1]? = some (.int .i64 (l[j]?.getD termNil).many) ∧ IntsOwn (w.heap.size + 1) ((w1.setCell ⟨w.heap.size, k * 2, none⟩ (.slice (some ⟨bo, 0, none⟩) x.kinds.length co)).setCell ⟨w.heap.size, k * 2 + 1, none⟩ (.int .i64 x.many)).heap.size ((w1.setCell ⟨w.heap.size, k * 2, none⟩ (.slice (some ⟨bo, 0, none⟩) x.kinds.length co)).setCell ⟨w.heap.size, k * 2 + 1, none⟩ (.int .i64 x.many)) kv (l[j]?.getD termNil).kinds) := by
        intro j hj
        obtain ⟨f1, f2⟩ := @set_two cs k j (.slice (some ⟨bo, 0, none⟩) x.kinds.length co) (.int .i64 x.many) (by omega)
        by_cases e : j = k
        · obtain ⟨a0, a1⟩ := f1 e
          rw [e, HX.out] at *
          exact ⟨_, a0, a1, HOwn.out.heap (by omega) (by simp) fun b h3 _ => q2 b (by omega)⟩
        · obtain ⟨kv, b0, b1, b5⟩ := hall.out j (by omega)
          have g := f2 e
          have g00 := g 0 (by omega)
          rw [Nat.add_zero] at g00
          refine ⟨kv, g00.trans b0, (g 1 (by omega)).trans b1, b5.heap (Nat.le_refl _) (by simp; omega) fun b h3 h4 => (q2 b (by omega)).trans (hb1.block b h4)⟩
      have hsz5 : ((cs.setIfInBounds (k * 2) (.slice (some ⟨bo, 0, none⟩) x.kinds.length co)).setIfInBounds (k * 2 + 1) (.int .i64 x.many)).size = l.length * 2 := by simp [hcs]
      have HSz := hide hsz5
      clear q1 q2 hsz5 hall hh hh1
      go_wp2_with fail
      exact ⟨⟨k + 1, _, by omega, by go_num, HQ1, HSz.out, HAll2, HB5.out⟩, by simp [intOf]; omega⟩
    · clear hk
      go_wp2_with fail
      go_ret
      exact ⟨_, rfl, ⟨w.heap.size, l.length, cs, rfl, Nat.le_refl _, Nat.le_refl _, hlt2, hh.out, fun j hj => hall.out j (by omega)⟩, hbr, hlt2⟩

theorem TermsOwn.room {lo hi : Nat} {w : World} {v : Value} {l : List PTerm} (h : TermsOwn lo hi w v l) : Roomy v l.length := by
  obtain ⟨b, cap, cs, rfl, hcp, -⟩ := h
  exact ⟨_, cap, rfl, hcp⟩
end Go.Proofs.YtpkblnponeonkaaDoor

namespace Go.Proofs.YtpkblnponeonkaaDoor
open Go.RowKit

set_option maxHeartbeats 1000000 in
set_option maxRecDepth 100000 in
theorem toRule_any (n₀ : Nat) (v : Value) (x : PRule) (w : World) (h : RuleVal n₀ w v x) (hn : n₀ ≤ w.heap.size) (hl : SmallRule x) :
    Calls Tryd.prog 50 #[v] w fun e w' => ∃ kv, e = .returned (.agg #[.string x.name, .bool x.leaf, kv]) ∧ TermsOwn w.heap.size w'.heap.size w' kv x.terms ∧ Below w.heap.size w w' ∧ w.heap.size < w'.heap.size := by
  obtain ⟨kv, rfl, hk⟩ := h
  have HT : Hid (∀ w1, Below w.heap.size w w1 → Calls Tryd.prog 82 #[kv] w1 fun e w' => ∃ u, e = .returned u ∧ TermsOwn w1.heap.size w'.heap.size w' u x.terms ∧ Below w1.heap.size w1 w' ∧ w1.heap.size < w'.heap.size) := fun w1 hb =>
    toTerms_any n₀ kv x.terms w1 (hk.below (Nat.le_refl _) (hb.mono hn)) (by have := hb.size; omega) hl.terms.len hl.terms.kinds
  obtain ⟨a, cap, rfl, -⟩ := hk
  clear hl
  have hW3 := (((Below.refl w.heap.size w).alloc (Nat.le_refl _) (.cells #[.string x.name, .bool x.leaf, .slice a x.terms.length cap] 79)).alloc (by simp) (.cells #[.string ⟨#[]⟩, .bool false, .slice none 0 0] 87)).alloc (by simp; omega) (.cells #[.string x.name, .bool x.leaf, .slice none 0 0] 87)
  go_enter Tryd.func50, Tryd.ntmps50
  go_wp2_with fail
  refine (HT.out _ hW3).mono ?_
  rintro e w1 ⟨u, rfl, hown, hb1, hlt⟩
  simp only [World.size_alloc] at hown hb1 hlt
  have hb1' := hW3.trans (hb1.mono (by omega))
  have hcx : ∀ b o, b < w.heap.size + 1 + 1 + 1 → w1.cell? ⟨b, o, none⟩ = _ := fun b o h => hb1.cell (p := ⟨b, o, none⟩) h
  have hfx : ∀ b o, b < w.heap.size + 1 + 1 + 1 → w1.frozen? ⟨b, o, none⟩ = _ := fun b o h => hb1.frozen (p := ⟨b, o, none⟩) h
  have hz1 : w.heap.size + 1 < w1.heap.size := by omega
  have hz2 : w.heap.size + 1 + 1 < w1.heap.size := by omega
  have HOwn := hide hown
  obtain ⟨bo, co, cs, rfl, -, hlo, hhi, hbo, -⟩ := hown
  have HHeap : Hid (∀ w2 : World, (∀ k, w.heap.size + 1 + 1 < k → w2.heap[k]? = w1.heap[k]?) → w2.heap.size = w1.heap.size → TermsOwn w.heap.size w2.heap.size w2 (.slice (some ⟨bo, 0, none⟩) x.terms.length co) x.terms) := fun w2 h2 hs2 =>
    HOwn.out.heap (by omega) (by omega) fun k h3 _ => h2 k (by omega)
  clear hbo HT
  go_wp2_with fail
  refine bodyPost_ret (v := .agg #[.string x.name, .bool x.leaf, .slice (some ⟨bo, 0, none⟩) x.terms.length co]) (by simp [results, Tryd.results50, go_sem, hcx]) rfl ⟨_, rfl, HHeap.out _ ?_ (by simp), ?_, by simp; omega⟩
  · intro k hk
    iterate 4 rw [heap_setCell_other _ _ _ _ (by show k ≠ _; simp; omega)]
  · exact (((hb1'.setCell (p := ⟨w.heap.size + 1 + 1, 2, none⟩) (by simp; omega) _).setCell (p := ⟨w.heap.size + 1, 0, none⟩) (by simp) _).setCell (p := ⟨w.heap.size + 1, 1, none⟩) (by simp) _).setCell (p := ⟨w.heap.size + 1, 2, none⟩) (by simp) _

/-- A list of rules in a block of its own, and the lists of their terms each in blocks of their own behind it. -/
def RulesOwn (lo hi : Nat) (w : World) (v : Value) (l : List PRule) : Prop :=
  ∃ b cap cs, v = .slice (some ⟨b, 0, none⟩) l.length cap ∧ l.length ≤ cap ∧ lo ≤ b ∧ b < hi ∧ w.heap[b]? = some (.cells cs 87 (0, 0)) ∧
    ∀ j, j < l.length → ∃ kv, cs[j * 3]? = some (.string (l[j]?.getD ruleNil).name) ∧ cs[j * 3 + 1]? = some (.bool (l[j]?.getD ruleNil).leaf) ∧ cs[j * 3 + 2]? = some kv ∧ TermsOwn (b + 1) hi w kv (l[j]?.getD ruleNil).terms

theorem RulesOwn.at {lo hi : Nat} {w : World} {v : Value} {l : List PRule} (h : RulesOwn lo hi w v l) : RulesAt hi w v l := by
  obtain ⟨b, cap, cs, rfl, hcp, h1, h2, h3, h4⟩ := h
  refine ⟨_, cap, rfl, .inr ⟨b, 0, rfl, h2, fun j hj => ?_⟩⟩
  obtain ⟨kv, g0, g1, g2, g5⟩ := h4 j hj
  rw [Nat.zero_add]
  exact ⟨by rw [cell_of_heap h3, g0], by rw [cell_of_heap h3, g1], kv, by rw [cell_of_heap h3, g2], g5.at⟩

theorem RulesOwn.heap {lo hi lo' hi' : Nat} {w w' : World} {v : Value} {l : List PRule} (h : RulesOwn lo hi w v l) (hl : lo' ≤ lo) (hh : hi ≤ hi') (hb : ∀ b, lo ≤ b → b < hi → w'.heap[b]? = w.heap[b]?) : RulesOwn lo' hi' w' v l := by
  obtain ⟨b, cap, cs, rfl, hcp, h1, h2, h3, h4⟩ := h
  refine ⟨b, cap, cs, rfl, hcp, by omega, by omega, (hb b h1 h2).trans h3, fun j hj => ?_⟩
  obtain ⟨kv, g0, g1, g2, g5⟩ := h4 j hj
  exact ⟨kv, g0, g1, g2, g5.heap (Nat.le_refl _) hh fun b h6 h7 => hb b (by omega) h7⟩

theorem RulesOwn.below {lo hi : Nat} {w w' : World} {v : Value} {l : List PRule} (h : RulesOwn lo hi w v l) (hb : Below hi w w') : RulesOwn lo hi w' v l := h.heap (Nat.le_refl _) (Nat.le_refl _) fun b _ h2 => hb.block b h2

theorem ruleInfo : (Tryd.prog.info? 87).map (fun i => (i.zero, i.size, i.bytes)) = some (some (.agg #[.string ⟨#[]⟩, .bool false, .slice none 0 0]), 3, 48) := by kernel_rfl

theorem set_three {cs : Array Value} {k j : Nat} {a b c : Value} (h : k * 3 + 2 < cs.size) :
    (j = k → (((cs.setIfInBounds (k * 3) a).setIfInBounds (k * 3 + 1) b).setIfInBounds (k * 3 + 2) c)[j * 3]? = some a ∧ (((cs.setIfInBounds (k * 3) a).setIfInBounds (k * 3 + 1) b).setIfInBounds (k * 3 + 2) c)[j * 3 + 1]? = some b ∧ (((cs.setIfInBounds (k * 3) a).setIfInBounds (k * 3 + 1) b).setIfInBounds (k * 3 + 2) c)[j * 3 + 2]? = some c) ∧
    (j ≠ k → ∀ m, m < 3 → (((cs.setIfInBounds (k * 3) a).setIfInBounds (k * 3 + 1) b).setIfInBounds (k * 3 + 2) c)[j * 3 + m]? = cs[j * 3 + m]?) := by
  constructor
  · rintro rfl
    simp only [Array.getElem?_setIfInBounds, Array.size_setIfInBounds]
    refine ⟨?_, ?_, ?_⟩ <;> (repeat rw [if_neg (by omega)]) <;> rw [if_pos trivial, if_pos (by omega)]
  · intro hne m hm
    simp only [Array.getElem?_setIfInBounds, Array.size_setIfInBounds]
    repeat rw [if_neg (by omega)]

theorem three_world (w1 : World) (B i : Nat) (a b c : Value) {cs : Array Value} {t : TypeId} (hh : w1.heap[B]? = some (.cells cs t (0, 0))) :
    (((w1.setCell ⟨B, i, none⟩ a).setCell ⟨B, i + 1, none⟩ b).setCell ⟨B, i + 2, none⟩ c).heap[B]? = some (.cells (((cs.setIfInBounds i a).setIfInBounds (i + 1) b).setIfInBounds (i + 2) c) t (0, 0)) ∧
    ∀ m, m ≠ B → (((w1.setCell ⟨B, i, none⟩ a).setCell ⟨B, i + 1, none⟩ b).setCell ⟨B, i + 2, none⟩ c).heap[m]? = w1.heap[m]? := by
  constructor
  · exact heap_setCell_same _ _ _ _ _ _ (heap_setCell_same _ _ _ _ _ _ (heap_setCell_same _ _ _ _ _ _ hh))
  · intro m hm
    iterate 3 rw [heap_setCell_other _ _ _ _ (by exact hm)]

set_option maxHeartbeats 1000000 in
set_option maxRecDepth 100000 in
theorem toRules_any (n₀ : Nat) (v : Value) (l : List PRule) (w : World) (h : RulesAt n₀ w v l) (hn : n₀ ≤ w.heap.size) (hl : SmallRules l) :
    Calls Tryd.prog 19 #[v] w fun e w' => ∃ u, e = .returned u ∧ RulesOwn w.heap.size w'.heap.size w' u l ∧ Below w.heap.size w w' ∧ w.heap.size < w'.heap.size := by
  have hl1 := hl.len
  obtain ⟨i0, hi, hz0, hz1, hz2⟩ := info_parts ruleInfo
  have hmk : ∀ w, (Instr.makeSlice 44 (.int .i64 (l.length : Int)) (.int .i64 (l.length : Int))).run Tryd.prog w = .ok (.slice (some ⟨w.heap.size, 0, none⟩) l.length l.length) (w.alloc (.cells (madeCells #[.string ⟨#[]⟩, .bool false, .slice none 0 0] (l.length * 3)) 87)) := fun w => by
    have := run_make (P := Tryd.prog) w 44 87 i0 (.agg #[.string ⟨#[]⟩, .bool false, .slice none 0 0]) Tryd.underlying44 hi hz0 .i64 .i64 l.length l.length (by omega) (Int.le_refl _) (by rw [hz2]; omega) (by omega)
    simpa [hz1, Value.cells] using this
  obtain ⟨a, cap, rfl, hk⟩ := h
  have HKL := hide hl.rules
  clear hi hz0 hz1 hz2 hl
  go_enter Tryd.func19, Tryd.ntmps19
  go_wp2_with fail
  go_loopw [4] (fun i wr => ∃ (k : Nat) (cs : Array Value), k ≤ l.length ∧ i = .int .i64 k ∧ Hid (wr.heap[w.heap.size]? = some (.cells cs 87 (0, 0))) ∧ cs.size = l.length * 3 ∧ Hid (∀ j, j < k → ∃ kv, cs[j * 3]? = some (.string (l[j]?.getD ruleNil).name) ∧ cs[j * 3 + 1]? = some (.bool (l[j]?.getD ruleNil).leaf) ∧ cs[j * 3 + 2]? = some kv ∧ TermsOwn (w.heap.size + 1) wr.heap.size wr kv (l[j]?.getD ruleNil).terms) ∧ Below w.heap.size w wr) (fun i _ => l.length - (intOf i).toNat)
  case atStart => exact ⟨0, _, Nat.zero_le _, rfl, alloc_new w _, size_madeCells _ _, fun j hj => by omega, (Below.refl _ _).alloc (Nat.le_refl _) _⟩
  case round =>
    obtain ⟨k, cs, hkl, rfl, hh, hcs, hall, hbr⟩ := hrel
    have hlt2 : w.heap.size < wr.heap.size := (Array.getElem?_eq_some_iff.1 hh.out).1
    by_cases hlt : k < l.length
    · obtain ⟨b, off, rfl, hb, hc⟩ := hk.resolve_left (by intro e; simp [e] at hlt)
      have hA := (hc k hlt).below hb (Nat.le_refl _) (hbr.mono hn)
      have HLX := hide (HKL.out (l[k]?.getD ruleNil) (by simp [hlt]))
      have g0 := hA.c0
      have g1 := hA.c1
      obtain ⟨kv, g2, hi⟩ := hA.c2
      have HCall := hide (toRule_any n₀ (.agg #[.string (l[k]?.getD ruleNil).name, .bool (l[k]?.getD ruleNil).leaf, kv]) (l[k]?.getD ruleNil) wr ⟨kv, rfl, hi⟩ (by omega) HLX.out)
      obtain ⟨ak, ck, rfl, -⟩ := hi
      have hbw : b < wr.heap.size := by omega
      clear hA hc hk HLX
      generalize hx : l[k]?.getD ruleNil = x at *
      have HX := hide hx
      clear hx
      go_wp2_with fail
      refine HCall.out.mono ?_
      rintro e w1 ⟨ku, rfl, hown, hb1, hs1⟩
      have hh1 : w1.heap[w.heap.size]? = some (.cells cs 87 (0, 0)) := (hb1.block _ hlt2).trans hh.out
      have hf1 : ∀ j, w1.frozen? ⟨w.heap.size, j, none⟩ = false := fun j => frozen_of_heap hh1 j
      have hc1 : ∀ j, j < cs.size → ∃ u, w1.cell? ⟨w.heap.size, j, none⟩ = some u := fun j hj => by rw [cell_of_heap hh1]; exact ⟨cs[j], by simp [hj]⟩
      obtain ⟨o0, p0⟩ := hc1 (k * 3) (by omega)
      obtain ⟨o1, p1⟩ := hc1 (k * 3 + 1) (by omega)
      obtain ⟨o2, p2⟩ := hc1 (k * 3 + 2) (by omega)
      have HOwn := hide hown
      obtain ⟨bo, co, cs', rfl, -, hlo, hhi, hbo, -⟩ := hown
      clear hc1 HCall hbo
      obtain ⟨q1, q2⟩ := three_world w1 w.heap.size (k * 3) (.string x.name) (.bool x.leaf) (.slice (some ⟨bo, 0, none⟩) x.terms.length co) hh1
      have HQ1 := hide q1
      have HB5 : Hid (Below w.heap.size w (((w1.setCell ⟨w.heap.size, k * 3, none⟩ (.string x.name)).setCell ⟨w.heap.size, k * 3 + 1, none⟩ (.bool x.leaf)).setCell ⟨w.heap.size, k * 3 + 2, none⟩ (.slice (some ⟨bo, 0, none⟩) x.terms.length co))) :=
        (((hbr.trans (hb1.mono (by omega))).setCell (p := ⟨w.heap.size, k * 3, none⟩) (Nat.le_refl _) _).setCell (p := ⟨w.heap.size, k * 3 + 1, none⟩) (Nat.le_refl _) _).setCell (p := ⟨w.heap.size, k * 3 + 2, none⟩) (Nat.le_refl _) _
      have HAll2 : Hid (∀ j, j < k + 1 → ∃ kv, (((cs.setIfInBounds (k * 3) (.string x.name)).setIfInBounds (k * 3 + 1) (.bool x.leaf)).setIfInBounds (k * 3 + 2) (.slice (some ⟨bo, 0, none⟩) x.terms.length co))[j * 3]? = some (.string (l[j]?.getD ruleNil).name) ∧ (((cs.setIfInBounds (k * 3) (.string x.name)).setIfInBounds (k * 3 + 1) (.bool x.leaf)).setIfInBounds (k * 3 + 2) (.slice (some ⟨bo, 0, none⟩) x.terms.length co))[j * 3 + 1]? = some (.bool (l[j]?.getD ruleNil).leaf) ∧ (((cs.setIfInBounds (k * 3) (.string x.name)).setIfInBounds (k * 3 + 1) (.bool x.leaf)).setIfInBounds (k * 3 + 2) (.slice (some ⟨bo, 0, none⟩) x.terms.length co))[j * 3 + 2]? = some kv ∧ TermsOwn (w.heap.size + 1) (((w1.setCell ⟨w.heap.size, k * 3, none⟩ (.string x.name)).setCell ⟨w.heap.size, k * 3 + 1, none⟩ (.bool x.leaf)).setCell ⟨w.heap.size, k * 3 + 2, none⟩ (.slice (some ⟨bo, 0, none⟩) x.terms.length co)).heap.size (((w1.setCell ⟨w.heap.size, k * 3, none⟩ (.string x.name)).setCell ⟨w.heap.size, k * 3 + 1, none⟩ (.bool x.leaf)).setCell ⟨w.heap.size, k * 3 + 2, none⟩ (.slice (some ⟨bo, 0, none⟩) x.terms.length co)) kv (l[j]?.getD ruleNil).terms) := by
        intro j hj
        obtain ⟨f1, f2⟩ := @set_three cs k j (.string x.name) (.bool x.leaf) (.slice (some ⟨bo, 0, none⟩) x.terms.length co) (by omega)
        by_cases e : j = k
        · obtain ⟨a0, a1, a2⟩ := f1 e
          rw [e, HX.out] at *
          exact ⟨_, a0, a1, a2, HOwn.out.heap (by omega) (by simp) fun b h3 _ => q2 b (by omega)⟩
        · obtain ⟨kv, b0, b1, b2, b5⟩ := hall.out j (by omega)
          have g := f2 e
          have g00 := g 0 (by omega)
          rw [Nat.add_zero] at g00
          refine ⟨kv, g00.trans b0, (g 1 (by omega)).trans b1, (g 2 (by omega)).trans b2, b5.heap (Nat.le_refl _) (by simp; omega) fun b h3 h4 => (q2 b (by omega)).trans (hb1.block b h4)⟩
      have hsz5 : (((cs.setIfInBounds (k * 3) (.string x.name)).setIfInBounds (k * 3 + 1) (.bool x.leaf)).setIfInBounds (k * 3 + 2) (.slice (some ⟨bo, 0, none⟩) x.terms.length co)).size = l.length * 3 := by simp [hcs]
      have HSz := hide hsz5
      clear q1 q2 hsz5 hall hh hh1
      go_wp2_with fail
      exact ⟨⟨k + 1, _, by omega, by go_num, HQ1, HSz.out, HAll2, HB5.out⟩, by simp [intOf]; omega⟩
    · clear hk
      go_wp2_with fail
      go_ret
      exact ⟨_, rfl, ⟨w.heap.size, l.length, cs, rfl, Nat.le_refl _, Nat.le_refl _, hlt2, hh.out, fun j hj => hall.out j (by omega)⟩, hbr, hlt2⟩

theorem RulesOwn.room {lo hi : Nat} {w : World} {v : Value} {l : List PRule} (h : RulesOwn lo hi w v l) : Roomy v l.length := by
  obtain ⟨b, cap, cs, rfl, hcp, -⟩ := h
  exact ⟨_, cap, rfl, hcp⟩
end Go.Proofs.YtpkblnponeonkaaDoor

namespace Go.Proofs.YtpkblnponeonkaaDoor
open Go.RowKit

/-- The terms of each rule have room for themselves. -/
def RulesRoom (n₀ : Nat) (w : World) (v : Value) (R : List PRule) : Prop :=
  ∀ b off cap, v = .slice (some ⟨b, off, none⟩) R.length cap → b < n₀ → ∀ j, j < R.length → ∀ tv, w.cell? ⟨b, off + j * 3 + 2, none⟩ = some tv → Roomy tv (R[j]?.getD ruleNil).terms.length

theorem RulesRoom.below {n₀ n₁ : Nat} {w w' : World} {v : Value} {R : List PRule} (h : RulesRoom n₀ w v R) (hV : RulesAt n₀ w v R) (hb : Below n₀ w w') : RulesRoom n₁ w' v R := by
  intro b off cap e _ j hj tv hc
  obtain ⟨a, cap', rfl, hk⟩ := hV
  simp only [Value.slice.injEq] at e
  obtain ⟨e1, -, -⟩ := e
  obtain ⟨b', off', e2, hb', -⟩ := hk.resolve_left (by intro e; simp [e] at hj)
  rw [e1] at e2
  simp only [Option.some.injEq, Addr.mk.injEq] at e2
  obtain ⟨rfl, rfl, -⟩ := e2
  rw [hb.cell (p := ⟨b, off + j * 3 + 2, none⟩) hb'] at hc
  exact h b off cap' (by rw [e1]) hb' j hj tv hc

theorem RulesOwn.rooms {lo hi : Nat} {w : World} {v : Value} {l : List PRule} (h : RulesOwn lo hi w v l) : RulesRoom hi w v l := by
  obtain ⟨b, cap, cs, rfl, hcp, h1, h2, h3, h4⟩ := h
  intro b' off cap' e _ j hj tv hc
  simp only [Value.slice.injEq, Option.some.injEq, Addr.mk.injEq] at e
  obtain ⟨⟨rfl, rfl, -⟩, -, -⟩ := e
  obtain ⟨kv, g0, g1, g2, g5⟩ := h4 j hj
  rw [Nat.zero_add, cell_of_heap h3, g2] at hc
  cases hc
  exact g5.room
end Go.Proofs.YtpkblnponeonkaaDoor

namespace Go.Proofs.YtpkblnponeonkaaDoor
open Go.RowKit

def markOfMany (k : Nat) : ByteArray := if k = 0 then ⟨#[]⟩ else if k = 1 then ⟨#[63]⟩ else if k = 2 then ⟨#[42]⟩ else ⟨#[43]⟩
def topOf (k : Nat) : Nat := if k < 2 then 1 else 12

/-- The table of amounts, cell for cell. -/
structure AmtAt (w : World) : Prop where
  mark : ∀ k, k < 4 → w.cell? ⟨7, k * 3, none⟩ = some (.string (markOfMany k))
  least : ∀ k, k < 4 → w.cell? ⟨7, k * 3 + 1, none⟩ = some (.int .i64 (leastOf (k : Int)))
  most : ∀ k, k < 4 → w.cell? ⟨7, k * 3 + 2, none⟩ = some (.int .i64 (topOf k))

theorem AmtAt.below {w w' : World} (h : AmtAt w) (hb : Below w.heap.size w w') : AmtAt w' := by
  have hg : 7 < w.heap.size := World.block_lt_of_cell? w _ (h.mark 0 (by decide))
  exact ⟨fun k hk => (hb.cell (p := ⟨_, _, none⟩) hg).trans (h.mark k hk), fun k hk => (hb.cell (p := ⟨_, _, none⟩) hg).trans (h.least k hk), fun k hk => (hb.cell (p := ⟨_, _, none⟩) hg).trans (h.most k hk)⟩

set_option maxRecDepth 100000 in
/-- Three cells that read as a text and two numbers hold these. -/
theorem amt_elem {H : Type} {enc : TypeId × Value → H} {w : World} {base fuel : Nat} {sp : Nat → Bool} {held : Bool} {cs : List Value} {l : List UInt8} {a b : Int} {p : List MemPlace}
    (h : DataW.trod enc Tryd.prog w base sp held fuel 217 cs = some (.agg [.lit (.string l), .lit (.int .i64 a), .lit (.int .i64 b)], p)) :
    cs = [.string ⟨l.toArray⟩, .int .i64 a, .int .i64 b] := by
  have cI : Tryd.prog.cellsOf 3 = 1 := by kernel_rfl
  have cS : Tryd.prog.cellsOf 9 = 1 := by kernel_rfl
  have cA : Tryd.prog.cellsOf 217 = 3 := by kernel_rfl
  obtain ⟨xs, n, _, ex, hlen, hxs, hf⟩ := DataW.trod_struct Tryd.underlying217 h
  rw [cA] at hlen
  have e := (DataW.agg.inj (Prod.mk.inj ex).1)
  match cs, hlen with
  | [c0, c1, c2], _ =>
    match xs, hxs with
    | [y0, y1, y2], _ =>
      simp only [List.map_cons, List.map_nil, List.cons.injEq, and_true] at e
      obtain ⟨q0, q1, q2⟩ := e
      have f0 : DataW.trod enc Tryd.prog w base sp held n 9 [c0] = some y0 := by have := hf 0 _ rfl; simpa [cS] using this
      have f1 : DataW.trod enc Tryd.prog w base sp held n 3 [c1] = some y1 := by have := hf 1 _ rfl; simpa [cI] using this
      have f2 : DataW.trod enc Tryd.prog w base sp held n 3 [c2] = some y2 := by have := hf 2 _ rfl; simpa [cI] using this
      obtain ⟨s0, h0, e0, _⟩ := DataW.trod_string Tryd.underlying9 f0
      obtain ⟨n1, h1, e1, _⟩ := DataW.trod_int Tryd.underlying3 f1
      obtain ⟨n2, h2, e2, _⟩ := DataW.trod_int Tryd.underlying3 f2
      subst e0 e1 e2
      simp only [DataW.lit.injEq, Lit.string.injEq, Lit.int.injEq, true_and] at q0 q1 q2
      simp only [List.cons.injEq, and_true] at h0 h1 h2
      subst q0 q1 q2 h0 h1 h2
      rfl

theorem list4 {α : Type} : ∀ {l : List α}, l.length = 4 → ∃ a b c d, l = [a, b, c, d]
  | [a, b, c, d], _ => ⟨a, b, c, d, rfl⟩

set_option maxRecDepth 100000 in
theorem amtAt_of_laid {W : World} {rest : List (String × DataW Unit)} (h : laidMet Tryd.prog (("loop.example/g00701/impl.amounts", Rows.laid_loop_example_g00701_impl_amounts) :: rest) W) : AmtAt W := by
  obtain ⟨ps, ⟨g, t, cs, fuel, p, q, hg, ht, hv, hd, _, _⟩, _, _⟩ := h
  obtain rfl := Option.some.inj ((show Tryd.prog.globalNamed "loop.example/g00701/impl.amounts" = some 7 by kernel_rfl).symm.trans hg)
  obtain rfl := Option.some.inj ((show (Tryd.prog.globals[7]?).map (·.type) = some 218 by kernel_rfl).symm.trans ht)
  have cA : Tryd.prog.cellsOf 217 = 3 := by kernel_rfl
  have hd' : DataW.trod _ Tryd.prog W _ _ _ fuel 218 cs.toList = some (.agg [.agg [.lit (.string []), .lit (.int .i64 1), .lit (.int .i64 1)], .agg [.lit (.string [63]), .lit (.int .i64 0), .lit (.int .i64 1)], .agg [.lit (.string [42]), .lit (.int .i64 0), .lit (.int .i64 12)], .agg [.lit (.string [43]), .lit (.int .i64 1), .lit (.int .i64 12)]], p) := hd
  obtain ⟨xs, m, _, ex, hlen, hl, hel⟩ := DataW.trod_array Tryd.underlying218 hd'
  have e := (DataW.agg.inj (Prod.mk.inj ex).1)
  obtain ⟨y0, y1, y2, y3, rfl⟩ := list4 hl
  simp only [List.map_cons, List.map_nil, List.cons.injEq, and_true] at e
  obtain ⟨q0, q1, q2, q3⟩ := e
  obtain ⟨d0, p0⟩ := y0
  obtain ⟨d1, p1⟩ := y1
  obtain ⟨d2, p2⟩ := y2
  obtain ⟨d3, p3⟩ := y3
  subst q0 q1 q2 q3
  have h0 := hel 0 (by decide)
  have h1 := hel 1 (by decide)
  have h2 := hel 2 (by decide)
  have h3 := hel 3 (by decide)
  rw [cA] at h0 h1 h2 h3
  have k0 := amt_elem h0
  have k1 := amt_elem h1
  have k2 := amt_elem h2
  have k3 := amt_elem h3
  have G : ∀ k j, k < 4 → j < 3 → W.cell? ⟨7, k * 3 + j, none⟩ = ((cs.toList.drop (k * 3)).take 3)[j]? := fun k j _ hj => by
    rw [World.var?_cell hg hv, List.getElem?_take, if_pos hj, List.getElem?_drop, Array.getElem?_toList]
  refine ⟨fun k hk => ?_, fun k hk => ?_, fun k hk => ?_⟩
  · have := G k 0 hk (by decide)
    rw [Nat.add_zero] at this
    rw [this]
    match k, hk with
    | 0, _ => rw [k0]; rfl
    | 1, _ => rw [k1]; rfl
    | 2, _ => rw [k2]; rfl
    | 3, _ => rw [k3]; rfl
  · rw [G k 1 hk (by decide)]
    match k, hk with
    | 0, _ => rw [k0]; rfl
    | 1, _ => rw [k1]; rfl
    | 2, _ => rw [k2]; rfl
    | 3, _ => rw [k3]; rfl
  · rw [G k 2 hk (by decide)]
    match k, hk with
    | 0, _ => rw [k0]; rfl
    | 1, _ => rw [k1]; rfl
    | 2, _ => rw [k2]; rfl
    | 3, _ => rw [k3]; rfl
end Go.Proofs.YtpkblnponeonkaaDoor

namespace Go.Proofs.YtpkblnponeonkaaDoor
open Go.RowKit

set_option maxHeartbeats 400000 in
theorem implIndex_any (n₀ : Nat) (v : Value) (ks : List Int) (n : Int) (w : World) (hk : IntsAt n₀ w v ks) (hl : ks.length ≤ 1048576) :
    Calls Tryd.prog 171 #[v, .int .i64 n] w fun e w' => ∃ q : Int, e = .returned (.int .i64 q) ∧ (0 ≤ q ↔ n ∈ ks) ∧ w' = w := by
  obtain ⟨a, cap, rfl, hk⟩ := hk
  go_enter Tryd.func171, Tryd.ntmps171
  go_wp2_with fail
  go_loop [8] (fun i => ∃ k : Nat, k ≤ ks.length ∧ i = .int .i64 k ∧ Hid (n ∉ ks.take k)) (fun i => ks.length - (intOf i).toNat)
  case atStart => exact ⟨0, Nat.zero_le _, rfl, by simp [Hid]⟩
  case round =>
    obtain ⟨k, hkl, rfl, hno⟩ := hrel
    by_cases hlt : k < ks.length
    · obtain ⟨b, off, rfl, hb, hc⟩ := hk.resolve_left (by intro e; simp [e] at hlt)
      have hck := hc k hlt
      have HMem : Hid (ks[k]?.getD 0 ∈ ks) := by simp [Hid, hlt]
      have HS : Hid (n ≠ ks[k]?.getD 0 → n ∉ ks.take (k + 1)) := fun h => by
        rw [List.take_succ_eq_append_getElem hlt, List.mem_append]
        rintro (h' | h')
        · exact hno.out h'
        · simp [hlt] at h h'; exact h h'
      clear hc
      generalize ks[k]?.getD 0 = y at *
      by_cases hy : n = y
      · have hy1 : (n == y) = true := by simp [hy]
        have HIn : Hid (n ∈ ks) := by rw [hy]; exact HMem.out
        clear hy
        go_wp2_with fail
        go_ret
        exact ⟨_, rfl, ⟨fun _ => HIn.out, fun _ => by omega⟩, rfl⟩
      · have hy1 : (n == y) = false := by simpa using hy
        have HS2 := hide (HS.out hy)
        clear hy
        go_wp2_with fail
        exact ⟨⟨k + 1, by omega, by go_num, HS2⟩, by simp [intOf]; omega⟩
    · have HN : Hid (n ∉ ks) := by have := hno.out; rwa [List.take_of_length_le (by omega)] at this
      clear hk
      go_wp2_with fail
      go_ret
      exact ⟨_, rfl, ⟨fun h => by omega, fun h => absurd h HN.out⟩, rfl⟩

set_option maxHeartbeats 400000 in
theorem implContains_any (n₀ : Nat) (v : Value) (ks : List Int) (n : Int) (w : World) (hk : IntsAt n₀ w v ks) (hl : ks.length ≤ 1048576) :
    Calls Tryd.prog 163 #[v, .int .i64 n] w fun e w' => e = .returned (.bool (hasB ks n)) ∧ w' = w := by
  have HI := hide (implIndex_any n₀ v ks n w hk hl)
  obtain ⟨a, cap, rfl, -⟩ := hk
  go_enter Tryd.func163, Tryd.ntmps163
  go_wp2_with fail
  refine HI.out.mono ?_
  rintro e w1 ⟨q, rfl, hq, rfl⟩
  have HQ := hide hq
  clear hq
  go_wp2_with fail
  go_ret
  refine ⟨ret_bool ?_, rfl⟩
  rw [Bool.eq_iff_iff, hasB_iff, ← HQ.out]
  simp
end Go.Proofs.YtpkblnponeonkaaDoor
