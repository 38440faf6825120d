/-
  The law package's copy of a whole document, and how it asks whether one is small enough.
-/
import Derived.Test.YtfjhpfgffbghdaaLawTo
namespace Go.Proofs.Ytfjhpfgffbghdaa
open Go.RowKit

/-- The value is a document in memory of its own. -/
def DocOwn (lo hi : Nat) (w : World) (v : Value) (d : PDoc) : Prop :=
  ∃ s, v = .agg #[.int .i64 d.root, .int .i64 d.next, s] ∧ NodesOwn lo hi w s d.nodes

theorem DocOwn.at {lo hi : Nat} {w : World} {v : Value} {d : PDoc} (h : DocOwn lo hi w v d) : DocAt hi w v d := by
  obtain ⟨s, rfl, h⟩ := h
  exact ⟨s, rfl, h.at⟩

theorem DocOwn.below {lo hi : Nat} {w w' : World} {v : Value} {d : PDoc} (h : DocOwn lo hi w v d) (hb : Below hi w w') : DocOwn lo hi w' v d := by
  obtain ⟨s, rfl, h⟩ := h
  exact ⟨s, rfl, h.below hb⟩

theorem DocAt.form {n₀ : Nat} {w : World} {v : Value} {d : PDoc} (h : DocAt n₀ w v d) : ∃ a cap, v = .agg #[.int .i64 d.root, .int .i64 d.next, .slice a d.nodes.length cap] ∧ NodesAt n₀ w (.slice a d.nodes.length cap) d.nodes := by
  obtain ⟨s, rfl, hk⟩ := h
  have hk' := hk
  obtain ⟨a, cap, rfl, -⟩ := hk
  exact ⟨a, cap, rfl, hk'⟩

theorem NodesOwn.heap {lo hi lo' hi' : Nat} {w w' : World} {v : Value} {l : List PNode} (h : NodesOwn lo hi w v l) (hl : lo' ≤ lo) (hh : hi ≤ hi') (hb : ∀ b, lo ≤ b → b < hi → w'.heap[b]? = w.heap[b]?) : NodesOwn lo' hi' w' v l := by
  obtain ⟨b, cap, cs, rfl, h1, h2, h3, h4⟩ := h
  refine ⟨b, cap, cs, rfl, by omega, by omega, (hb b h1 h2).trans h3, fun j hj => ?_⟩
  obtain ⟨kv, g0, g1, g2, g3, g4, g5⟩ := h4 j hj
  exact ⟨kv, g0, g1, g2, g3, g4, g5.heap (Nat.le_refl _) hh fun b h6 h7 => hb b (by omega) h7⟩

/-- Small enough for the laws. -/
structure Small (d : PDoc) : Prop where
  len : d.nodes.length ≤ 1048576
  kids : ∀ x ∈ d.nodes, x.kids.length ≤ 1048576
  text : ∀ x ∈ d.nodes, x.text.size ≤ 1048576

set_option maxHeartbeats 1000000 in
set_option maxRecDepth 100000 in
theorem toDoc_any (n₀ : Nat) (v : Value) (d : PDoc) (w : World) (h : DocAt n₀ w v d) (hn : n₀ ≤ w.heap.size) (S : Small d) :
    Calls Try.prog 11 #[v] w fun e w' => ∃ u, e = .returned u ∧ DocOwn w.heap.size w'.heap.size w' u d ∧ Below w.heap.size w w' := by
  obtain ⟨s, rfl, hk⟩ := h
  have HT : Hid (∀ w1, Below w.heap.size w w1 → Calls Try.prog 34 #[s] w1 fun e w' => ∃ u, e = .returned u ∧ NodesOwn w1.heap.size w'.heap.size w' u d.nodes ∧ Below w1.heap.size w1 w') := fun w1 hb =>
    toNodes_any n₀ s d.nodes w1 (hk.below (Nat.le_refl _) (hb.mono hn)) (by have := hb.size; omega) S.len S.kids
  obtain ⟨a, cap, rfl, -⟩ := hk
  clear S
  have hW3 := (((Below.refl w.heap.size w).alloc (Nat.le_refl _) (.cells #[.int .i64 d.root, .int .i64 d.next, .slice a d.nodes.length cap] 24)).alloc (by simp) (.cells #[.int .i64 0, .int .i64 0, .slice none 0 0] 31)).alloc (by simp; omega) (.cells #[.int .i64 d.root, .int .i64 d.next, .slice none 0 0] 31)
  go_enter Try.func11, Try.ntmps11
  go_wp2_with fail
  refine (HT.out _ hW3).mono ?_
  rintro e w1 ⟨u, rfl, hown, hb1⟩
  simp only [World.size_alloc] at hown hb1
  have hlt := hb1.size
  simp only [World.size_alloc] at hlt
  have hb1' := hW3.trans (hb1.mono (by omega))
  have hcx : ∀ b o, b < w.heap.size + 1 + 1 + 1 → w1.cell? ⟨b, o, none⟩ = _ := fun b o h => hb1.cell (p := ⟨b, o, none⟩) h
  have hfx : ∀ b o, b < w.heap.size + 1 + 1 + 1 → w1.frozen? ⟨b, o, none⟩ = _ := fun b o h => hb1.frozen (p := ⟨b, o, none⟩) h
  have hz1 : w.heap.size + 1 < w1.heap.size := by omega
  have hz2 : w.heap.size + 1 + 1 < w1.heap.size := by omega
  have HOwn := hide hown
  obtain ⟨bo, co, cs, rfl, hlo, hhi, hbo, -⟩ := hown
  have HHeap : Hid (∀ w2 : World, (∀ k, w.heap.size + 1 + 1 < k → w2.heap[k]? = w1.heap[k]?) → w2.heap.size = w1.heap.size → NodesOwn w.heap.size w2.heap.size w2 (.slice (some ⟨bo, 0, none⟩) d.nodes.length co) d.nodes) := fun w2 h2 hs2 =>
    HOwn.out.heap (by omega) (by omega) fun k h3 _ => h2 k (by omega)
  clear hbo HT
  go_wp2_with fail
  refine bodyPost_ret (v := .agg #[.int .i64 d.root, .int .i64 d.next, .slice (some ⟨bo, 0, none⟩) d.nodes.length co]) (by simp [results, Try.results11, go_sem, hcx]) rfl ⟨_, rfl, ⟨_, rfl, HHeap.out _ ?_ (by simp)⟩, ?_⟩
  · intro k hk
    iterate 4 rw [heap_setCell_other _ _ _ _ (by show k ≠ _; simp; omega)]
  · exact (((hb1'.setCell (p := ⟨w.heap.size + 1 + 1, 2, none⟩) (by simp; omega) _).setCell (p := ⟨w.heap.size + 1, 0, none⟩) (by simp) _).setCell (p := ⟨w.heap.size + 1, 1, none⟩) (by simp) _).setCell (p := ⟨w.heap.size + 1, 2, none⟩) (by simp) _

set_option maxHeartbeats 400000 in
theorem szNode_any (x : PNode) (a : Option Addr) (cap : Nat) (c : Int) (w : World) (h0 : 0 ≤ c) (h1 : c ≤ 1048576) (hl : x.kids.length ≤ 9223372036854775807) (ht : x.text.size ≤ 9223372036854775807) :
    Calls Try.prog 54 #[.agg #[.int .i64 x.id, .int .i64 x.kind, .int .i64 x.attr, .string x.text, .slice a x.kids.length cap], .int .i64 c] w fun e w' => ∃ r, e = .returned (.int .i64 r) ∧ -1 ≤ r ∧ r ≤ c ∧ (0 ≤ r → x.kids.length ≤ 1048576 ∧ x.text.size ≤ 1048576) ∧ Below w.heap.size w w' := by
  by_cases h : c - x.text.size < 0
  · go_enter Try.func54, Try.ntmps54
    go_wp2_with fail
    go_ret
    exact ⟨_, rfl, by omega, by omega, by omega, (Below.refl _ _).alloc (Nat.le_refl _) _⟩
  · have HS := hide (fun w1 => szInts_any a x.kids.length cap (c - x.text.size) w1 (by omega) (by omega) hl)
    go_enter Try.func54, Try.ntmps54
    go_wp2_with fail
    refine (HS.out _).mono ?_
    rintro e w1 ⟨r, rfl, hr1, hr2, hr3, rfl⟩
    by_cases hr : r < 0
    · go_wp2_with fail
      go_ret
      exact ⟨_, rfl, by omega, by omega, by omega, (Below.refl _ _).alloc (Nat.le_refl _) _⟩
    · have HR := hide hr3
      clear hr3
      go_wp2_with fail
      go_ret
      exact ⟨_, rfl, by omega, by omega, fun h => ⟨HR.out h, by omega⟩, (Below.refl _ _).alloc (Nat.le_refl _) _⟩

set_option maxHeartbeats 1000000 in
set_option maxRecDepth 100000 in
theorem szNodes_any (n₀ : Nat) (v : Value) (l : List PNode) (c : Int) (w : World) (h : NodesAt n₀ w v l) (hn : n₀ ≤ w.heap.size) (h0 : 0 ≤ c) (h1 : c ≤ 1048576) (hl : l.length ≤ 9223372036854775807) (hk : ∀ x ∈ l, x.kids.length ≤ 9223372036854775807 ∧ x.text.size ≤ 9223372036854775807) :
    Calls Try.prog 31 #[v, .int .i64 c] w fun e w' => ∃ r, e = .returned (.int .i64 r) ∧ -1 ≤ r ∧ r ≤ c ∧ (0 ≤ r → l.length ≤ 1048576 ∧ ∀ x ∈ l, x.kids.length ≤ 1048576 ∧ x.text.size ≤ 1048576) ∧ Below w.heap.size w w' := by
  obtain ⟨a, cap, rfl, hk'⟩ := h
  have HK := hide hk
  clear hk
  by_cases h : c - l.length < 0
  · clear hk'
    go_enter Try.func31, Try.ntmps31
    go_wp2_with fail
    go_ret
    exact ⟨_, rfl, by omega, by omega, by omega, Below.refl _ _⟩
  · go_enter Try.func31, Try.ntmps31
    go_wp2_with fail
    go_loopw [1, 5] (fun cv i wr => ∃ (k : Nat) (r : Int), k ≤ l.length ∧ i = .int .i64 k ∧ cv = .int .i64 r ∧ 0 ≤ r ∧ r ≤ c ∧ Hid (∀ x ∈ l.take k, x.kids.length ≤ 1048576 ∧ x.text.size ≤ 1048576) ∧ Below w.heap.size w wr) (fun _ i _ => l.length - (intOf i).toNat)
    case atStart => exact ⟨0, _, Nat.zero_le _, rfl, rfl, by omega, by omega, by simp [Hid], Below.refl _ _⟩
    case round =>
      obtain ⟨k, r, hkl, rfl, rfl, hr0, hrc, hall, hbr⟩ := hrel
      have hsz := hbr.size
      by_cases hlt : k < l.length
      · obtain ⟨b, off, rfl, hb, hc⟩ := hk'.resolve_left (by intro e; simp [e] at hlt)
        have hA := (hc k hlt).below hb (Nat.le_refl _) (hbr.mono hn)
        have hlx := HK.out (l[k]?.getD nodeNil) (by simp [hlt])
        have g0 := hA.c0
        have g1 := hA.c1
        have g2 := hA.c2
        have g3 := hA.c3
        obtain ⟨kv, g4, ak, ck, rfl, -⟩ := hA.c4
        have HCall := hide (szNode_any (l[k]?.getD nodeNil) ak ck r wr hr0 (by omega) hlx.1 hlx.2)
        have HSn := hide (@take_no_snoc l k hlt (fun x => x.kids.length ≤ 1048576 ∧ x.text.size ≤ 1048576) hall.out)
        have hbw : b < wr.heap.size := by omega
        clear hA hc hk' hlx hall
        generalize l[k]?.getD nodeNil = x at *
        go_wp2_with fail
        refine HCall.out.mono ?_
        rintro e w1 ⟨r1, rfl, hr1, hr2, hr3, hb1⟩
        by_cases hr : r1 < 0
        · clear hr3
          go_wp2_with fail
          go_ret
          exact ⟨_, rfl, by omega, by omega, by omega, hbr.trans (hb1.mono hsz)⟩
        · have HA2 := hide (HSn.out (hr3 (by omega)))
          clear hr3 HCall
          go_wp2_with fail
          exact ⟨⟨k + 1, r1, by omega, by go_num, rfl, by omega, by omega, HA2, hbr.trans (hb1.mono hsz)⟩, by simp [intOf]; omega⟩
      · have HA2 : Hid (∀ x ∈ l, x.kids.length ≤ 1048576 ∧ x.text.size ≤ 1048576) := by have := hall.out; rwa [List.take_of_length_le (by omega)] at this
        clear hk' hall
        go_wp2_with fail
        go_ret
        exact ⟨_, rfl, by omega, by omega, fun _ => ⟨by omega, HA2.out⟩, hbr⟩

/-- Lists and texts that the model's memory can hold. -/
structure Fits (d : PDoc) : Prop where
  len : d.nodes.length ≤ 9223372036854775807
  nodes : ∀ x ∈ d.nodes, x.kids.length ≤ 9223372036854775807 ∧ x.text.size ≤ 9223372036854775807

set_option maxHeartbeats 400000 in
theorem szDoc_any (n₀ : Nat) (v : Value) (d : PDoc) (c : Int) (w : World) (h : DocAt n₀ w v d) (hn : n₀ ≤ w.heap.size) (h0 : 0 ≤ c) (h1 : c ≤ 1048576) (hf : Fits d) :
    Calls Try.prog 8 #[v, .int .i64 c] w fun e w' => ∃ r, e = .returned (.int .i64 r) ∧ -1 ≤ r ∧ r ≤ c ∧ (0 ≤ r → Small d) ∧ Below w.heap.size w w' := by
  obtain ⟨s, rfl, hk⟩ := h
  have hW := (Below.refl w.heap.size w).alloc (Nat.le_refl _) (.cells #[.int .i64 d.root, .int .i64 d.next, s] 24)
  have HS := hide (szNodes_any n₀ s d.nodes c (w.alloc (.cells #[.int .i64 d.root, .int .i64 d.next, s] 24)) (hk.below (Nat.le_refl _) (hW.mono hn)) (by simp; omega) h0 h1 hf.len hf.nodes)
  obtain ⟨a, cap, rfl, -⟩ := hk
  clear hf
  go_enter Try.func8, Try.ntmps8
  go_wp2_with fail
  refine HS.out.mono ?_
  rintro e w1 ⟨r, rfl, hr1, hr2, hr3, hb1⟩
  simp only [World.size_alloc] at hb1
  have HR : Hid (0 ≤ r → Small d) := fun h => ⟨(hr3 h).1, fun x hx => ((hr3 h).2 x hx).1, fun x hx => ((hr3 h).2 x hx).2⟩
  clear hr3
  by_cases hr : r < 0
  · go_wp2_with fail
    go_ret
    exact ⟨_, rfl, by omega, by omega, by omega, hW.trans (hb1.mono (by omega))⟩
  · go_wp2_with fail
    go_ret
    exact ⟨_, rfl, by omega, by omega, HR.out, hW.trans (hb1.mono (by omega))⟩
end Go.Proofs.Ytfjhpfgffbghdaa
