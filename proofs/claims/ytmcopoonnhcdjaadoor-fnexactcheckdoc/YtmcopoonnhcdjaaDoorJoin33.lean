/-
  The law package's copy of a whole document, and how it asks whether one is small enough.
  The law on CheckDoc answers true at every list of rules and document that a program can hold.
-/
import Derived.Test.YtmcopoonnhcdjaaDoorJoin32
import Derived.Test.YtmcopoonnhcdjaaDoorJoin31
import Derived.Test.YtmcopoonnhcdjaaDoorJoin26
import Derived.Deep.RegionHeld3
namespace Go.Proofs.YtmcopoonnhcdjaaDoor
open Go.RowKit

/-- The value is a document in memory of its own. -/
def DocOwn (lo hi : Nat) (w : World) (v : Value) (d : PDoc) : Prop :=
  ∃ s, v = .agg #[.int .i64 d.root, .int .i64 d.next, s] ∧ NodesOwn lo hi w s d.nodes

theorem DocOwn.at {lo hi : Nat} {w : World} {v : Value} {d : PDoc} (h : DocOwn lo hi w v d) : DocAt hi w v d := by
  obtain ⟨s, rfl, h⟩ := h
  exact ⟨s, rfl, h.at⟩

theorem DocOwn.below {lo hi : Nat} {w w' : World} {v : Value} {d : PDoc} (h : DocOwn lo hi w v d) (hb : Below hi w w') : DocOwn lo hi w' v d := by
  obtain ⟨s, rfl, h⟩ := h
  exact ⟨s, rfl, h.below hb⟩

theorem DocAt.form {n₀ : Nat} {w : World} {v : Value} {d : PDoc} (h : DocAt n₀ w v d) : ∃ a cap, v = .agg #[.int .i64 d.root, .int .i64 d.next, .slice a d.nodes.length cap] ∧ NodesAt n₀ w (.slice a d.nodes.length cap) d.nodes := by
  obtain ⟨s, rfl, hk⟩ := h
  have hk' := hk
  obtain ⟨a, cap, rfl, -⟩ := hk
  exact ⟨a, cap, rfl, hk'⟩

theorem NodesOwn.heap {lo hi lo' hi' : Nat} {w w' : World} {v : Value} {l : List PNode} (h : NodesOwn lo hi w v l) (hl : lo' ≤ lo) (hh : hi ≤ hi') (hb : ∀ b, lo ≤ b → b < hi → w'.heap[b]? = w.heap[b]?) : NodesOwn lo' hi' w' v l := by
  obtain ⟨b, cap, cs, rfl, h1, h2, h3, h4⟩ := h
  refine ⟨b, cap, cs, rfl, by omega, by omega, (hb b h1 h2).trans h3, fun j hj => ?_⟩
  obtain ⟨kv, g0, g1, g2, g3, g4, g5⟩ := h4 j hj
  exact ⟨kv, g0, g1, g2, g3, g4, g5.heap (Nat.le_refl _) hh fun b h6 h7 => hb b (by omega) h7⟩

/-- Small enough for the laws. -/
structure Small (d : PDoc) : Prop where
  len : d.nodes.length ≤ 1048576
  kids : ∀ x ∈ d.nodes, x.kids.length ≤ 1048576
  text : ∀ x ∈ d.nodes, x.text.size ≤ 1048576

set_option maxHeartbeats 1000000 in
set_option maxRecDepth 100000 in
theorem toDoc_any (n₀ : Nat) (v : Value) (d : PDoc) (w : World) (h : DocAt n₀ w v d) (hn : n₀ ≤ w.heap.size) (S : Small d) :
    Calls Tryd.prog 12 #[v] w fun e w' => ∃ u, e = .returned u ∧ DocOwn w.heap.size w'.heap.size w' u d ∧ Below w.heap.size w w' := by
  obtain ⟨s, rfl, hk⟩ := h
  have HT : Hid (∀ w1, Below w.heap.size w w1 → Calls Tryd.prog 41 #[s] w1 fun e w' => ∃ u, e = .returned u ∧ NodesOwn w1.heap.size w'.heap.size w' u d.nodes ∧ Below w1.heap.size w1 w') := fun w1 hb =>
    toNodes_any n₀ s d.nodes w1 (hk.below (Nat.le_refl _) (hb.mono hn)) (by have := hb.size; omega) S.len S.kids
  obtain ⟨a, cap, rfl, -⟩ := hk
  clear S
  have hW3 := (((Below.refl w.heap.size w).alloc (Nat.le_refl _) (.cells #[.int .i64 d.root, .int .i64 d.next, .slice a d.nodes.length cap] 25)).alloc (by simp) (.cells #[.int .i64 0, .int .i64 0, .slice none 0 0] 33)).alloc (by simp; omega) (.cells #[.int .i64 d.root, .int .i64 d.next, .slice none 0 0] 33)
  go_enter Tryd.func12, Tryd.ntmps12
  go_wp2_with fail
  refine (HT.out _ hW3).mono ?_
  rintro e w1 ⟨u, rfl, hown, hb1⟩
  simp only [World.size_alloc] at hown hb1
  have hlt := hb1.size
  simp only [World.size_alloc] at hlt
  have hb1' := hW3.trans (hb1.mono (by omega))
  have hcx : ∀ b o, b < w.heap.size + 1 + 1 + 1 → w1.cell? ⟨b, o, none⟩ = _ := fun b o h => hb1.cell (p := ⟨b, o, none⟩) h
  have hfx : ∀ b o, b < w.heap.size + 1 + 1 + 1 → w1.frozen? ⟨b, o, none⟩ = _ := fun b o h => hb1.frozen (p := ⟨b, o, none⟩) h
  have hz1 : w.heap.size + 1 < w1.heap.size := by omega
  have hz2 : w.heap.size + 1 + 1 < w1.heap.size := by omega
  have HOwn := hide hown
  obtain ⟨bo, co, cs, rfl, hlo, hhi, hbo, -⟩ := hown
  have HHeap : Hid (∀ w2 : World, (∀ k, w.heap.size + 1 + 1 < k → w2.heap[k]? = w1.heap[k]?) → w2.heap.size = w1.heap.size → NodesOwn w.heap.size w2.heap.size w2 (.slice (some ⟨bo, 0, none⟩) d.nodes.length co) d.nodes) := fun w2 h2 hs2 =>
    HOwn.out.heap (by omega) (by omega) fun k h3 _ => h2 k (by omega)
  clear hbo HT
  go_wp2_with fail
  refine bodyPost_ret (v := .agg #[.int .i64 d.root, .int .i64 d.next, .slice (some ⟨bo, 0, none⟩) d.nodes.length co]) (by simp [results, Tryd.results12, go_sem, hcx]) rfl ⟨_, rfl, ⟨_, rfl, HHeap.out _ ?_ (by simp)⟩, ?_⟩
  · intro k hk
    iterate 4 rw [heap_setCell_other _ _ _ _ (by show k ≠ _; simp; omega)]
  · exact (((hb1'.setCell (p := ⟨w.heap.size + 1 + 1, 2, none⟩) (by simp; omega) _).setCell (p := ⟨w.heap.size + 1, 0, none⟩) (by simp) _).setCell (p := ⟨w.heap.size + 1, 1, none⟩) (by simp) _).setCell (p := ⟨w.heap.size + 1, 2, none⟩) (by simp) _

set_option maxHeartbeats 400000 in
theorem szNode_any (x : PNode) (a : Option Addr) (cap : Nat) (c : Int) (w : World) (h0 : 0 ≤ c) (h1 : c ≤ 1048576) (hl : x.kids.length ≤ 9223372036854775807) (ht : x.text.size ≤ 9223372036854775807) :
    Calls Tryd.prog 63 #[.agg #[.int .i64 x.id, .int .i64 x.kind, .int .i64 x.attr, .string x.text, .slice a x.kids.length cap], .int .i64 c] w fun e w' => ∃ r, e = .returned (.int .i64 r) ∧ -1 ≤ r ∧ r ≤ c ∧ (0 ≤ r → x.kids.length ≤ 1048576 ∧ x.text.size ≤ 1048576) ∧ Below w.heap.size w w' := by
  by_cases h : c - x.text.size < 0
  · go_enter Tryd.func63, Tryd.ntmps63
    go_wp2_with fail
    go_ret
    exact ⟨_, rfl, by omega, by omega, by omega, (Below.refl _ _).alloc (Nat.le_refl _) _⟩
  · have HS := hide (fun w1 => szInts_any a x.kids.length cap (c - x.text.size) w1 (by omega) (by omega) hl)
    go_enter Tryd.func63, Tryd.ntmps63
    go_wp2_with fail
    refine (HS.out _).mono ?_
    rintro e w1 ⟨r, rfl, hr1, hr2, hr3, rfl⟩
    by_cases hr : r < 0
    · go_wp2_with fail
      go_ret
      exact ⟨_, rfl, by omega, by omega, by omega, (Below.refl _ _).alloc (Nat.le_refl _) _⟩
    · have HR := hide hr3
      clear hr3
      go_wp2_with fail
      go_ret
      exact ⟨_, rfl, by omega, by omega, fun h => ⟨HR.out h, by omega⟩, (Below.refl _ _).alloc (Nat.le_refl _) _⟩

set_option maxHeartbeats 1000000 in
set_option maxRecDepth 100000 in
theorem szNodes_any (n₀ : Nat) (v : Value) (l : List PNode) (c : Int) (w : World) (h : NodesAt n₀ w v l) (hn : n₀ ≤ w.heap.size) (h0 : 0 ≤ c) (h1 : c ≤ 1048576) (hl : l.length ≤ 9223372036854775807) (hk : ∀ x ∈ l, x.kids.length ≤ 9223372036854775807 ∧ x.text.size ≤ 9223372036854775807) :
    Calls Tryd.prog 35 #[v, .int .i64 c] w fun e w' => ∃ r, e = .returned (.int .i64 r) ∧ -1 ≤ r ∧ r ≤ c ∧ (0 ≤ r → l.length ≤ 1048576 ∧ ∀ x ∈ l, x.kids.length ≤ 1048576 ∧ x.text.size ≤ 1048576) ∧ Below w.heap.size w w' := by
  obtain ⟨a, cap, rfl, hk'⟩ := h
  have HK := hide hk
  clear hk
  by_cases h : c - l.length < 0
  · clear hk'
    go_enter Tryd.func35, Tryd.ntmps35
    go_wp2_with fail
    go_ret
    exact ⟨_, rfl, by omega, by omega, by omega, Below.refl _ _⟩
  · go_enter Tryd.func35, Tryd.ntmps35
    go_wp2_with fail
    go_loopw [1, 5] (fun cv i wr => ∃ (k : Nat) (r : Int), k ≤ l.length ∧ i = .int .i64 k ∧ cv = .int .i64 r ∧ 0 ≤ r ∧ r ≤ c ∧ Hid (∀ x ∈ l.take k, x.kids.length ≤ 1048576 ∧ x.text.size ≤ 1048576) ∧ Below w.heap.size w wr) (fun _ i _ => l.length - (intOf i).toNat)
    case atStart => exact ⟨0, _, Nat.zero_le _, rfl, rfl, by omega, by omega, by simp [Hid], Below.refl _ _⟩
    case round =>
      obtain ⟨k, r, hkl, rfl, rfl, hr0, hrc, hall, hbr⟩ := hrel
      have hsz := hbr.size
      by_cases hlt : k < l.length
      · obtain ⟨b, off, rfl, hb, hc⟩ := hk'.resolve_left (by intro e; simp [e] at hlt)
        have hA := (hc k hlt).below hb (Nat.le_refl _) (hbr.mono hn)
        have hlx := HK.out (l[k]?.getD nodeNil) (by simp [hlt])
        have g0 := hA.c0
        have g1 := hA.c1
        have g2 := hA.c2
        have g3 := hA.c3
        obtain ⟨kv, g4, ak, ck, rfl, -⟩ := hA.c4
        have HCall := hide (szNode_any (l[k]?.getD nodeNil) ak ck r wr hr0 (by omega) hlx.1 hlx.2)
        have HSn := hide (@take_no_snoc l k hlt (fun x => x.kids.length ≤ 1048576 ∧ x.text.size ≤ 1048576) hall.out)
        have hbw : b < wr.heap.size := by omega
        clear hA hc hk' hlx hall
        generalize l[k]?.getD nodeNil = x at *
        go_wp2_with fail
        refine HCall.out.mono ?_
        rintro e w1 ⟨r1, rfl, hr1, hr2, hr3, hb1⟩
        by_cases hr : r1 < 0
        · clear hr3
          go_wp2_with fail
          go_ret
          exact ⟨_, rfl, by omega, by omega, by omega, hbr.trans (hb1.mono hsz)⟩
        · have HA2 := hide (HSn.out (hr3 (by omega)))
          clear hr3 HCall
          go_wp2_with fail
          exact ⟨⟨k + 1, r1, by omega, by go_num, rfl, by omega, by omega, HA2, hbr.trans (hb1.mono hsz)⟩, by simp [intOf]; omega⟩
      · have HA2 : Hid (∀ x ∈ l, x.kids.length ≤ 1048576 ∧ x.text.size ≤ 1048576) := by have := hall.out; rwa [List.take_of_length_le (by omega)] at this
        clear hk' hall
        go_wp2_with fail
        go_ret
        exact ⟨_, rfl, by omega, by omega, fun _ => ⟨by omega, HA2.out⟩, hbr⟩

/-- Lists and texts that the model's memory can hold. -/
structure Fits (d : PDoc) : Prop where
  len : d.nodes.length ≤ 9223372036854775807
  nodes : ∀ x ∈ d.nodes, x.kids.length ≤ 9223372036854775807 ∧ x.text.size ≤ 9223372036854775807

set_option maxHeartbeats 400000 in
theorem szDoc_any (n₀ : Nat) (v : Value) (d : PDoc) (c : Int) (w : World) (h : DocAt n₀ w v d) (hn : n₀ ≤ w.heap.size) (h0 : 0 ≤ c) (h1 : c ≤ 1048576) (hf : Fits d) :
    Calls Tryd.prog 9 #[v, .int .i64 c] w fun e w' => ∃ r, e = .returned (.int .i64 r) ∧ -1 ≤ r ∧ r ≤ c ∧ (0 ≤ r → Small d) ∧ Below w.heap.size w w' := by
  obtain ⟨s, rfl, hk⟩ := h
  have hW := (Below.refl w.heap.size w).alloc (Nat.le_refl _) (.cells #[.int .i64 d.root, .int .i64 d.next, s] 25)
  have HS := hide (szNodes_any n₀ s d.nodes c (w.alloc (.cells #[.int .i64 d.root, .int .i64 d.next, s] 25)) (hk.below (Nat.le_refl _) (hW.mono hn)) (by simp; omega) h0 h1 hf.len hf.nodes)
  obtain ⟨a, cap, rfl, -⟩ := hk
  clear hf
  go_enter Tryd.func9, Tryd.ntmps9
  go_wp2_with fail
  refine HS.out.mono ?_
  rintro e w1 ⟨r, rfl, hr1, hr2, hr3, hb1⟩
  simp only [World.size_alloc] at hb1
  have HR : Hid (0 ≤ r → Small d) := fun h => ⟨(hr3 h).1, fun x hx => ((hr3 h).2 x hx).1, fun x hx => ((hr3 h).2 x hx).2⟩
  clear hr3
  by_cases hr : r < 0
  · go_wp2_with fail
    go_ret
    exact ⟨_, rfl, by omega, by omega, by omega, hW.trans (hb1.mono (by omega))⟩
  · go_wp2_with fail
    go_ret
    exact ⟨_, rfl, by omega, by omega, HR.out, hW.trans (hb1.mono (by omega))⟩
end Go.Proofs.YtmcopoonnhcdjaaDoor

namespace Go.Proofs.YtmcopoonnhcdjaaDoor
open Go.RowKit

set_option maxHeartbeats 4000000 in
set_option maxRecDepth 100000 in
theorem checkDocLaw (n₀ : Nat) (v dv : Value) (R : List PRule) (d : PDoc) (w : World) (h : RulesAt n₀ w v R) (hd : DocAt n₀ w dv d) (hn : n₀ ≤ w.heap.size) (hf : FitsRules R) (hfd : Fits d) (hwf : WfDoc d) (hA : AmtAt w) :
    Calls Tryd.prog 4 #[v, dv] w fun e w' => e = .returned (.bool true) ∧ Below w.heap.size w w' := by
  have HD := hide h
  have HDd := hide hd
  have HWf := hide hwf
  have HAm := hide hA
  obtain ⟨a, cap, rfl, -⟩ := h
  obtain ⟨sa, sc, rfl, -⟩ := hd.form
  obtain ⟨W0, hW0⟩ : ∃ W0, W0 = w.alloc (.cells #[.int .i64 d.root, .int .i64 d.next, .slice sa d.nodes.length sc] 25) := ⟨_, rfl⟩
  have hs0 : W0.heap.size = w.heap.size + 1 := by rw [hW0]; simp
  have hw0 : Below w.heap.size w W0 := by rw [hW0]; exact (Below.refl w.heap.size w).alloc (Nat.le_refl _) _
  have hh0 : W0.heap[w.heap.size]? = some (.cells #[.int .i64 d.root, .int .i64 d.next, .slice sa d.nodes.length sc] 25 (0, 0)) := by rw [hW0]; exact alloc_new w _
  have HOld : Hid (∀ wx, Below (w.heap.size + 1) W0 wx → Below w.heap.size w wx ∧ w.heap.size + 1 ≤ wx.heap.size) := fun wx hb => ⟨hw0.trans (hb.mono (by omega)), by have := hb.size; omega⟩
  have HB : Hid (∀ wx, Below (w.heap.size + 1) W0 wx → wx.cell? ⟨w.heap.size, 0, none⟩ = some (.int .i64 d.root) ∧ wx.cell? ⟨w.heap.size, 1, none⟩ = some (.int .i64 d.next) ∧ wx.cell? ⟨w.heap.size, 2, none⟩ = some (.slice sa d.nodes.length sc)) := fun wx hb => by
    have j1 := (hb.block w.heap.size (by omega)).trans hh0
    exact ⟨cell_of_heap j1 0, cell_of_heap j1 1, cell_of_heap j1 2⟩
  have HSz : Hid (∀ wx, Below (w.heap.size + 1) W0 wx → Calls Tryd.prog 8 #[.slice a R.length cap, .int .i64 1048576] wx fun e w' => ∃ r, e = .returned (.int .i64 r) ∧ -1 ≤ r ∧ r ≤ 1048576 ∧ Hid (0 ≤ r → SmallRules R) ∧ Below (w.heap.size + 1) W0 w') := fun wx hb =>
    (szRules_any n₀ _ R 1048576 wx (HD.out.below (Nat.le_refl _) ((HOld.out wx hb).1.mono hn)) (by have := (HOld.out wx hb).2; omega) (by omega) (by omega) hf).mono fun e w' ⟨r, he, h1, h2, h3, hb'⟩ => ⟨r, he, h1, h2, h3, hb.trans (hb'.mono (HOld.out wx hb).2)⟩
  have HSzD : Hid (∀ wx q, 0 ≤ q → q ≤ 1048576 → Below (w.heap.size + 1) W0 wx → Calls Tryd.prog 9 #[.agg #[.int .i64 d.root, .int .i64 d.next, .slice sa d.nodes.length sc], .int .i64 q] wx fun e w' => ∃ r, e = .returned (.int .i64 r) ∧ -1 ≤ r ∧ r ≤ q ∧ Hid (0 ≤ r → Small d) ∧ Below (w.heap.size + 1) W0 w') := fun wx q hq0 hq1 hb =>
    (szDoc_any n₀ _ d q wx (HDd.out.below (Nat.le_refl _) ((HOld.out wx hb).1.mono hn)) (by have := (HOld.out wx hb).2; omega) hq0 hq1 hfd).mono fun e w' ⟨r, he, h1, h2, h3, hb'⟩ => ⟨r, he, h1, h2, h3, hb.trans (hb'.mono (HOld.out wx hb).2)⟩
  obtain ⟨c1, c2, hc⟩ : ∃ c1 c2, (c1, c2) = docAns R d := ⟨_, _, rfl⟩
  have HC := hide hc
  have hb00 : Below (w.heap.size + 1) W0 W0 := Below.refl _ _
  clear hf hfd hwf hA hd hc hh0 hs0 hw0
  go_enter Tryd.func4, Tryd.ntmps4
  go_wp2_with fail
  rw [← hW0]
  clear hW0
  refine (HSz.out _ hb00).mono ?_
  rintro e w1 ⟨q, rfl, hq1, hq2, hq3, hb1⟩
  by_cases hq : q < 0
  · go_wp2_with fail
    go_ret
    exact ⟨rfl, (HOld.out _ hb1).1⟩
  have HS := hide (hq3.out (by omega))
  obtain ⟨x0, x1, x2⟩ := HB.out _ hb1
  have hz1 : w.heap.size < w1.heap.size := (HOld.out _ hb1).2
  clear hq3 HSz hb00
  go_wp2_with fail
  refine (HSzD.out _ q (by omega) hq2 hb1).mono ?_
  rintro e w2 ⟨q', rfl, hq1', hq2', hq3', hb2⟩
  clear x0 x1 x2
  by_cases hq' : q' < 0
  · go_wp2_with fail
    go_ret
    exact ⟨rfl, (HOld.out _ hb2).1⟩
  have HSd := hide (hq3'.out (by omega))
  clear hq3' HSzD hb1 hz1
  have HTo : Hid (∀ wx, Below (w.heap.size + 1) W0 wx → Calls Tryd.prog 11 #[.slice a R.length cap] wx fun e w' => ∃ ua uc, e = .returned (.slice ua R.length uc) ∧ Hid (RulesOwn wx.heap.size w'.heap.size w' (.slice ua R.length uc) R) ∧ Below (w.heap.size + 1) W0 w' ∧ Below wx.heap.size wx w') := fun wx hb =>
    (toRules_any n₀ _ R wx (HD.out.below (Nat.le_refl _) ((HOld.out wx hb).1.mono hn)) (by have := (HOld.out wx hb).2; omega) HS.out).mono fun e w' ⟨u, he, ho, hb', _⟩ => by
      obtain ⟨ua, uc, rfl, -⟩ := ho.at.form
      exact ⟨ua, uc, he, ho, hb.trans (hb'.mono (HOld.out wx hb).2), hb'⟩
  have HToD : Hid (∀ wx, Below (w.heap.size + 1) W0 wx → Calls Tryd.prog 12 #[.agg #[.int .i64 d.root, .int .i64 d.next, .slice sa d.nodes.length sc]] wx fun e w' => ∃ ua uc, e = .returned (.agg #[.int .i64 d.root, .int .i64 d.next, .slice ua d.nodes.length uc]) ∧ Hid (DocOwn wx.heap.size w'.heap.size w' (.agg #[.int .i64 d.root, .int .i64 d.next, .slice ua d.nodes.length uc]) d) ∧ Below (w.heap.size + 1) W0 w' ∧ Below wx.heap.size wx w') := fun wx hb =>
    (toDoc_any n₀ _ d wx (HDd.out.below (Nat.le_refl _) ((HOld.out wx hb).1.mono hn)) (by have := (HOld.out wx hb).2; omega) HSd.out).mono fun e w' ⟨u, he, ho, hb'⟩ => by
      obtain ⟨ua, uc, rfl, -⟩ := ho.at.form
      exact ⟨ua, uc, he, ho, hb.trans (hb'.mono (HOld.out wx hb).2), hb'⟩
  have HSp : Hid (∀ wx va vc ua uc lo hi lo' hi', Hid (RulesOwn lo hi wx (.slice va R.length vc) R) → hi ≤ wx.heap.size → Hid (DocOwn lo' hi' wx (.agg #[.int .i64 d.root, .int .i64 d.next, .slice ua d.nodes.length uc]) d) → hi' ≤ wx.heap.size → Below (w.heap.size + 1) W0 wx → Calls Tryd.prog 16 #[.slice va R.length vc, .agg #[.int .i64 d.root, .int .i64 d.next, .slice ua d.nodes.length uc]] wx fun e w' => e = .returned (.tuple #[.int .i64 c1, .int .i64 c2]) ∧ Below (w.heap.size + 1) W0 w' ∧ Below wx.heap.size wx w') := fun wx va vc ua uc lo hi lo' hi' ho hh ho' hh' hb => by
    obtain ⟨s, e1, hN⟩ := ho'.out.at
    simp only [Value.agg.injEq, Array.mk.injEq, List.cons.injEq, and_true, true_and] at e1
    subst e1
    exact (specCheckDoc_any wx.heap.size _ R d _ wx (ho.out.at.below hh (Below.refl _ _)) (ho.out.rooms.below ho.out.at (Below.refl _ _)) HS.out (hN.below hh' (Below.refl _ _)) (Nat.le_refl _) HSd.out.len HSd.out.kids (c1, c2) HC.out).mono fun e w' ⟨he, hb'⟩ => ⟨he, hb.trans (hb'.mono (HOld.out wx hb).2), hb'⟩
  have HIm : Hid (∀ wx va vc ua uc lo hi lo' hi', Hid (RulesOwn lo hi wx (.slice va R.length vc) R) → hi ≤ wx.heap.size → Hid (DocOwn lo' hi' wx (.agg #[.int .i64 d.root, .int .i64 d.next, .slice ua d.nodes.length uc]) d) → hi' ≤ wx.heap.size → Below (w.heap.size + 1) W0 wx → Calls Tryd.prog 17 #[.slice va R.length vc, .agg #[.int .i64 d.root, .int .i64 d.next, .slice ua d.nodes.length uc]] wx fun e w' => e = .returned (.tuple #[.int .i64 c1, .int .i64 c2]) ∧ Below (w.heap.size + 1) W0 w' ∧ Below wx.heap.size wx w') := fun wx va vc ua uc lo hi lo' hi' ho hh ho' hh' hb => by
    obtain ⟨s, e1, hN⟩ := ho'.out.at
    simp only [Value.agg.injEq, Array.mk.injEq, List.cons.injEq, and_true, true_and] at e1
    subst e1
    exact (implCheckDoc_any wx.heap.size _ R d _ wx (ho.out.at.below hh (Below.refl _ _)) ho.out.room HS.out (hN.below hh' (Below.refl _ _)) (Nat.le_refl _) HSd.out.len HWf.out (HAm.out.below (HOld.out wx hb).1) (c1, c2) HC.out).mono fun e w' ⟨he, hb'⟩ => ⟨he, hb.trans (hb'.mono (HOld.out wx hb).2), hb'⟩
  have hb2d := hb2.drew
  have HS3 : Hid (∀ wx, Below (w.heap.size + 1) W0 wx → wx.cell? ⟨w.heap.size, 0, none⟩ = some (.int .i64 d.root) ∧ wx.cell? ⟨w.heap.size, 1, none⟩ = some (.int .i64 d.next) ∧ wx.cell? ⟨w.heap.size, 2, none⟩ = some (.slice sa d.nodes.length sc)) := HB
  go_wp2_with fail
  go_cut [6, 7] (fun v6 v7 wc => v6 = .int .i64 c1 ∧ v7 = .int .i64 c2 ∧ Below (w.heap.size + 1) W0 wc)
  case first =>
    go_region_held3 (fun wx => wx.cell? ⟨w.heap.size, 0, none⟩ = some (.int .i64 d.root) ∧ wx.cell? ⟨w.heap.size, 1, none⟩ = some (.int .i64 d.next) ∧ wx.cell? ⟨w.heap.size, 2, none⟩ = some (.slice sa d.nodes.length sc)) (first | exact HS3.out _ (by assumption) | go_keep)
      (first
        | (go_at_call 11; refine (HTo.out _ (by assumption)).mono ?_; rintro e wa ⟨aa, ca, rfl, hoa, hba, hca⟩)
        | (go_at_call 12; refine (HToD.out _ (by assumption)).mono ?_; rintro e wb ⟨ab, cb, rfl, hob, hbb, hcb⟩; have hoa' := hide (hoa.out.below hcb); have hsb := hcb.size)
        | (go_at_call 16; refine (HSp.out _ _ _ _ _ _ _ _ _ hoa' hsb hob (Nat.le_refl _) (by assumption)).mono ?_; rintro e wc ⟨rfl, hbc, hcc⟩))
    all_goals
      go_wp2_with fail
      go_meet
      exact ⟨rfl, rfl, hbc⟩
  case rest =>
    obtain ⟨rfl, rfl, hbc⟩ := hcut
    clear hb2d hb2 HSp
    go_wp2_with fail
    refine (HTo.out _ hbc).mono ?_
    rintro e w4 ⟨a4, c4, rfl, ho4, hb4, -⟩
    obtain ⟨x0, x1, x2⟩ := HB.out _ hb4
    have hz4 : w.heap.size < w4.heap.size := (HOld.out _ hb4).2
    go_wp2_with fail
    refine (HToD.out _ hb4).mono ?_
    rintro e w5 ⟨a5, c5, rfl, ho5, hb5, hc5⟩
    have hz5 := hc5.size
    have hl5 := hb5.alloc (HOld.out _ hb5).2 (.cells #[.int .i64 d.root, .int .i64 d.next, .slice a5 d.nodes.length c5] 33)
    have hl5' := (Below.refl w5.heap.size w5).alloc (Nat.le_refl _) (.cells #[.int .i64 d.root, .int .i64 d.next, .slice a5 d.nodes.length c5] 33)
    have HO4 := hide ((ho4.out.below hc5).below (hl5'.mono hz5))
    have HO5 := hide (ho5.out.below hl5')
    have HIm5 := hide (HIm.out _ _ _ _ _ _ _ _ _ HO4 (by simp; omega) HO5 (by simp) hl5)
    clear x0 x1 x2 ho4 ho5 HIm
    go_wp2_with fail
    refine HIm5.out.mono ?_
    rintro e w6 ⟨rfl, hb6, hc6⟩
    have hz6 := hc6.size
    simp only [World.size_alloc] at hc6 hz6
    obtain ⟨y0, y1, y2⟩ := box_doc' hc6
    have HO4' := hide (HO4.out.below (hc6.mono (by omega)))
    have HO5' := hide (HO5.out.below (hc6.mono (by omega)))
    clear HIm5 HO4 HO5
    go_wp2_with fail
    refine (HTo.out _ hb6).mono ?_
    rintro e w7 ⟨a7, c7, rfl, ho7, hb7, hc7⟩
    have hz7 := hc7.size
    have HE7 := hide (eqRules_any w7.heap.size _ _ R w7 ((HO4'.out.below (hc7.mono (by omega))).at.below (by omega) (Below.refl _ _)) ho7.out.at (Nat.le_refl _) HS.out)
    clear ho7
    go_wp2_with fail
    refine HE7.out.mono ?_
    rintro e w8 ⟨rfl, hb8⟩
    have hz8 := hb8.size
    have hb8' := hb7.trans (hb8.mono (HOld.out _ hb7).2)
    have h68 := hc7.trans (hb8.mono (by omega))
    have h58 := hc6.trans (h68.mono (by omega))
    have HO5n := hide (HO5'.out.below (h68.mono (by omega)))
    have HS5 : Hid (∀ wx, Below w8.heap.size w8 wx → (wx.cell? ⟨w.heap.size, 0, none⟩ = some (.int .i64 d.root) ∧ wx.cell? ⟨w.heap.size, 1, none⟩ = some (.int .i64 d.next) ∧ wx.cell? ⟨w.heap.size, 2, none⟩ = some (.slice sa d.nodes.length sc)) ∧ (wx.cell? ⟨w5.heap.size, 0, none⟩ = some (.int .i64 d.root) ∧ wx.cell? ⟨w5.heap.size, 1, none⟩ = some (.int .i64 d.next) ∧ wx.cell? ⟨w5.heap.size, 2, none⟩ = some (.slice a5 d.nodes.length c5))) := fun wx hb =>
      ⟨HB.out _ (hb8'.trans (hb.mono (HOld.out _ hb8').2)), box_doc' (h58.trans (hb.mono (by omega)))⟩
    have HT8 : Hid (∀ wx, Below w8.heap.size w8 wx → Calls Tryd.prog 12 #[.agg #[.int .i64 d.root, .int .i64 d.next, .slice sa d.nodes.length sc]] wx fun e w' => ∃ ua uc, e = .returned (.agg #[.int .i64 d.root, .int .i64 d.next, .slice ua d.nodes.length uc]) ∧ Hid (DocAt w'.heap.size w' (.agg #[.int .i64 d.root, .int .i64 d.next, .slice ua d.nodes.length uc]) d) ∧ Below w8.heap.size w8 w') := fun wx hb =>
      (HToD.out wx (hb8'.trans (hb.mono (HOld.out _ hb8').2))).mono fun e w' ⟨ua, uc, he, ho, _, hc⟩ => ⟨ua, uc, he, ho.out.at, hb.trans (hc.mono hb.size)⟩
    have HE8 : Hid (∀ wx ua uc, Below w8.heap.size w8 wx → Hid (DocAt wx.heap.size wx (.agg #[.int .i64 d.root, .int .i64 d.next, .slice ua d.nodes.length uc]) d) → Calls Tryd.prog 15 #[.agg #[.int .i64 d.root, .int .i64 d.next, .slice a5 d.nodes.length c5], .agg #[.int .i64 d.root, .int .i64 d.next, .slice ua d.nodes.length uc]] wx fun e w' => e = .returned (.bool true) ∧ Below w8.heap.size w8 w') := fun wx ua uc hb ho => by
      have hsx := hb.size
      exact (eqDoc_any wx.heap.size _ _ d wx ((HO5n.out.below (hb.mono (by omega))).at.below (by omega) (Below.refl _ _)) ho.out (Nat.le_refl _) HSd.out.len HSd.out.kids).mono fun e w' ⟨he, hb'⟩ => ⟨he, hb.trans (hb'.mono hsx)⟩
    have hd8 : Below w8.heap.size w8 w8.drew := (Below.refl _ _).drew
    have HOl8 := hide (HOld.out _ hb8')
    clear HE7 HO4' HO5' HB HTo HToD HS3 y0 y1 y2 HOld
    go_wp2_with fail
    go_region_held3 (fun wx => (wx.cell? ⟨w.heap.size, 0, none⟩ = some (.int .i64 d.root) ∧ wx.cell? ⟨w.heap.size, 1, none⟩ = some (.int .i64 d.next) ∧ wx.cell? ⟨w.heap.size, 2, none⟩ = some (.slice sa d.nodes.length sc)) ∧ (wx.cell? ⟨w5.heap.size, 0, none⟩ = some (.int .i64 d.root) ∧ wx.cell? ⟨w5.heap.size, 1, none⟩ = some (.int .i64 d.next) ∧ wx.cell? ⟨w5.heap.size, 2, none⟩ = some (.slice a5 d.nodes.length c5))) (first | exact HS5.out _ (by assumption) | go_keep)
      (first
        | (go_at_call 12; refine (HT8.out _ (by assumption)).mono ?_; rintro e w9 ⟨a9, c9, rfl, ho9, hb9⟩)
        | (go_at_call 15; refine (HE8.out _ _ _ (by assumption) (by assumption)).mono ?_; rintro e w10 ⟨rfl, hb10⟩))
    all_goals
      go_wp2_with fail
      go_ret
      exact ⟨rfl, HOl8.out.1.trans (hb10.mono (by have := HOl8.out.2; omega))⟩
end Go.Proofs.YtmcopoonnhcdjaaDoor
