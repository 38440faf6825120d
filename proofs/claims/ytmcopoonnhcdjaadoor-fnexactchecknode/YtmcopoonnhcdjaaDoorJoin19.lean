/-
  What the program's check of one node answers.
  What is asked of a schema ahead of all else.
  CheckNode: what the program answers.
-/
import Derived.Test.YtmcopoonnhcdjaaDoorJoin18
import Derived.Test.YtmcopoonnhcdjaaDoorJoin14
namespace Go.Proofs.YtmcopoonnhcdjaaDoor
open Go.RowKit

theorem SchemaP.at {R : List PRule} (h : SchemaP R) {m : Nat} (hm : m < R.length) : RuleP R.length (R[m]?.getD ruleNil) := by
  rw [List.getElem?_eq_getElem hm]
  exact h.rules _ (List.getElem_mem hm)

theorem SmallRules.at {R : List PRule} (h : SmallRules R) {m : Nat} (hm : m < R.length) : SmallRule (R[m]?.getD ruleNil) := by
  rw [List.getElem?_eq_getElem hm]
  exact h.rules _ (List.getElem_mem hm)

set_option maxHeartbeats 8000000 in
set_option maxRecDepth 100000 in
theorem check_any (l : List PNode) (ad : Int → Nat) (up : Int → Option Int) (x : PNode) (hx : x ∈ l) (n₀ : Nat) (R : List PRule) (v : Value) (w : World) (hr : (idsOf l).Pairwise (· < ·)) (hks : ∀ k ∈ x.kids, k ∈ idsOf l) (hT : TreeAt w.heap.size w l ad up) (h12 : x.kids.length ≤ 12) (h1 : 1 ≤ x.kind)
    (hV : RulesAt n₀ w v R) (hn : n₀ ≤ w.heap.size) (hP : SchemaP R) (hS : SmallRules R) (hA : AmtAt w) (c : Int) (hc : c = checkOf R l x) :
    Calls Tryd.prog 43 #[.pointer (some ⟨ad x.id, 0, none⟩), v] w fun e w' => e = .returned (.int .i64 c) ∧ Below w.heap.size w w' := by
  have hB := hT x hx
  have c1 := hB.c1
  have hlt := hB.lt
  have hfew := hP.few
  obtain ⟨a, cap, rfl, hV'⟩ := hV
  by_cases hk : (R.length : Int) < x.kind
  · have HC : Hid (c = 10) := by rw [Hid, hc]; unfold checkOf; rw [if_pos hk]
    clear hB hT hks hr hP hS hA hc hV'
    go_enter Tryd.func43, Tryd.ntmps43
    go_wp2_with fail
    go_ret
    obtain rfl : c = 10 := HC.out
    exact ⟨rfl, Below.refl _ _⟩
  · obtain ⟨m, hm⟩ : ∃ m : Nat, x.kind = (m : Int) + 1 := ⟨(x.kind - 1).toNat, by omega⟩
    have hmR : m < R.length := by omega
    have hmi : (m : Int) < (R.length : Int) := by omega
    obtain ⟨b, off, rfl, hb, hcc⟩ := hV'.resolve_left (by intro e; simp [e] at hmR)
    have hAt := hcc m hmR
    have r0 := hAt.c0
    have r1 := hAt.c1
    obtain ⟨tv, r2, hTv⟩ := hAt.c2
    obtain ⟨q, hq⟩ : ∃ q : Bool, q = contentB (R[m]?.getD ruleNil) x.text (kindsFor l x.kids) := ⟨_, rfl⟩
    have HCo : Hid (∀ wx, Below w.heap.size w wx → Calls Tryd.prog 68 #[.pointer (some ⟨ad x.id, 0, none⟩), .agg #[.string (R[m]?.getD ruleNil).name, .bool (R[m]?.getD ruleNil).leaf, tv]] wx fun e w' => e = .returned (.bool q) ∧ Below wx.heap.size wx w') := fun wx hbx =>
      contentOK_any l ad up x hx wx.heap.size _ tv wx hr hks (hT.below hbx.size hbx) h12 (hTv.below (Nat.le_trans hn hbx.size) (hbx.mono hn)) (Nat.le_refl _) ((hP.at hmR).terms.eight (by omega)) (hS.at hmR).terms.kinds (hA.below hbx) q hq
    have HC : Hid (c = if q = true then 0 else 12) := by
      rw [Hid, hc, hq]
      unfold checkOf
      rw [if_neg hk, hm, show ((m : Int) + 1 - 1).toNat = m by omega]
    have hbw : b < w.heap.size := by omega
    obtain ⟨ta, tc, rfl, -⟩ := hTv
    rw [hm] at c1
    have hwr : IntKind.i64.wrap ((m : Int) + 1 - 1) = (m : Int) := by rw [IntKind.wrap_i64]; omega
    have hle : ¬ (R.length : Int) < (m : Int) + 1 := by omega
    clear hB hT hks hr hP hS hA hc hV' hcc hAt hq hk
    generalize R[m]?.getD ruleNil = ru at *
    go_enter Tryd.func43, Tryd.ntmps43
    go_wp2_with (go_at_call 68; refine (HCo.out _ (by first | exact Below.refl _ _ | exact (Below.refl _ _).drew)).mono ?_; rintro e w1 ⟨rfl, hb1⟩)
    all_goals
      go_ret
      refine ⟨?_, hb1⟩
      have := HC.out
      simp_all
end Go.Proofs.YtmcopoonnhcdjaaDoor

namespace Go.Proofs.YtmcopoonnhcdjaaDoor
open Go.RowKit

set_option maxHeartbeats 1000000 in
theorem askSchema_any (n₀ : Nat) (v : Value) (R : List PRule) (w : World) (h : RulesAt n₀ w v R) (hroom : Roomy v R.length) (hn : n₀ ≤ w.heap.size) (hl : SmallRules R) (c : Int) (hc : c = schAsk R) :
    Calls Tryd.prog 48 #[v] w fun e w' => e = .returned (.int .i64 c) ∧ Below w.heap.size w w' := by
  obtain ⟨r, hr⟩ : ∃ r : Bool, r = true ↔ SchemaP R := ⟨dec _, dec_iff _⟩
  have HS := hide (implSchemaOK_any n₀ v R w h hroom hn hl r hr)
  have hlen := hl.len
  by_cases hlo : 4096 < R.length
  · have HC : Hid (c = 2) := hc.trans (schAsk_long hlo)
    obtain ⟨a, cap, rfl, -⟩ := h
    clear HS hr hc
    go_enter Tryd.func48, Tryd.ntmps48
    go_wp2_with fail
    go_ret
    obtain rfl : c = 2 := HC.out
    exact ⟨rfl, Below.refl _ _⟩
  · have HC : Hid (c = if r = true then 0 else 1) := by
      rw [Hid, hc]
      split
      · exact schAsk_ok (hr.1 (by assumption))
      · exact schAsk_bad hlo (fun h => by have := hr.2 h; contradiction)
    obtain ⟨a, cap, rfl, -⟩ := h
    clear hr hc
    go_enter Tryd.func48, Tryd.ntmps48
    go_wp2_with (go_at_call 75; refine HS.out.mono ?_; rintro e w1 ⟨rfl, hb1⟩)
    all_goals
      go_ret
      refine ⟨?_, hb1⟩
      have := HC.out
      simp_all
end Go.Proofs.YtmcopoonnhcdjaaDoor

namespace Go.Proofs.YtmcopoonnhcdjaaDoor
open Go.RowKit

/-- What the calls on a schema and one node ask first, in its order. -/
noncomputable def underOf (R : List PRule) (d : PDoc) (id : Int) : Int := if schAsk R = 0 then askOf d id else schAsk R

theorem underOf_sch {R : List PRule} {d : PDoc} {id : Int} (h : schAsk R ≠ 0) : underOf R d id = schAsk R := by unfold underOf; rw [if_neg h]
theorem underOf_doc {R : List PRule} {d : PDoc} {id : Int} (h : schAsk R = 0) : underOf R d id = askOf d id := by unfold underOf; rw [if_pos h]
theorem underOf_zero {R : List PRule} {d : PDoc} {id : Int} (h : underOf R d id = 0) : SchemaP R ∧ Good d ∧ id ∈ idsOf d.nodes := by
  by_cases hs : schAsk R = 0
  · rw [underOf_doc hs] at h
    exact ⟨schAsk_zero hs, (askOf_zero h).1, (askOf_zero h).2⟩
  · rw [underOf_sch hs] at h; contradiction
theorem underOf_ok {R : List PRule} {d : PDoc} {id : Int} (hs : SchemaP R) (hg : Good d) (hi : id ∈ idsOf d.nodes) : underOf R d id = 0 := by
  rw [underOf_doc (schAsk_ok hs), askOf_ok hg hi]

def UnderPost (w : World) (R : List PRule) (d : PDoc) (id : Int) (e : Ending) (w' : World) : Prop :=
  (∃ c : Int, e = .returned (.tuple #[.pointer none, .int .i64 c]) ∧ Hid (c ≠ 0 ∧ c = underOf R d id) ∧ (c != 0) = true ∧ Below w.heap.size w w') ∨
  (∃ (tb : Nat) (ad : Int → Nat) (up : Int → Option Int) (kv : Int → Value), e = .returned (.tuple #[.pointer (some ⟨ad id, 0, none⟩), .int .i64 0]) ∧ Hid (SchemaP R ∧ Good d ∧ id ∈ idsOf d.nodes) ∧ Grown w.heap.size w' d tb ad up kv ∧ Below w.heap.size w w')

set_option maxHeartbeats 1000000 in
set_option maxRecDepth 100000 in
theorem branchUnder_any (n₀ : Nat) (v : Value) (R : List PRule) (d : PDoc) (s : Value) (id : Int) (w : World) (hV : RulesAt n₀ w v R) (hroom : Roomy v R.length) (hR : SmallRules R) (hN : NodesAt n₀ w s d.nodes) (hn : n₀ ≤ w.heap.size) (hl : d.nodes.length ≤ 1048576) (hwf : WfDoc d) :
    Calls Tryd.prog 42 #[v, .agg #[.int .i64 d.root, .int .i64 d.next, s], .int .i64 id] w (UnderPost w R d id) := by
  have hW := (Below.refl w.heap.size w).alloc (Nat.le_refl _) (.cells #[.int .i64 d.root, .int .i64 d.next, s] 33)
  obtain ⟨c, hc⟩ : ∃ c, c = schAsk R := ⟨_, rfl⟩
  have HS := hide (askSchema_any n₀ v R (w.alloc (.cells #[.int .i64 d.root, .int .i64 d.next, s] 33)) (hV.below (Nat.le_refl _) (hW.mono hn)) hroom (by simp; omega) hR c hc)
  have HA : Hid (∀ wx, Below w.heap.size w wx → Calls Tryd.prog 67 #[.agg #[.int .i64 d.root, .int .i64 d.next, s], .int .i64 id] wx (AtPost wx d id)) := fun wx hb =>
    branchAt_any n₀ d s id wx (hN.below (Nat.le_refl _) (hb.mono hn)) (by have := hb.size; omega) hl hwf
  have HC := hide hc
  obtain ⟨a, cap, rfl, -⟩ := hN
  obtain ⟨ra, rc, rfl, -⟩ := hV
  clear hc hwf
  by_cases h0 : c = 0
  · have HZ : Hid (schAsk R = 0) := HC.out.symm.trans h0
    subst h0
    go_enter Tryd.func42, Tryd.ntmps42
    go_wp2_with fail
    refine HS.out.mono ?_
    rintro e w1 ⟨rfl, hb1⟩
    simp only [World.size_alloc] at hb1
    have hs1 := hb1.size
    simp only [World.size_alloc] at hs1
    obtain ⟨x0, x1, x2⟩ := box_doc' hb1
    have hw1 := hW.trans (hb1.mono (by omega))
    have hz : w.heap.size < w1.heap.size := by omega
    go_wp2_with fail
    refine (HA.out w1 hw1).mono ?_
    rintro e w2 (⟨rfl, hno, hb2⟩ | ⟨rfl, ⟨hg, hin⟩, hb2⟩ | ⟨tb, ad, up, kv, rfl, ⟨hg, hin⟩, hgr, hb2⟩)
    · have HX : Hid ((1 : Int) ≠ 0 ∧ (1 : Int) = underOf R d id) := ⟨by decide, by rw [underOf_doc HZ.out, askOf_bad hno]⟩
      clear hno
      go_wp2_with fail
      go_ret2
      exact .inl ⟨_, rfl, HX, rfl, hw1.trans (hb2.mono (by omega))⟩
    · have HX : Hid ((5 : Int) ≠ 0 ∧ (5 : Int) = underOf R d id) := ⟨by decide, by rw [underOf_doc HZ.out, askOf_none hg hin]⟩
      clear hg hin
      go_wp2_with fail
      go_ret2
      exact .inl ⟨_, rfl, HX, rfl, hw1.trans (hb2.mono (by omega))⟩
    · have HX : Hid (SchemaP R ∧ Good d ∧ id ∈ idsOf d.nodes) := ⟨schAsk_zero HZ.out, hg, hin⟩
      have HG : Hid (Grown w.heap.size w2 d tb ad up kv) := ⟨hgr.hung.mono (by omega), hgr.upNone, hgr.upKid, hgr.top⟩
      clear hg hin hgr
      go_wp2_with fail
      go_ret2
      exact .inr ⟨tb, ad, up, kv, rfl, HX, HG.out, hw1.trans (hb2.mono (by omega))⟩
  · have HX : Hid (c ≠ 0 ∧ c = underOf R d id) := ⟨h0, by rw [underOf_sch (by rw [← HC.out]; exact h0)]; exact HC.out⟩
    have h00 : (c != 0) = true := by simp [h0]
    clear h0 HC HA
    go_enter Tryd.func42, Tryd.ntmps42
    go_wp2_with fail
    refine HS.out.mono ?_
    rintro e w1 ⟨rfl, hb1⟩
    simp only [World.size_alloc] at hb1
    go_wp2_with fail
    go_ret2
    exact .inl ⟨_, rfl, HX, h00, hW.trans (hb1.mono (by omega))⟩

noncomputable def nodeAns (R : List PRule) (d : PDoc) (id : Int) : Int := if underOf R d id = 0 then checkOf R d.nodes (nodeOf d.nodes id) else underOf R d id
theorem nodeAns_no {R : List PRule} {d : PDoc} {id : Int} (h : underOf R d id ≠ 0) : nodeAns R d id = underOf R d id := by unfold nodeAns; rw [if_neg h]
theorem nodeAns_ok {R : List PRule} {d : PDoc} {id : Int} (h : underOf R d id = 0) : nodeAns R d id = checkOf R d.nodes (nodeOf d.nodes id) := by unfold nodeAns; rw [if_pos h]

set_option maxHeartbeats 1000000 in
set_option maxRecDepth 100000 in
theorem implCheckNode_any (n₀ : Nat) (v : Value) (R : List PRule) (d : PDoc) (s : Value) (id : Int) (w : World) (hV : RulesAt n₀ w v R) (hroom : Roomy v R.length) (hR : SmallRules R) (hN : NodesAt n₀ w s d.nodes) (hn : n₀ ≤ w.heap.size) (hl : d.nodes.length ≤ 1048576) (hwf : WfDoc d) (hA : AmtAt w) (c : Int) (hc : c = nodeAns R d id) :
    Calls Tryd.prog 13 #[v, .agg #[.int .i64 d.root, .int .i64 d.next, s], .int .i64 id] w fun e w' => e = .returned (.int .i64 c) ∧ Below w.heap.size w w' := by
  have hW := (Below.refl w.heap.size w).alloc (Nat.le_refl _) (.cells #[.int .i64 d.root, .int .i64 d.next, s] 33)
  have HU := hide (branchUnder_any n₀ v R d s id (w.alloc (.cells #[.int .i64 d.root, .int .i64 d.next, s] 33)) (hV.below (Nat.le_refl _) (hW.mono hn)) hroom hR (hN.below (Nat.le_refl _) (hW.mono hn)) (by simp; omega) hl hwf)
  have HC := hide hc
  have HV := hide hV
  have HAm := hide hA
  have HRs := hide hR
  obtain ⟨a, cap, rfl, -⟩ := hN
  obtain ⟨ra, rc, rfl, -⟩ := hV
  clear hc hwf hA hR
  go_enter Tryd.func13, Tryd.ntmps13
  go_wp2_with fail
  refine HU.out.mono ?_
  rintro e w1 (⟨c1, rfl, hx, h00, hb1⟩ | ⟨tb, ad, up, kv, rfl, hx, hgr, hb1⟩)
  · simp only [World.size_alloc] at hb1
    have HX : Hid (c1 = c) := by rw [Hid, HC.out, nodeAns_no (by rw [← hx.out.2]; exact hx.out.1)]; exact hx.out.2
    clear hx
    go_wp2_with fail
    go_ret
    exact ⟨ret_int HX.out, hW.trans (hb1.mono (by omega))⟩
  · simp only [World.size_alloc] at hb1
    have hs1 := hb1.size
    simp only [World.size_alloc] at hs1
    obtain ⟨hS, hg, hin⟩ := hx.out
    have HX : Hid (c = checkOf R d.nodes (nodeOf d.nodes id)) := HC.out.trans (nodeAns_ok (underOf_ok hS hg hin))
    obtain ⟨x, hxm, rfl⟩ := node_of hin
    have hw1 := hW.trans (hb1.mono (by omega))
    have hfine := hg.fine x hxm
    have HK : Hid (Calls Tryd.prog 43 #[.pointer (some ⟨ad x.id, 0, none⟩), .slice ra R.length rc] w1 fun e w' => e = .returned (.int .i64 c) ∧ Below w1.heap.size w1 w') :=
      check_any d.nodes ad up x hxm n₀ R _ w1 hg.rise (fun k hk => hg.there k (List.mem_flatMap.2 ⟨x, hxm, hk⟩)) (hgr.tree hg) hfine.2.2.2.2.2.2.2 hfine.2.2.1 (HV.out.below (Nat.le_refl _) (hw1.mono hn)) (by omega) hS HRs.out (HAm.out.below hw1) c (by rw [HX.out, nodeOf_of hg.rise hxm])
    clear hx hS hg hin hgr hxm hfine HU
    go_wp2_with (go_at_call 43; refine HK.out.mono ?_; rintro e w2 ⟨rfl, hb2⟩)
    go_ret
    exact ⟨rfl, hw1.trans (hb2.mono (by omega))⟩
end Go.Proofs.YtmcopoonnhcdjaaDoor
