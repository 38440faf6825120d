/-
  What the program's check of one node answers.
  What is asked of a schema ahead of all else.
-/
import Derived.Test.YtmcopoonnhcdjaaDoorJoin27
import Derived.Test.YtmcopoonnhcdjaaDoorJoin20
namespace Go.Proofs.YtmcopoonnhcdjaaDoor
open Go.RowKit

theorem SchemaP.at {R : List PRule} (h : SchemaP R) {m : Nat} (hm : m < R.length) : RuleP R.length (R[m]?.getD ruleNil) := by
  rw [List.getElem?_eq_getElem hm]
  exact h.rules _ (List.getElem_mem hm)

theorem SmallRules.at {R : List PRule} (h : SmallRules R) {m : Nat} (hm : m < R.length) : SmallRule (R[m]?.getD ruleNil) := by
  rw [List.getElem?_eq_getElem hm]
  exact h.rules _ (List.getElem_mem hm)

set_option maxHeartbeats 8000000 in
set_option maxRecDepth 100000 in
theorem check_any (l : List PNode) (ad : Int → Nat) (up : Int → Option Int) (x : PNode) (hx : x ∈ l) (n₀ : Nat) (R : List PRule) (v : Value) (w : World) (hr : (idsOf l).Pairwise (· < ·)) (hks : ∀ k ∈ x.kids, k ∈ idsOf l) (hT : TreeAt w.heap.size w l ad up) (h12 : x.kids.length ≤ 12) (h1 : 1 ≤ x.kind)
    (hV : RulesAt n₀ w v R) (hn : n₀ ≤ w.heap.size) (hP : SchemaP R) (hS : SmallRules R) (hA : AmtAt w) (c : Int) (hc : c = checkOf R l x) :
    Calls Tryd.prog 43 #[.pointer (some ⟨ad x.id, 0, none⟩), v] w fun e w' => e = .returned (.int .i64 c) ∧ Below w.heap.size w w' := by
  have hB := hT x hx
  have c1 := hB.c1
  have hlt := hB.lt
  have hfew := hP.few
  obtain ⟨a, cap, rfl, hV'⟩ := hV
  by_cases hk : (R.length : Int) < x.kind
  · have HC : Hid (c = 10) := by rw [Hid, hc]; unfold checkOf; rw [if_pos hk]
    clear hB hT hks hr hP hS hA hc hV'
    go_enter Tryd.func43, Tryd.ntmps43
    go_wp2_with fail
    go_ret
    obtain rfl : c = 10 := HC.out
    exact ⟨rfl, Below.refl _ _⟩
  · obtain ⟨m, hm⟩ : ∃ m : Nat, x.kind = (m : Int) + 1 := ⟨(x.kind - 1).toNat, by omega⟩
    have hmR : m < R.length := by omega
    have hmi : (m : Int) < (R.length : Int) := by omega
    obtain ⟨b, off, rfl, hb, hcc⟩ := hV'.resolve_left (by intro e; simp [e] at hmR)
    have hAt := hcc m hmR
    have r0 := hAt.c0
    have r1 := hAt.c1
    obtain ⟨tv, r2, hTv⟩ := hAt.c2
    obtain ⟨q, hq⟩ : ∃ q : Bool, q = contentB (R[m]?.getD ruleNil) x.text (kindsFor l x.kids) := ⟨_, rfl⟩
    have HCo : Hid (∀ wx, Below w.heap.size w wx → Calls Tryd.prog 68 #[.pointer (some ⟨ad x.id, 0, none⟩), .agg #[.string (R[m]?.getD ruleNil).name, .bool (R[m]?.getD ruleNil).leaf, tv]] wx fun e w' => e = .returned (.bool q) ∧ Below wx.heap.size wx w') := fun wx hbx =>
      contentOK_any l ad up x hx wx.heap.size _ tv wx hr hks (hT.below hbx.size hbx) h12 (hTv.below (Nat.le_trans hn hbx.size) (hbx.mono hn)) (Nat.le_refl _) ((hP.at hmR).terms.eight (by omega)) (hS.at hmR).terms.kinds (hA.below hbx) q hq
    have HC : Hid (c = if q = true then 0 else 12) := by
      rw [Hid, hc, hq]
      unfold checkOf
      rw [if_neg hk, hm, show ((m : Int) + 1 - 1).toNat = m by omega]
    have hbw : b < w.heap.size := by omega
    obtain ⟨ta, tc, rfl, -⟩ := hTv
    rw [hm] at c1
    have hwr : IntKind.i64.wrap ((m : Int) + 1 - 1) = (m : Int) := by rw [IntKind.wrap_i64]; omega
    have hle : ¬ (R.length : Int) < (m : Int) + 1 := by omega
    clear hB hT hks hr hP hS hA hc hV' hcc hAt hq hk
    generalize R[m]?.getD ruleNil = ru at *
    go_enter Tryd.func43, Tryd.ntmps43
    go_wp2_with (go_at_call 68; refine (HCo.out _ (by first | exact Below.refl _ _ | exact (Below.refl _ _).drew)).mono ?_; rintro e w1 ⟨rfl, hb1⟩)
    all_goals
      go_ret
      refine ⟨?_, hb1⟩
      have := HC.out
      simp_all
end Go.Proofs.YtmcopoonnhcdjaaDoor

namespace Go.Proofs.YtmcopoonnhcdjaaDoor
open Go.RowKit

set_option maxHeartbeats 1000000 in
theorem askSchema_any (n₀ : Nat) (v : Value) (R : List PRule) (w : World) (h : RulesAt n₀ w v R) (hroom : Roomy v R.length) (hn : n₀ ≤ w.heap.size) (hl : SmallRules R) (c : Int) (hc : c = schAsk R) :
    Calls Tryd.prog 48 #[v] w fun e w' => e = .returned (.int .i64 c) ∧ Below w.heap.size w w' := by
  obtain ⟨r, hr⟩ : ∃ r : Bool, r = true ↔ SchemaP R := ⟨dec _, dec_iff _⟩
  have HS := hide (implSchemaOK_any n₀ v R w h hroom hn hl r hr)
  have hlen := hl.len
  by_cases hlo : 4096 < R.length
  · have HC : Hid (c = 2) := hc.trans (schAsk_long hlo)
    obtain ⟨a, cap, rfl, -⟩ := h
    clear HS hr hc
    go_enter Tryd.func48, Tryd.ntmps48
    go_wp2_with fail
    go_ret
    obtain rfl : c = 2 := HC.out
    exact ⟨rfl, Below.refl _ _⟩
  · have HC : Hid (c = if r = true then 0 else 1) := by
      rw [Hid, hc]
      split
      · exact schAsk_ok (hr.1 (by assumption))
      · exact schAsk_bad hlo (fun h => by have := hr.2 h; contradiction)
    obtain ⟨a, cap, rfl, -⟩ := h
    clear hr hc
    go_enter Tryd.func48, Tryd.ntmps48
    go_wp2_with (go_at_call 75; refine HS.out.mono ?_; rintro e w1 ⟨rfl, hb1⟩)
    all_goals
      go_ret
      refine ⟨?_, hb1⟩
      have := HC.out
      simp_all
end Go.Proofs.YtmcopoonnhcdjaaDoor
