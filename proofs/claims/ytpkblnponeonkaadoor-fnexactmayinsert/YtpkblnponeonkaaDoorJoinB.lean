/-
  What a schema takes, plainly: the content of a node, a node, a schema ahead of all else.
  The kinds of a list of pointers to branches: what the program's kindsOf answers; KidsOf, the program's.
  What the calls on a schema and one node ask first, the program's.
-/
import Derived.Test.YtpkblnponeonkaaDoorKidsPlain
import Derived.Test.YtpkblnponeonkaaDoorMatchPlain
import Derived.Test.YtpkblnponeonkaaDoorRowFacts
import Derived.Test.YtpkblnponeonkaaDoorTextNil
import Derived.Test.YtpkblnponeonkaaDoorJoinA
namespace Go.Proofs.YtpkblnponeonkaaDoor
open Go.RowKit

theorem row_roomy {w : World} {B : Nat} {e : TypeId} {size : Nat} {v : Value} {n : Nat} {xs : List Value} (h : w.ownsRow B e size v n xs) : Roomy v n := by
  obtain ⟨_, ⟨rfl, rfl⟩ | ⟨g, cap, cur, rfl, hg, hh, h1, h2, h3, h4⟩⟩ := h
  · exact ⟨none, 0, rfl, Nat.le_refl _⟩
  · exact ⟨_, cap, rfl, by first | assumption | omega⟩

theorem TermsP.eight {r : Int} {l : List PTerm} (h : TermsP r l) (h8 : r ≤ 8) : TermsP 8 l :=
  ⟨h.len, fun t ht => ⟨(h.all t ht).some, fun j hj => ⟨((h.all t ht).up j hj).1, Int.le_trans ((h.all t ht).up j hj).2.1 h8, ((h.all t ht).up j hj).2.2⟩, (h.all t ht).many0, (h.all t ht).many3⟩⟩

noncomputable def contentB (r : PRule) (text : ByteArray) (kk : List Int) : Bool := by
  classical exact if r.leaf = true then decide (kk.length = 0) else decide (text.size = 0 ∧ MatchP r.terms kk)

theorem contentB_leaf {r : PRule} {t : ByteArray} {kk : List Int} (h : r.leaf = true) : contentB r t kk = decide (kk.length = 0) := by unfold contentB; rw [if_pos h]
theorem contentB_not {r : PRule} {t : ByteArray} {kk : List Int} (h : r.leaf = false) : contentB r t kk = true ↔ t.size = 0 ∧ MatchP r.terms kk := by unfold contentB; rw [if_neg (by simp [h])]; simp

noncomputable def checkOf (R : List PRule) (l : List PNode) (x : PNode) : Int := if (R.length : Int) < x.kind then 10 else if contentB (R[(x.kind - 1).toNat]?.getD ruleNil) x.text (kindsFor l x.kids) = true then 0 else 12

end Go.Proofs.YtpkblnponeonkaaDoor

namespace Go.Proofs.YtpkblnponeonkaaDoor
open Go.RowKit Go.Shelf

set_option maxHeartbeats 1000000 in
set_option maxRecDepth 100000 in
theorem kindsOf_any (l : List PNode) (ad : Int → Nat) (up : Int → Option Int) (n₁ : Nat) (ks : List Int) (hks : ∀ k ∈ ks, k ∈ idsOf l) (v : Value) (w : World) (hr : (idsOf l).Pairwise (· < ·)) (hT : TreeAt n₁ w l ad up) (hP : PtrsAt n₁ w v ks ad) (hn : n₁ ≤ w.heap.size) (hl : ks.length ≤ 1048576) :
    Calls Tryd.prog 86 #[v] w (IdsPost w (kindsFor l ks)) := by
  obtain ⟨i0, hi, hz0, hz1, hz2⟩ := info_parts specInfoInt
  obtain ⟨g, cap, rfl, hk⟩ := hP
  have HT := hide hT
  have HKS := hide hks
  have HRi := hide hr
  clear hT hks hr
  go_enter Tryd.func86, Tryd.ntmps86
  go_wp2_with fail
  go_loopw [3, 8] (fun sv i' wr => ∃ m : Nat, m ≤ ks.length ∧ i' = .int .i64 m ∧ wr.ownsRow w.heap.size 3 1 sv m ((kindsFor l (ks.take m)).map (Value.int .i64)) ∧ Below w.heap.size w wr) (fun _ i' _ => ks.length - (intOf i').toNat)
  case atStart => exact ⟨0, Nat.zero_le _, rfl, by simpa [kindsFor] using World.ownsRow_nil _ _ _ _, Below.refl _ _⟩
  case round =>
    obtain ⟨m, hm, rfl, hown, hbr⟩ := hrel
    have hsz := hbr.size
    by_cases hlt : m < ks.length
    · obtain ⟨b, rfl, hb, hc⟩ := hk.resolve_left (by intro e; simp [e] at hlt)
      have hcm := (hbr.cell (p := ⟨b, m, none⟩) (show b < _ by omega)).trans (hc m hlt)
      have hin := HKS.out (ks[m]?.getD 0) (by rw [List.getElem?_eq_getElem hlt]; exact List.getElem_mem hlt)
      have HTS : Hid (kindsFor l (ks.take (m + 1)) = kindsFor l (ks.take m) ++ [(nodeOf l (ks[m]?.getD 0)).kind]) := by rw [Hid, int_snoc hlt]; simp [kindsFor]
      have hlt1 : (m : Int) < (ks.length : Int) := by omega
      clear hc hk
      generalize ks[m]?.getD 0 = y at *
      obtain ⟨x, hx, rfl⟩ := node_of hin
      rw [nodeOf_of HRi.out hx] at HTS
      have hB := HT.out x hx
      have hxl := hB.lt
      have c1 := (hbr.cell (p := ⟨ad x.id, 1, none⟩) (show ad x.id < _ by omega)).trans hB.c1
      obtain ⟨ar, cr, rfl⟩ := row_shape hown
      clear hB hin
      go_wp2_with (at_builtin; refine wpList_append_own _ rfl _ _ 41 rfl w.heap.size 3 i0 (.int .i64 0) 1 8 Tryd.underlying41 hi hz0 hz1 hz2 rfl (by decide) _ _ _ rfl (hown.alloc _) ⟨wr.heap.size, 0, none⟩ 1 1 [Value.int .i64 x.kind] rfl rfl (cell_one_new _ _ _) (one_int _) (by unfold maxLen; omega) (by omega) (by simp; omega) ?_)
      intro v' w1 hown' hgrow _
      have hb3 := (hbr.alloc (by omega) (.cells #[.int .i64 x.kind] 3)).grown hgrow (by simp; omega) (fun g hg => (hown.lt g hg).1)
      have HRow : Hid (w1.ownsRow w.heap.size 3 1 v' (m + 1) ((kindsFor l (ks.take (m + 1))).map (Value.int .i64))) := by
        unfold Hid; rw [HTS.out]; simpa using hown'
      clear hown' hgrow hown
      go_wp2_with fail
      go_roundw
      case rel => exact ⟨m + 1, by omega, by go_num, HRow.out, hb3⟩
      case measure => simp [intOf]; omega
    · have HRow : Hid (wr.ownsRow w.heap.size 3 1 u3 (kindsFor l ks).length ((kindsFor l ks).map (Value.int .i64))) := by
        have := hown
        rw [List.take_of_length_le (by omega), show m = (kindsFor l ks).length by rw [kindsFor_len]; omega] at this
        exact this
      obtain ⟨ar, cr, rfl⟩ := row_shape hown
      clear hk hown
      go_wp2_with fail
      go_ret
      exact ⟨_, rfl, HRow.out, hbr⟩
end Go.Proofs.YtpkblnponeonkaaDoor

namespace Go.Proofs.YtpkblnponeonkaaDoor
open Go.RowKit

/-- What the calls on a schema and one node ask first, in its order. -/
noncomputable def underOf (R : List PRule) (d : PDoc) (id : Int) : Int := if schAsk R = 0 then askOf d id else schAsk R

theorem underOf_sch {R : List PRule} {d : PDoc} {id : Int} (h : schAsk R ≠ 0) : underOf R d id = schAsk R := by unfold underOf; rw [if_neg h]
theorem underOf_doc {R : List PRule} {d : PDoc} {id : Int} (h : schAsk R = 0) : underOf R d id = askOf d id := by unfold underOf; rw [if_pos h]
theorem underOf_zero {R : List PRule} {d : PDoc} {id : Int} (h : underOf R d id = 0) : SchemaP R ∧ Good d ∧ id ∈ idsOf d.nodes := by
  by_cases hs : schAsk R = 0
  · rw [underOf_doc hs] at h
    exact ⟨schAsk_zero hs, (askOf_zero h).1, (askOf_zero h).2⟩
  · rw [underOf_sch hs] at h; contradiction
theorem underOf_ok {R : List PRule} {d : PDoc} {id : Int} (hs : SchemaP R) (hg : Good d) (hi : id ∈ idsOf d.nodes) : underOf R d id = 0 := by
  rw [underOf_doc (schAsk_ok hs), askOf_ok hg hi]

def UnderPost (w : World) (R : List PRule) (d : PDoc) (id : Int) (e : Ending) (w' : World) : Prop :=
  (∃ c : Int, e = .returned (.tuple #[.pointer none, .int .i64 c]) ∧ Hid (c ≠ 0 ∧ c = underOf R d id) ∧ (c != 0) = true ∧ Below w.heap.size w w') ∨
  (∃ (tb : Nat) (ad : Int → Nat) (up : Int → Option Int) (kv : Int → Value), e = .returned (.tuple #[.pointer (some ⟨ad id, 0, none⟩), .int .i64 0]) ∧ Hid (SchemaP R ∧ Good d ∧ id ∈ idsOf d.nodes) ∧ Grown w.heap.size w' d tb ad up kv ∧ Below w.heap.size w w')

set_option maxHeartbeats 1000000 in
set_option maxRecDepth 100000 in
theorem branchUnder_any (n₀ : Nat) (v : Value) (R : List PRule) (d : PDoc) (s : Value) (id : Int) (w : World) (hV : RulesAt n₀ w v R) (hroom : Roomy v R.length) (hR : SmallRules R) (hN : NodesAt n₀ w s d.nodes) (hn : n₀ ≤ w.heap.size) (hl : d.nodes.length ≤ 1048576) (hwf : WfDoc d) :
    Calls Tryd.prog 52 #[v, .agg #[.int .i64 d.root, .int .i64 d.next, s], .int .i64 id] w (UnderPost w R d id) := by
  have hW := (Below.refl w.heap.size w).alloc (Nat.le_refl _) (.cells #[.int .i64 d.root, .int .i64 d.next, s] 48)
  obtain ⟨c, hc⟩ : ∃ c, c = schAsk R := ⟨_, rfl⟩
  have HS := hide (askSchema_any n₀ v R (w.alloc (.cells #[.int .i64 d.root, .int .i64 d.next, s] 48)) (hV.below (Nat.le_refl _) (hW.mono hn)) hroom (by simp; omega) hR c hc)
  have HA : Hid (∀ wx, Below w.heap.size w wx → Calls Tryd.prog 85 #[.agg #[.int .i64 d.root, .int .i64 d.next, s], .int .i64 id] wx (AtPost wx d id)) := fun wx hb =>
    branchAt_any n₀ d s id wx (hN.below (Nat.le_refl _) (hb.mono hn)) (by have := hb.size; omega) hl hwf
  have HC := hide hc
  obtain ⟨a, cap, rfl, -⟩ := hN
  obtain ⟨ra, rc, rfl, -⟩ := hV
  clear hc hwf
  by_cases h0 : c = 0
  · have HZ : Hid (schAsk R = 0) := HC.out.symm.trans h0
    subst h0
    go_enter Tryd.func52, Tryd.ntmps52
    go_wp2_with fail
    refine HS.out.mono ?_
    rintro e w1 ⟨rfl, hb1⟩
    simp only [World.size_alloc] at hb1
    have hs1 := hb1.size
    simp only [World.size_alloc] at hs1
    obtain ⟨x0, x1, x2⟩ := box_doc' hb1
    have hw1 := hW.trans (hb1.mono (by omega))
    have hz : w.heap.size < w1.heap.size := by omega
    go_wp2_with fail
    refine (HA.out w1 hw1).mono ?_
    rintro e w2 (⟨rfl, hno, hb2⟩ | ⟨rfl, ⟨hg, hin⟩, hb2⟩ | ⟨tb, ad, up, kv, rfl, ⟨hg, hin⟩, hgr, hb2⟩)
    · have HX : Hid ((1 : Int) ≠ 0 ∧ (1 : Int) = underOf R d id) := ⟨by decide, by rw [underOf_doc HZ.out, askOf_bad hno]⟩
      clear hno
      go_wp2_with fail
      go_ret2
      exact .inl ⟨_, rfl, HX, rfl, hw1.trans (hb2.mono (by omega))⟩
    · have HX : Hid ((5 : Int) ≠ 0 ∧ (5 : Int) = underOf R d id) := ⟨by decide, by rw [underOf_doc HZ.out, askOf_none hg hin]⟩
      clear hg hin
      go_wp2_with fail
      go_ret2
      exact .inl ⟨_, rfl, HX, rfl, hw1.trans (hb2.mono (by omega))⟩
    · have HX : Hid (SchemaP R ∧ Good d ∧ id ∈ idsOf d.nodes) := ⟨schAsk_zero HZ.out, hg, hin⟩
      have HG : Hid (Grown w.heap.size w2 d tb ad up kv) := ⟨hgr.hung.mono (by omega), hgr.upNone, hgr.upKid, hgr.top⟩
      clear hg hin hgr
      go_wp2_with fail
      go_ret2
      exact .inr ⟨tb, ad, up, kv, rfl, HX, HG.out, hw1.trans (hb2.mono (by omega))⟩
  · have HX : Hid (c ≠ 0 ∧ c = underOf R d id) := ⟨h0, by rw [underOf_sch (by rw [← HC.out]; exact h0)]; exact HC.out⟩
    have h00 : (c != 0) = true := by simp [h0]
    clear h0 HC HA
    go_enter Tryd.func52, Tryd.ntmps52
    go_wp2_with fail
    refine HS.out.mono ?_
    rintro e w1 ⟨rfl, hb1⟩
    simp only [World.size_alloc] at hb1
    go_wp2_with fail
    go_ret2
    exact .inl ⟨_, rfl, HX, h00, hW.trans (hb1.mono (by omega))⟩
end Go.Proofs.YtpkblnponeonkaaDoor
