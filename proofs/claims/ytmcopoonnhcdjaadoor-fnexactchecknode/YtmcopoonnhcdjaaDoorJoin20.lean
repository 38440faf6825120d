/-
  The kinds of a node's kids: what the specification answers.
  One node held against a schema: what the specification answers.
  The law package's comparisons answer yes to what is alike.
-/
import Derived.Test.YtmcopoonnhcdjaaDoorJoin9
import Derived.Test.YtmcopoonnhcdjaaDoorJoin10
import Derived.Deep.RegionLaw
import Derived.Deep.AppendLies
import Derived.Test.YtmcopoonnhcdjaaDoorJoin19
import Derived.Test.YtmcopoonnhcdjaaDoorJoin15
import Derived.Test.YtmcopoonnhcdjaaDoorJoin4
import Derived.Deep.RegionHeld3
import Derived.Test.YtmcopoonnhcdjaaDoorJoin3
import Derived.Deep.DeepCutAuto
import Derived.WalkSmall
import Derived.WalkLawsBesides
namespace Go.Proofs.YtmcopoonnhcdjaaDoor
open Go.RowKit

theorem place_node {l : List PNode} (hr : (idsOf l).Pairwise (· < ·)) {i : Int} (h : i ∈ idsOf l) : ∃ p : Nat, placeOf l i = p ∧ p < l.length ∧ l[p]?.getD nodeNil = nodeOf l i ∧ l[p]?.getD nodeNil ∈ l := by
  obtain ⟨p, h1, h2, h3, -⟩ := placeOf_lt h
  have hm : l[p]?.getD nodeNil ∈ l := by simp [h2]
  exact ⟨p, h1, h2, by rw [← nodeOf_of hr hm, h3], hm⟩

set_option maxHeartbeats 4000000 in
set_option maxRecDepth 100000 in
theorem specKids_any (l : List PNode) (n₀ : Nat) (rt nx : Int) (hl : l.length ≤ 1048576) (hr : (idsOf l).Pairwise (· < ·)) (x : PNode) (hks : ∀ k ∈ x.kids, k ∈ idsOf l) (hkl : x.kids.length ≤ 1048576) (s kv : Value) (w : World) (hN : NodesAt n₀ w s l) (hK : IntsAt n₀ w kv x.kids) (hn : n₀ ≤ w.heap.size) :
    Calls Tryd.prog 51 #[.agg #[.int .i64 rt, .int .i64 nx, s], .agg #[.int .i64 x.id, .int .i64 x.kind, .int .i64 x.attr, .string x.text, kv]] w (IdsPost w (kindsFor l x.kids)) := by
  obtain ⟨i0, hinf, hz0, hz1, hz2⟩ := info_parts specInfoInt'
  have HN := hide hN
  have HKS := hide hks
  have HRi := hide hr
  obtain ⟨a, cap, rfl, hk'⟩ := hN
  obtain ⟨ak, ck, rfl, hka⟩ := hK
  clear hks hr
  obtain ⟨W2, hW2⟩ : ∃ W2, W2 = (w.alloc (.cells #[.int .i64 rt, .int .i64 nx, .slice a l.length cap] 33)).alloc (.cells #[.int .i64 x.id, .int .i64 x.kind, .int .i64 x.attr, .string x.text, .slice ak x.kids.length ck] 69) := ⟨_, rfl⟩
  have hs2 : W2.heap.size = w.heap.size + 1 + 1 := by rw [hW2]; simp
  have hb2 : Below w.heap.size w W2 := by rw [hW2]; exact ((Below.refl _ _).alloc (Nat.le_refl _) _).alloc (by simp) _
  have h1 : W2.heap[w.heap.size]? = some (.cells #[.int .i64 rt, .int .i64 nx, .slice a l.length cap] 33 (0, 0)) := by
    rw [hW2, Below.heap_alloc _ _ _ (by simp)]; exact alloc_new w _
  have h2 : W2.heap[w.heap.size + 1]? = some (.cells #[.int .i64 x.id, .int .i64 x.kind, .int .i64 x.attr, .string x.text, .slice ak x.kids.length ck] 69 (0, 0)) := by
    rw [hW2]
    have := alloc_new (w.alloc (.cells #[.int .i64 rt, .int .i64 nx, .slice a l.length cap] 33)) (.cells #[.int .i64 x.id, .int .i64 x.kind, .int .i64 x.attr, .string x.text, .slice ak x.kids.length ck] 69)
    simp only [World.size_alloc] at this
    exact this
  have HRow0 : Hid ((W2.alloc (.cells #[] 3)).ownsRow (w.heap.size + 1 + 1) 3 1 (.slice (some ⟨w.heap.size + 1 + 1, 0, none⟩) 0 0) 0 []) := by
    have := row_none W2 (w.heap.size + 1 + 1) (by omega)
    rw [hs2] at this
    exact this
  have HH1 := hide h1
  have HH2 := hide h2
  have HS2 := hide hs2
  have HB0 : Hid (Below (w.heap.size + 1 + 1) W2 (W2.alloc (.cells #[] 3))) := (Below.refl _ _).alloc (by omega) _
  clear h1 h2 hs2
  go_enter Tryd.func51, Tryd.ntmps51
  go_wp2_with fail
  rw [← hW2]
  clear hW2
  go_loopw [5, 6] (fun ov jv wr => ∃ (m g c : Nat), m ≤ x.kids.length ∧ jv = .int .i64 m ∧ ov = .slice (some ⟨g, 0, none⟩) m c ∧ Hid (wr.ownsRow (w.heap.size + 1 + 1) 3 1 (.slice (some ⟨g, 0, none⟩) m c) m ((kindsFor l (x.kids.take m)).map (Value.int .i64))) ∧ Below (w.heap.size + 1 + 1) W2 wr) (fun _ jv _ => x.kids.length - (intOf jv).toNat)
  case atStart => exact ⟨0, _, 0, Nat.zero_le _, rfl, rfl, by simpa [kindsFor] using HRow0, HB0.out⟩
  case round =>
    obtain ⟨m, g, c, hml, rfl, rfl, hrow, hbr⟩ := hrel
    have hsz := hbr.size
    rw [HS2.out] at hsz
    have hw0 : Below w.heap.size w wr := hb2.trans (hbr.mono (by omega))
    have k1 := (hbr.block w.heap.size (by omega)).trans HH1.out
    have k2 := (hbr.block (w.heap.size + 1) (by omega)).trans HH2.out
    have c0 := cell_of_heap k1 0
    have c1 := cell_of_heap k1 1
    have c2 := cell_of_heap k1 2
    have d4 := cell_of_heap k2 4
    simp only [List.getElem?_toArray, List.getElem?_cons_succ, List.getElem?_cons_zero] at c0 c1 c2 d4
    have hza : w.heap.size < wr.heap.size := by omega
    have hzb : w.heap.size + 1 < wr.heap.size := by omega
    clear k1 k2
    by_cases hlt : m < x.kids.length
    · obtain ⟨bk, ofk, rfl, hbk, hck⟩ := hka.resolve_left (by intro e; simp [e] at hlt)
      have ckm := (hw0.cell (p := ⟨bk, ofk + m, none⟩) (show bk < w.heap.size by omega)).trans (hck m hlt)
      have hlt1 : (m : Int) < (x.kids.length : Int) := by omega
      have hin := HKS.out (x.kids[m]?.getD 0) (by rw [List.getElem?_eq_getElem hlt]; exact List.getElem_mem hlt)
      obtain ⟨p, hp, hpl, hpn, hpm⟩ := place_node HRi.out hin
      have HTS : Hid (kindsFor l (x.kids.take (m + 1)) = kindsFor l (x.kids.take m) ++ [(nodeOf l (x.kids[m]?.getD 0)).kind]) := by rw [Hid, int_snoc hlt]; simp [kindsFor]
      rw [← hpn] at HTS
      obtain ⟨b, off, rfl, hb, hc⟩ := hk'.resolve_left (by intro e; simp [e] at hpl)
      have n1 := (hw0.cell (p := ⟨b, off + p * 5 + 1, none⟩) (show b < w.heap.size by omega)).trans (hc p hpl).c1
      have hbw : b < wr.heap.size := by omega
      have hbk2 : bk < wr.heap.size := by omega
      have hpl1 : (p : Int) < (l.length : Int) := by omega
      have HAt : Hid (∀ wx, Below wr.heap.size wr wx → Calls Tryd.prog 39 #[.agg #[.int .i64 rt, .int .i64 nx, .slice (some ⟨b, off, none⟩) l.length cap], .int .i64 (x.kids[m]?.getD 0)] wx fun e w' => e = .returned (.int .i64 (p : Int)) ∧ Below wx.heap.size wx w') := fun wx hbx => by
        have := specAt_any n₀ rt nx _ l (x.kids[m]?.getD 0) wx (HN.out.below (Nat.le_refl _) ((hw0.mono hn).trans (hbx.mono (by omega)))) (by have := hbx.size; omega) hl
        rw [hp] at this
        exact this
      clear hck hc hk' hka hp hpn hpm hin
      generalize x.kids[m]?.getD 0 = y at *
      generalize (l[p]?.getD nodeNil).kind = kd at *
      go_wp2_with fail
      go_region_law (first
        | (refine step_append_lies _ rfl (.tmp 15) (.tmp 28) 41 rfl (w.heap.size + 1 + 1) 3 i0 (.int .i64 0) 1 8 Tryd.underlying41 hinf hz0 hz1 hz2 rfl (by decide) _ _ _ rfl (hr1.alloc _) ⟨w1.heap.size, 0, none⟩ 1 1 [.int .i64 kd] rfl rfl (cell_one_new _ _ _) (one_int _) (by decide) (by unfold maxLen; omega) (by omega) (by simp; omega) _ rfl ?_; intro g3 cc3 w3 hrow3 hgrow hlie hlt3)
        | (go_simp; refine (HAt.out _ (Below.refl _ _).drew).mono ?_; rintro e w1 ⟨rfl, hc1⟩; have hr1 := ownsRow_below (ownsRow_below hrow.out (Below.refl _ _).drew) hc1; have hs1 := hc1.size; simp only [World.size_drew] at hs1; have z1 := (hc1.cell (p := ⟨b, off + p * 5 + 1, none⟩) hbw).trans n1; have z2 := (hc1.cell (p := ⟨w.heap.size, 2, none⟩) hza).trans c2; have hbw1 : b < w1.heap.size := (by omega); have hza1 : w.heap.size < w1.heap.size := (by omega); go_simp))
      all_goals
        have hb3 := (((hbr.drew.trans (hc1.mono (by simp; omega))).alloc (by omega) (.cells #[.int .i64 kd] 3)).grown hgrow (by simp; omega) (fun g' hg' => (hr1.lt g' hg').1))
        have HRow3 : Hid (w3.ownsRow (w.heap.size + 1 + 1) 3 1 (.slice (some ⟨g3, 0, none⟩) (m + 1) cc3) (m + 1) ((kindsFor l (x.kids.take (m + 1))).map (Value.int .i64))) := by
          rw [Hid, HTS.out, List.map_append]
          exact hrow3
        clear hrow3 hgrow hr1
        go_wp2_with fail
        exact ⟨⟨m + 1, g3, cc3, by omega, by go_num, rfl, HRow3, hb3⟩, by simp [intOf]; omega⟩
    · obtain rfl : m = x.kids.length := by omega
      have HRow3 := hide hrow.out
      rw [List.take_length] at HRow3
      clear hka hrow hk'
      go_wp2_with fail
      go_ret
      refine ⟨_, rfl, ?_, hw0⟩
      rw [kindsFor_len]
      exact ownsRow_base HRow3.out (by omega)
end Go.Proofs.YtmcopoonnhcdjaaDoor

namespace Go.Proofs.YtmcopoonnhcdjaaDoor
open Go.RowKit

/-- The terms of each rule have room for themselves. -/
def RulesRoom (n₀ : Nat) (w : World) (v : Value) (R : List PRule) : Prop :=
  ∀ b off cap, v = .slice (some ⟨b, off, none⟩) R.length cap → b < n₀ → ∀ j, j < R.length → ∀ tv, w.cell? ⟨b, off + j * 3 + 2, none⟩ = some tv → Roomy tv (R[j]?.getD ruleNil).terms.length

theorem RulesRoom.below {n₀ n₁ : Nat} {w w' : World} {v : Value} {R : List PRule} (h : RulesRoom n₀ w v R) (hV : RulesAt n₀ w v R) (hb : Below n₀ w w') : RulesRoom n₁ w' v R := by
  intro b off cap e _ j hj tv hc
  obtain ⟨a, cap', rfl, hk⟩ := hV
  simp only [Value.slice.injEq] at e
  obtain ⟨e1, -, -⟩ := e
  obtain ⟨b', off', e2, hb', -⟩ := hk.resolve_left (by intro e; simp [e] at hj)
  rw [e1] at e2
  simp only [Option.some.injEq, Addr.mk.injEq] at e2
  obtain ⟨rfl, rfl, -⟩ := e2
  rw [hb.cell (p := ⟨b, off + j * 3 + 2, none⟩) hb'] at hc
  exact h b off cap' (by rw [e1]) hb' j hj tv hc

theorem RulesOwn.rooms {lo hi : Nat} {w : World} {v : Value} {l : List PRule} (h : RulesOwn lo hi w v l) : RulesRoom hi w v l := by
  obtain ⟨b, cap, cs, rfl, hcp, h1, h2, h3, h4⟩ := h
  intro b' off cap' e _ j hj tv hc
  simp only [Value.slice.injEq, Option.some.injEq, Addr.mk.injEq] at e
  obtain ⟨⟨rfl, rfl, -⟩, -, -⟩ := e
  obtain ⟨kv, g0, g1, g2, g5⟩ := h4 j hj
  rw [Nat.zero_add, cell_of_heap h3, g2] at hc
  cases hc
  exact g5.room

set_option maxHeartbeats 4000000 in
set_option maxRecDepth 100000 in
theorem specNodeOK_any (l : List PNode) (n₀ : Nat) (rt nx : Int) (x : PNode) (R : List PRule) (v s kv : Value) (w : World) (hr : (idsOf l).Pairwise (· < ·)) (hks : ∀ k ∈ x.kids, k ∈ idsOf l) (h12 : x.kids.length ≤ 12) (h1 : 1 ≤ x.kind)
    (hV : RulesAt n₀ w v R) (hRo : RulesRoom n₀ w v R) (hn : n₀ ≤ w.heap.size) (hP : SchemaP R) (hS : SmallRules R) (hN : NodesAt n₀ w s l) (hK : IntsAt n₀ w kv x.kids) (hl : l.length ≤ 1048576) (c : Int) (hc : c = checkOf R l x) :
    Calls Tryd.prog 38 #[v, .agg #[.int .i64 rt, .int .i64 nx, s], .agg #[.int .i64 x.id, .int .i64 x.kind, .int .i64 x.attr, .string x.text, kv]] w fun e w' => e = .returned (.int .i64 c) ∧ Below w.heap.size w w' := by
  have hfew := hP.few
  have HN := hide hN
  have HKx := hide hK
  obtain ⟨a, cap, rfl, hV'⟩ := hV
  obtain ⟨sa, sc, rfl, -⟩ := hN
  obtain ⟨ka, kc, rfl, -⟩ := hK
  have hb2 : Below w.heap.size w ((w.alloc (.cells #[.int .i64 rt, .int .i64 nx, .slice sa l.length sc] 33)).alloc (.cells #[.int .i64 x.id, .int .i64 x.kind, .int .i64 x.attr, .string x.text, .slice ka x.kids.length kc] 69)) := ((Below.refl _ _).alloc (Nat.le_refl _) _).alloc (by simp) _
  by_cases hk : (R.length : Int) < x.kind
  · have HC : Hid (c = 10) := by rw [Hid, hc]; unfold checkOf; rw [if_pos hk]
    clear hks hr hP hS hc hV' hRo HN HKx
    go_enter Tryd.func38, Tryd.ntmps38
    go_wp2_with fail
    go_ret
    obtain rfl : c = 10 := HC.out
    exact ⟨rfl, hb2⟩
  · obtain ⟨m, hm⟩ : ∃ m : Nat, x.kind = (m : Int) + 1 := ⟨(x.kind - 1).toNat, by omega⟩
    have hmR : m < R.length := by omega
    have hmi : (m : Int) < (R.length : Int) := by omega
    obtain ⟨b, off, rfl, hb, hcc⟩ := hV'.resolve_left (by intro e; simp [e] at hmR)
    have hAt := hcc m hmR
    have r0 := hAt.c0
    have r1 := hAt.c1
    obtain ⟨tv, r2, hTv⟩ := hAt.c2
    have hTr := hRo b off cap rfl hb m hmR tv r2
    obtain ⟨q, hq⟩ : ∃ q : Bool, q = contentB (R[m]?.getD ruleNil) x.text (kindsFor l x.kids) := ⟨_, rfl⟩
    have HC : Hid (c = if q = true then 0 else 12) := by
      rw [Hid, hc, hq]
      unfold checkOf
      rw [if_neg hk, hm, show ((m : Int) + 1 - 1).toNat = m by omega]
    have hbw : b < w.heap.size := by omega
    have HKi : Hid (∀ wx, Below w.heap.size w wx → Calls Tryd.prog 51 #[.agg #[.int .i64 rt, .int .i64 nx, .slice sa l.length sc], .agg #[.int .i64 x.id, .int .i64 x.kind, .int .i64 x.attr, .string x.text, .slice ka x.kids.length kc]] wx (IdsPost wx (kindsFor l x.kids))) := fun wx hbx =>
      specKids_any l n₀ rt nx hl hr x hks (by omega) _ _ wx (HN.out.below (Nat.le_refl _) (hbx.mono hn)) (HKx.out.below (Nat.le_refl _) (hbx.mono hn)) (by have := hbx.size; omega)
    have hkl : (kindsFor l x.kids).length = x.kids.length := kindsFor_len _ _
    obtain ⟨mb, hmb⟩ : ∃ mb : Bool, mb = true ↔ MatchP (R[m]?.getD ruleNil).terms (kindsFor l x.kids) := ⟨dec _, dec_iff _⟩
    have HM : Hid (∀ (kv : Value) (wx : World), Below w.heap.size w wx → IntsAt wx.heap.size wx kv (kindsFor l x.kids) → Roomy kv (kindsFor l x.kids).length → Calls Tryd.prog 52 #[tv, kv] wx fun e w' => e = .returned (.bool mb) ∧ Below wx.heap.size wx w') := fun kv wx hbx hI hR' =>
      specMatch_any _ wx.heap.size tv kv _ wx (hTv.below (Nat.le_trans hn hbx.size) (hbx.mono hn)) hTr hI hR' (Nat.le_refl _) (hP.at hmR).terms.len (hS.at hmR).terms.kinds (by omega) mb hmb
    have HCl := hide (fun h : (R[m]?.getD ruleNil).leaf = true => @contentB_leaf _ x.text (kindsFor l x.kids) h)
    have HCn := hide (fun h : (R[m]?.getD ruleNil).leaf = false => @contentB_not _ x.text (kindsFor l x.kids) h)
    rw [← hq, ← hmb] at HCn
    rw [← hq] at HCl
    obtain ⟨ta, tc, rfl, -⟩ := hTv
    have hwr : IntKind.i64.wrap ((m : Int) + 1 - 1) = (m : Int) := by rw [IntKind.wrap_i64]; omega
    have hle : ¬ (R.length : Int) < (m : Int) + 1 := by omega
    clear hks hr hP hS hc hV' hcc hAt hq hk HN HKx hRo hTr hmb
    generalize R[m]?.getD ruleNil = ru at *
    obtain ⟨W3, hW3⟩ : ∃ W3, W3 = ((w.alloc (.cells #[.int .i64 rt, .int .i64 nx, .slice sa l.length sc] 33)).alloc (.cells #[.int .i64 x.id, .int .i64 x.kind, .int .i64 x.attr, .string x.text, .slice ka x.kids.length kc] 69)).alloc (.cells #[.string ru.name, .bool ru.leaf, .slice ta ru.terms.length tc] 72) := ⟨_, rfl⟩
    have hb3 : Below w.heap.size w W3 := by rw [hW3]; exact hb2.alloc hb2.size _
    have hs3 : W3.heap.size = w.heap.size + 1 + 1 + 1 := by rw [hW3]; simp
    have k1 : W3.heap[w.heap.size]? = some (.cells #[.int .i64 rt, .int .i64 nx, .slice sa l.length sc] 33 (0, 0)) := by
      rw [hW3, Below.heap_alloc _ _ _ (by simp; omega), Below.heap_alloc _ _ _ (by simp)]; exact alloc_new w _
    have k2 : W3.heap[w.heap.size + 1]? = some (.cells #[.int .i64 x.id, .int .i64 x.kind, .int .i64 x.attr, .string x.text, .slice ka x.kids.length kc] 69 (0, 0)) := by
      rw [hW3, Below.heap_alloc _ _ _ (by simp)]
      have := alloc_new (w.alloc (.cells #[.int .i64 rt, .int .i64 nx, .slice sa l.length sc] 33)) (.cells #[.int .i64 x.id, .int .i64 x.kind, .int .i64 x.attr, .string x.text, .slice ka x.kids.length kc] 69)
      simp only [World.size_alloc] at this
      exact this
    have k3 : W3.heap[w.heap.size + 1 + 1]? = some (.cells #[.string ru.name, .bool ru.leaf, .slice ta ru.terms.length tc] 72 (0, 0)) := by
      rw [hW3]
      have := alloc_new ((w.alloc (.cells #[.int .i64 rt, .int .i64 nx, .slice sa l.length sc] 33)).alloc (.cells #[.int .i64 x.id, .int .i64 x.kind, .int .i64 x.attr, .string x.text, .slice ka x.kids.length kc] 69)) (.cells #[.string ru.name, .bool ru.leaf, .slice ta ru.terms.length tc] 72)
      simp only [World.size_alloc] at this
      exact this
    have HOld : Hid (∀ W', Below (w.heap.size + 1 + 1 + 1) W3 W' → Below w.heap.size w W') := fun W' hbx => hb3.trans (hbx.mono (by omega))
    have HS3 : Hid (∀ W', Below (w.heap.size + 1 + 1 + 1) W3 W' → W'.cell? ⟨w.heap.size, 0, none⟩ = some (.int .i64 rt) ∧ W'.cell? ⟨w.heap.size, 1, none⟩ = some (.int .i64 nx) ∧ W'.cell? ⟨w.heap.size, 2, none⟩ = some (.slice sa l.length sc) ∧ W'.cell? ⟨w.heap.size + 1, 0, none⟩ = some (.int .i64 x.id) ∧ W'.cell? ⟨w.heap.size + 1, 1, none⟩ = some (.int .i64 x.kind) ∧ W'.cell? ⟨w.heap.size + 1, 2, none⟩ = some (.int .i64 x.attr) ∧ W'.cell? ⟨w.heap.size + 1, 3, none⟩ = some (.string x.text) ∧ W'.cell? ⟨w.heap.size + 1, 4, none⟩ = some (.slice ka x.kids.length kc) ∧ W'.cell? ⟨w.heap.size + 1 + 1, 2, none⟩ = some (.slice ta ru.terms.length tc)) := fun W' hbx => by
      have j1 := (hbx.block w.heap.size (by omega)).trans k1
      have j2 := (hbx.block (w.heap.size + 1) (by omega)).trans k2
      have j3 := (hbx.block (w.heap.size + 1 + 1) (by omega)).trans k3
      exact ⟨cell_of_heap j1 0, cell_of_heap j1 1, cell_of_heap j1 2, cell_of_heap j2 0, cell_of_heap j2 1, cell_of_heap j2 2, cell_of_heap j2 3, cell_of_heap j2 4, cell_of_heap j3 2⟩
    clear k1 k2 k3
    cases hlf : ru.leaf
    · have HCn1 := hide (HCn.out hlf)
      rw [hlf] at hW3
      clear HCn HCl
      have HKi1 : Hid (∀ wx, Below (w.heap.size + 1 + 1 + 1) W3 wx → Calls Tryd.prog 51 #[.agg #[.int .i64 rt, .int .i64 nx, .slice sa l.length sc], .agg #[.int .i64 x.id, .int .i64 x.kind, .int .i64 x.attr, .string x.text, .slice ka x.kids.length kc]] wx fun e w' => ∃ a q, e = .returned (.slice a x.kids.length q) ∧ Hid (IntsAt w'.heap.size w' (.slice a x.kids.length q) (kindsFor l x.kids) ∧ Roomy (.slice a x.kids.length q) (kindsFor l x.kids).length) ∧ Below (w.heap.size + 1 + 1 + 1) W3 w') := fun wx hbx =>
        (HKi.out wx (HOld.out wx hbx)).mono fun e w' ⟨v1, he, hr1, hb1⟩ => by
          obtain ⟨a1, q1, rfl⟩ := row_shape hr1
          rw [hkl] at he
          have h1 := ints_of_row hr1
          have h2 := row_roomy hr1
          rw [hkl] at h1 h2
          exact ⟨a1, q1, he, ⟨h1, by rw [hkl]; exact h2⟩, hbx.trans (hb1.mono (by have := hbx.size; omega))⟩
      have HM1 : Hid (∀ a q wx, Below (w.heap.size + 1 + 1 + 1) W3 wx → Hid (IntsAt wx.heap.size wx (.slice a x.kids.length q) (kindsFor l x.kids) ∧ Roomy (.slice a x.kids.length q) (kindsFor l x.kids).length) → Calls Tryd.prog 52 #[.slice ta ru.terms.length tc, .slice a x.kids.length q] wx fun e w' => e = .returned (.bool mb) ∧ Below (w.heap.size + 1 + 1 + 1) W3 w') := fun a q wx hbx hI =>
        (HM.out _ wx (HOld.out wx hbx) hI.out.1 hI.out.2).mono fun e w' ⟨he, hb'⟩ => ⟨he, hbx.trans (hb'.mono (by have := hbx.size; omega))⟩
      have hb0 : Below (w.heap.size + 1 + 1 + 1) W3 W3.drew := (Below.refl _ _).drew
      have hb00 : Below (w.heap.size + 1 + 1 + 1) W3 W3 := Below.refl _ _
      have hbx2 : b < w.heap.size + 1 + 1 := by omega
      rw [hm] at hW3 hb2
      have HKd := hide hm
      clear HM HKi hs3 h1 hm
      by_cases ht : x.text.size = 0
      · have hte : x.text = ByteArray.empty := empty_iff.2 ht
        have HCm : Hid (c = if mb = true then 0 else 12) := by rw [Hid, HC.out]; have := HCn1.out; simp only [ht, true_and] at this; rw [Bool.eq_iff_iff.2 this]
        have HE := hide hte
        rw [hte] at HS3 hW3 HKi1 hb2
        rw [HKd.out] at HS3 HKi1
        clear HCn1 ht hte HC
        rw [HKd.out, HE.out]
        go_enter Tryd.func38, Tryd.ntmps38
        go_wp2_with fail
        rw [← hW3]
        clear hW3
        go_region_held3 (fun W' => W'.cell? ⟨w.heap.size, 0, none⟩ = some (.int .i64 rt) ∧ W'.cell? ⟨w.heap.size, 1, none⟩ = some (.int .i64 nx) ∧ W'.cell? ⟨w.heap.size, 2, none⟩ = some (.slice sa l.length sc) ∧ W'.cell? ⟨w.heap.size + 1, 0, none⟩ = some (.int .i64 x.id) ∧ W'.cell? ⟨w.heap.size + 1, 1, none⟩ = some (.int .i64 ((m : Int) + 1)) ∧ W'.cell? ⟨w.heap.size + 1, 2, none⟩ = some (.int .i64 x.attr) ∧ W'.cell? ⟨w.heap.size + 1, 3, none⟩ = some (.string ByteArray.empty) ∧ W'.cell? ⟨w.heap.size + 1, 4, none⟩ = some (.slice ka x.kids.length kc) ∧ W'.cell? ⟨w.heap.size + 1 + 1, 2, none⟩ = some (.slice ta ru.terms.length tc)) (first | exact HS3.out _ (by assumption) | go_keep)
          (first
            | (go_at_call 51; refine (HKi1.out _ (by assumption)).mono ?_; rintro e w2 ⟨a2, q2, rfl, hI2, hb2⟩)
            | (go_at_call 52; refine (HM1.out _ _ _ (by assumption) (by assumption)).mono ?_; rintro e w3 ⟨rfl, hb3⟩))
        cases mb
        all_goals
          go_wp2_with fail
          go_ret
          obtain rfl := HCm.out
          exact ⟨rfl, HOld.out _ hb3⟩
      · have hte : ¬ x.text.toList = [] := fun h => ht (toList_nil.1 h)
        have hte6 : x.text.toList.isEmpty = false := by rw [List.isEmpty_eq_false_iff]; exact hte
        have HCf : Hid (c = 12) := by
          rw [Hid, HC.out, if_neg]
          rw [HCn1.out]; simp [ht]
        obtain ⟨d0, d1, d2, e0, e1, e2, e3, e4, f2⟩ := HS3.out W3 hb00
        have hz1 : w.heap.size + 1 < W3.heap.size := by rw [hW3]; simp
        clear HCn1 HM1 HKi1 HC HS3
        rw [HKd.out]
        go_enter Tryd.func38, Tryd.ntmps38
        go_wp2_with fail
        rw [← hW3]
        clear hW3
        have hcal := calm_cell W3
        refine wp_region_calm (by kernel_rfl) (by kernel_rfl) ?_
        repeat (go_big_quiet_step (fail))
        refine wpQuiet_nil ?_
        rintro _ ⟨t, rfl⟩
        go_wp2_with fail
        go_ret
        obtain rfl : c = 12 := HCf.out
        exact ⟨rfl, hb3.trans (t.below.mono hb3.size)⟩
    · have HCl1 := hide (HCl.out hlf)
      have hb3' := hb3
      rw [hW3, hlf] at hb3'
      rw [hm] at hb3'
      clear HCn HCl HM HKi HS3 HOld hW3 hb3 hs3 hb2
      by_cases h0 : 0 < x.kids.length
      · have HCf : Hid (c = 12) := by
          rw [Hid, HC.out, HCl1.out, if_neg]
          rw [decide_eq_true_eq, hkl]; omega
        rw [hm]
        clear HC HCl1
        go_enter Tryd.func38, Tryd.ntmps38
        go_wp2_with fail
        go_ret
        obtain rfl : c = 12 := HCf.out
        exact ⟨rfl, hb3'⟩
      · have h00 : x.kids.length = 0 := by omega
        have HCf : Hid (c = 0) := by
          rw [Hid, HC.out, HCl1.out, if_pos]
          rw [decide_eq_true_eq, hkl]; omega
        rw [hm]
        rw [h00] at hb3' ⊢
        clear HC HCl1 h0 h00 h12 hkl
        go_enter Tryd.func38, Tryd.ntmps38
        go_wp2_with fail
        go_ret
        obtain rfl : c = 0 := HCf.out
        exact ⟨rfl, hb3'⟩

set_option maxHeartbeats 4000000 in
set_option maxRecDepth 100000 in
theorem specCheckNode_any (n₀ : Nat) (v : Value) (R : List PRule) (d : PDoc) (s : Value) (id : Int) (w : World) (hV : RulesAt n₀ w v R) (hRo : RulesRoom n₀ w v R) (hR : SmallRules R) (hN : NodesAt n₀ w s d.nodes) (hn : n₀ ≤ w.heap.size) (hl : d.nodes.length ≤ 1048576) (hkl : ∀ x ∈ d.nodes, x.kids.length ≤ 1048576) (c : Int) (hc : c = nodeAns R d id) :
    Calls Tryd.prog 10 #[v, .agg #[.int .i64 d.root, .int .i64 d.next, s], .int .i64 id] w fun e w' => e = .returned (.int .i64 c) ∧ Below w.heap.size w w' := by
  obtain ⟨W1, hW1e⟩ : ∃ W1, W1 = w.alloc (.cells #[.int .i64 d.root, .int .i64 d.next, s] 33) := ⟨_, rfl⟩
  have hW : Below w.heap.size w W1 := by rw [hW1e]; exact (Below.refl w.heap.size w).alloc (Nat.le_refl _) _
  have hs1 : W1.heap.size = w.heap.size + 1 := by rw [hW1e]; simp
  have hh1 : W1.heap[w.heap.size]? = some (.cells #[.int .i64 d.root, .int .i64 d.next, s] 33 (0, 0)) := by rw [hW1e]; exact alloc_new w _
  have HOld : Hid (∀ W', Below (w.heap.size + 1) W1 W' → Below w.heap.size w W') := fun W' hb => hW.trans (hb.mono (by omega))
  obtain ⟨r, hr⟩ : ∃ r : Bool, r = true ↔ SchemaP R := ⟨dec _, dec_iff _⟩
  have HSch := hide (specSchOK_any n₀ v R W1 (hV.below (Nat.le_refl _) (hW.mono hn)) (by omega) hR r hr)
  rw [hs1] at HSch
  obtain ⟨a0, ha0⟩ : ∃ a0, a0 = askOf d id := ⟨_, rfl⟩
  have HAsk : Hid (∀ wx, Below (w.heap.size + 1) W1 wx → Calls Tryd.prog 37 #[.agg #[.int .i64 d.root, .int .i64 d.next, s], .int .i64 id] wx fun e w' => e = .returned (.int .i64 a0) ∧ Below (w.heap.size + 1) W1 w') := fun wx hb =>
    (specAsk_any n₀ d s id wx (hN.below (Nat.le_refl _) ((HOld.out wx hb).mono hn)) (by have := (HOld.out wx hb).size; omega) hl hkl a0 ha0).mono fun e w' ⟨he, hb'⟩ => ⟨he, hb.trans (hb'.mono (by have := hb.size; omega))⟩
  have HV := hide hV
  have HRo := hide hRo
  have HR := hide hR
  have HN := hide hN
  have HC := hide hc
  have HA0 := hide ha0
  have HRr := hide hr
  have hlen := hR.len
  obtain ⟨sa, sc, rfl, hk'⟩ := hN
  obtain ⟨ra, rc, rfl, -⟩ := hV
  clear hc hR hRo ha0 hr hkl
  by_cases hlo : 4096 < R.length
  · have HX : Hid (c = 2) := by
      have h2 := schAsk_long hlo
      rw [Hid, HC.out, nodeAns_no (by rw [underOf_sch (by rw [h2]; decide), h2]; decide), underOf_sch (by rw [h2]; decide), h2]
    rw [hW1e] at hW
    clear HC HA0 HRr HAsk HSch HOld hk' hh1 hW1e hs1
    go_enter Tryd.func10, Tryd.ntmps10
    go_wp2_with fail
    go_ret
    obtain rfl : c = 2 := HX.out
    exact ⟨rfl, hW⟩
  cases r with
  | false =>
    have HX : Hid (c = 1) := by
      have h2 := schAsk_bad hlo (fun h => by have := HRr.out.2 h; cases this)
      rw [Hid, HC.out, nodeAns_no (by rw [underOf_sch (by rw [h2]; decide), h2]; decide), underOf_sch (by rw [h2]; decide), h2]
    clear HC HA0 HRr HAsk hk' hh1
    go_enter Tryd.func10, Tryd.ntmps10
    go_wp2_with fail
    rw [← hW1e]
    clear hW1e
    refine HSch.out.mono ?_
    rintro e w1 ⟨rfl, hb1⟩
    go_wp2_with fail
    go_ret
    obtain rfl : c = 1 := HX.out
    exact ⟨rfl, HOld.out _ hb1⟩
  | true =>
    have HP := hide (HRr.out.1 rfl)
    have HU : Hid (underOf R d id = a0) := by rw [Hid, underOf_doc (schAsk_ok HP.out)]; exact HA0.out.symm
    by_cases h0 : a0 = 0
    · have ha := HA0.out.symm.trans h0
      obtain ⟨G, hin⟩ := askOf_zero ha
      obtain ⟨p, hp, hpl, hpn, hpm⟩ := place_node G.rise hin
      obtain ⟨b, off, rfl, hb, hcc⟩ := hk'.resolve_left (by intro e; simp [e] at hpl)
      have hAt := hcc p hpl
      have n0 := hAt.c0
      have n1 := hAt.c1
      have n2 := hAt.c2
      have n3 := hAt.c3
      obtain ⟨kv, n4, hI⟩ := hAt.c4
      have hfine := G.fine _ hpm
      have HX : Hid (c = checkOf R d.nodes (d.nodes[p]?.getD nodeNil)) := by rw [Hid, HC.out, nodeAns_ok (HU.out.trans h0), hpn]
      have HNd : Hid (∀ wx, Below (w.heap.size + 1) W1 wx → Calls Tryd.prog 38 #[.slice ra R.length rc, .agg #[.int .i64 d.root, .int .i64 d.next, .slice (some ⟨b, off, none⟩) d.nodes.length sc], .agg #[.int .i64 (d.nodes[p]?.getD nodeNil).id, .int .i64 (d.nodes[p]?.getD nodeNil).kind, .int .i64 (d.nodes[p]?.getD nodeNil).attr, .string (d.nodes[p]?.getD nodeNil).text, kv]] wx fun e w' => e = .returned (.int .i64 c) ∧ Below (w.heap.size + 1) W1 w') := fun wx hbx => by
        have ho := HOld.out wx hbx
        exact (specNodeOK_any d.nodes n₀ d.root d.next _ R _ _ kv wx G.rise (fun k hk => G.there k (List.mem_flatMap.2 ⟨_, hpm, hk⟩)) hfine.2.2.2.2.2.2.2 hfine.2.2.1 (HV.out.below (Nat.le_refl _) (ho.mono hn)) (HRo.out.below HV.out (ho.mono hn)) (by have := ho.size; omega) HP.out HR.out (HN.out.below (Nat.le_refl _) (ho.mono hn)) (hI.below (Nat.le_refl _) (ho.mono hn)) hl c HX.out).mono fun e w' ⟨he, hb'⟩ => ⟨he, hbx.trans (hb'.mono (by have := hbx.size; omega))⟩
      have HAt : Hid (∀ wx, Below (w.heap.size + 1) W1 wx → Calls Tryd.prog 39 #[.agg #[.int .i64 d.root, .int .i64 d.next, .slice (some ⟨b, off, none⟩) d.nodes.length sc], .int .i64 id] wx fun e w' => e = .returned (.int .i64 (p : Int)) ∧ Below (w.heap.size + 1) W1 w') := fun wx hbx => by
        have ho := HOld.out wx hbx
        have := specAt_any n₀ d.root d.next _ d.nodes id wx (HN.out.below (Nat.le_refl _) (ho.mono hn)) (by have := ho.size; omega) hl
        rw [hp] at this
        exact this.mono fun e w' ⟨he, hb'⟩ => ⟨he, hbx.trans (hb'.mono (by have := hbx.size; omega))⟩
      have hbw : b < w.heap.size := by omega
      have HS : Hid (∀ W', Below (w.heap.size + 1) W1 W' → W'.cell? ⟨w.heap.size, 0, none⟩ = some (.int .i64 d.root) ∧ W'.cell? ⟨w.heap.size, 1, none⟩ = some (.int .i64 d.next) ∧ W'.cell? ⟨w.heap.size, 2, none⟩ = some (.slice (some ⟨b, off, none⟩) d.nodes.length sc) ∧ W'.cell? ⟨b, off + p * 5, none⟩ = some (.int .i64 (d.nodes[p]?.getD nodeNil).id) ∧ W'.cell? ⟨b, off + p * 5 + 1, none⟩ = some (.int .i64 (d.nodes[p]?.getD nodeNil).kind) ∧ W'.cell? ⟨b, off + p * 5 + 2, none⟩ = some (.int .i64 (d.nodes[p]?.getD nodeNil).attr) ∧ W'.cell? ⟨b, off + p * 5 + 3, none⟩ = some (.string (d.nodes[p]?.getD nodeNil).text) ∧ W'.cell? ⟨b, off + p * 5 + 4, none⟩ = some kv) := fun W' hbx => by
        have j1 := (hbx.block w.heap.size (by omega)).trans hh1
        have ho := HOld.out W' hbx
        exact ⟨cell_of_heap j1 0, cell_of_heap j1 1, cell_of_heap j1 2, (ho.cell (p := ⟨b, off + p * 5, none⟩) hbw).trans n0, (ho.cell (p := ⟨b, off + p * 5 + 1, none⟩) hbw).trans n1, (ho.cell (p := ⟨b, off + p * 5 + 2, none⟩) hbw).trans n2, (ho.cell (p := ⟨b, off + p * 5 + 3, none⟩) hbw).trans n3, (ho.cell (p := ⟨b, off + p * 5 + 4, none⟩) hbw).trans n4⟩
      obtain ⟨akk, ckk, rfl, -⟩ := hI
      have h00 : (a0 != 0) = false := by simp [h0]
      have hpl1 : (p : Int) < (d.nodes.length : Int) := by omega
      clear h0 ha G hin hp hpn hpm hk' hcc hAt hfine HC HU HA0 HRr HX n0 n1 n2 n3 n4 hh1 HN HV HRo HR HP
      generalize d.nodes[p]?.getD nodeNil = x at *
      go_enter Tryd.func10, Tryd.ntmps10
      go_wp2_with fail
      rw [← hW1e]
      clear hW1e
      refine HSch.out.mono ?_
      rintro e w1 ⟨rfl, hb1⟩
      obtain ⟨x0, x1, x2, -⟩ := HS.out w1 hb1
      have hz1 : w.heap.size < w1.heap.size := by have := hb1.size; omega
      go_wp2_with fail
      refine (HAsk.out w1 hb1).mono ?_
      rintro e w2 ⟨rfl, hb2⟩
      have hb2d := hb2.drew
      clear HAsk HSch x0 x1 x2
      go_wp2_with fail
      go_region_held3 (fun W' => W'.cell? ⟨w.heap.size, 0, none⟩ = some (.int .i64 d.root) ∧ W'.cell? ⟨w.heap.size, 1, none⟩ = some (.int .i64 d.next) ∧ W'.cell? ⟨w.heap.size, 2, none⟩ = some (.slice (some ⟨b, off, none⟩) d.nodes.length sc) ∧ W'.cell? ⟨b, off + p * 5, none⟩ = some (.int .i64 x.id) ∧ W'.cell? ⟨b, off + p * 5 + 1, none⟩ = some (.int .i64 x.kind) ∧ W'.cell? ⟨b, off + p * 5 + 2, none⟩ = some (.int .i64 x.attr) ∧ W'.cell? ⟨b, off + p * 5 + 3, none⟩ = some (.string x.text) ∧ W'.cell? ⟨b, off + p * 5 + 4, none⟩ = some (.slice akk x.kids.length ckk)) (first | exact HS.out _ (by assumption) | go_keep)
        (first
          | (go_at_call 39; refine (HAt.out _ (by assumption)).mono ?_; rintro e w3 ⟨rfl, hb3⟩)
          | (go_at_call 38; refine (HNd.out _ (by assumption)).mono ?_; rintro e w4 ⟨rfl, hb4⟩))
      go_wp2_with fail
      go_ret
      exact ⟨rfl, HOld.out _ hb4⟩
    · have HX : Hid (c = a0) := by rw [Hid, HC.out, nodeAns_no (by rw [HU.out]; exact h0), HU.out]
      have h00 : (a0 != 0) = true := by simp [h0]
      have HS : Hid (∀ W', Below (w.heap.size + 1) W1 W' → W'.cell? ⟨w.heap.size, 0, none⟩ = some (.int .i64 d.root) ∧ W'.cell? ⟨w.heap.size, 1, none⟩ = some (.int .i64 d.next) ∧ W'.cell? ⟨w.heap.size, 2, none⟩ = some (.slice sa d.nodes.length sc)) := fun W' hbx => by
        have j1 := (hbx.block w.heap.size (by omega)).trans hh1
        exact ⟨cell_of_heap j1 0, cell_of_heap j1 1, cell_of_heap j1 2⟩
      clear h0 HC HU HA0 HRr hk' hh1
      go_enter Tryd.func10, Tryd.ntmps10
      go_wp2_with fail
      rw [← hW1e]
      clear hW1e
      refine HSch.out.mono ?_
      rintro e w1 ⟨rfl, hb1⟩
      obtain ⟨x0, x1, x2⟩ := HS.out w1 hb1
      have hz1 : w.heap.size < w1.heap.size := by have := hb1.size; omega
      go_wp2_with fail
      refine (HAsk.out w1 hb1).mono ?_
      rintro e w2 ⟨rfl, hb2⟩
      go_wp2_with fail
      go_ret
      obtain rfl : c = a0 := HX.out
      exact ⟨rfl, HOld.out _ hb2⟩
end Go.Proofs.YtmcopoonnhcdjaaDoor

namespace Go.Proofs.YtmcopoonnhcdjaaDoor
open Go.RowKit

/-- The value is a node. -/
def NodeVal (n₀ : Nat) (w : World) (v : Value) (x : PNode) : Prop :=
  ∃ kv, v = .agg #[.int .i64 x.id, .int .i64 x.kind, .int .i64 x.attr, .string x.text, kv] ∧ IntsAt n₀ w kv x.kids

theorem NodeVal.below {n₀ n₁ : Nat} {w w' : World} {v : Value} {x : PNode} (h : NodeVal n₀ w v x) (hn : n₀ ≤ n₁) (hb : Below n₀ w w') : NodeVal n₁ w' v x := by
  obtain ⟨kv, rfl, h⟩ := h
  exact ⟨kv, rfl, h.below hn hb⟩

set_option maxHeartbeats 400000 in
theorem eqNode_any (n₀ : Nat) (v v' : Value) (x : PNode) (w : World) (h : NodeVal n₀ w v x) (h' : NodeVal n₀ w v' x) (hn : n₀ ≤ w.heap.size) (hl : x.kids.length ≤ 1048576) :
    Calls Tryd.prog 70 #[v, v'] w fun e w' => e = .returned (.bool true) ∧ Below w.heap.size w w' := by
  obtain ⟨kv, rfl, hk⟩ := h
  obtain ⟨kv', rfl, hk'⟩ := h'
  have hs : (x.text.toList == x.text.toList) = true := by simp
  have HE : Hid (∀ w1, Below w.heap.size w w1 → Calls Tryd.prog 20 #[kv, kv'] w1 fun e w' => e = .returned (.bool true) ∧ Below w1.heap.size w1 w') := fun w1 hb =>
    eqInts_any n₀ kv kv' x.kids w1 (hk.below (Nat.le_refl _) (hb.mono hn)) (hk'.below (Nat.le_refl _) (hb.mono hn)) hl
  obtain ⟨a, cap, rfl, -⟩ := hk
  obtain ⟨a', cap', rfl, -⟩ := hk'
  have hW2 := ((Below.refl w.heap.size w).alloc (Nat.le_refl _) (.cells #[.int .i64 x.id, .int .i64 x.kind, .int .i64 x.attr, .string x.text, .slice a x.kids.length cap] 69)).alloc (by simp) (.cells #[.int .i64 x.id, .int .i64 x.kind, .int .i64 x.attr, .string x.text, .slice a' x.kids.length cap'] 69)
  go_enter Tryd.func70, Tryd.ntmps70
  go_wp2_with (go_at_call 20; refine (HE.out _ hW2).mono ?_; rintro e w1 ⟨rfl, hb1⟩)
  go_ret
  exact ⟨rfl, hW2.trans (hb1.mono (by simp; omega))⟩

theorem NodeAt.val {n₀ : Nat} {w : World} {b o : Nat} {x : PNode} (h : NodeAt n₀ w b o x) : ∃ kv, w.cell? ⟨b, o + 4, none⟩ = some kv ∧ NodeVal n₀ w (.agg #[.int .i64 x.id, .int .i64 x.kind, .int .i64 x.attr, .string x.text, kv]) x := by
  obtain ⟨kv, h4, hi⟩ := h.c4
  exact ⟨kv, h4, kv, rfl, hi⟩

set_option maxHeartbeats 1000000 in
set_option maxRecDepth 100000 in
theorem eqNodes_any (n₀ : Nat) (v v' : Value) (l : List PNode) (w : World) (h : NodesAt n₀ w v l) (h' : NodesAt n₀ w v' l) (hn : n₀ ≤ w.heap.size) (hl : l.length ≤ 1048576) (hkl : ∀ x ∈ l, x.kids.length ≤ 1048576) :
    Calls Tryd.prog 45 #[v, v'] w fun e w' => e = .returned (.bool true) ∧ Below w.heap.size w w' := by
  obtain ⟨a, cap, rfl, hk⟩ := h
  obtain ⟨a', cap', rfl, hk'⟩ := h'
  have HKL := hide hkl
  clear hkl
  go_enter Tryd.func45, Tryd.ntmps45
  go_wp2_with fail
  go_loopw [5] (fun i wr => ∃ k : Nat, k ≤ l.length ∧ i = .int .i64 k ∧ Below w.heap.size w wr) (fun i _ => l.length - (intOf i).toNat)
  case atStart => exact ⟨0, Nat.zero_le _, rfl, Below.refl _ _⟩
  case round =>
    obtain ⟨k, hkl, rfl, hbr⟩ := hrel
    have hsz := hbr.size
    by_cases hlt : k < l.length
    · obtain ⟨b, off, rfl, hb, hc⟩ := hk.resolve_left (by intro e; simp [e] at hlt)
      obtain ⟨b', off', rfl, hb', hc'⟩ := hk'.resolve_left (by intro e; simp [e] at hlt)
      have hA := (hc k hlt).below hb (Nat.le_refl _) (hbr.mono hn)
      have hA' := (hc' k hlt).below hb' (Nat.le_refl _) (hbr.mono hn)
      have hlx := HKL.out (l[k]?.getD nodeNil) (by simp [hlt])
      have g0 := hA.c0
      have g1 := hA.c1
      have g2 := hA.c2
      have g3 := hA.c3
      have f0 := hA'.c0
      have f1 := hA'.c1
      have f2 := hA'.c2
      have f3 := hA'.c3
      obtain ⟨kv, g4, hi⟩ := hA.c4
      obtain ⟨kv', f4, hi'⟩ := hA'.c4
      have hv : NodeVal n₀ wr (.agg #[.int .i64 (l[k]?.getD nodeNil).id, .int .i64 (l[k]?.getD nodeNil).kind, .int .i64 (l[k]?.getD nodeNil).attr, .string (l[k]?.getD nodeNil).text, kv]) (l[k]?.getD nodeNil) := ⟨kv, rfl, hi⟩
      have hv' : NodeVal n₀ wr (.agg #[.int .i64 (l[k]?.getD nodeNil).id, .int .i64 (l[k]?.getD nodeNil).kind, .int .i64 (l[k]?.getD nodeNil).attr, .string (l[k]?.getD nodeNil).text, kv']) (l[k]?.getD nodeNil) := ⟨kv', rfl, hi'⟩
      have hlt1 : (k : Int) < (l.length : Int) := by omega
      have hbw : b < wr.heap.size := by omega
      have hbw' : b' < wr.heap.size := by omega
      have hcal := calm_cell wr
      have HE : Hid (∀ t : Calm wr, Calls Tryd.prog 70 #[.agg #[.int .i64 (l[k]?.getD nodeNil).id, .int .i64 (l[k]?.getD nodeNil).kind, .int .i64 (l[k]?.getD nodeNil).attr, .string (l[k]?.getD nodeNil).text, kv], .agg #[.int .i64 (l[k]?.getD nodeNil).id, .int .i64 (l[k]?.getD nodeNil).kind, .int .i64 (l[k]?.getD nodeNil).attr, .string (l[k]?.getD nodeNil).text, kv']] t.out fun e w' => e = .returned (.bool true) ∧ Below t.out.heap.size t.out w') := fun t =>
        eqNode_any n₀ _ _ (l[k]?.getD nodeNil) t.out (hv.below (Nat.le_refl _) (t.below.mono (by omega))) (hv'.below (Nat.le_refl _) (t.below.mono (by omega))) (by have := t.below.size; omega) hlx
      clear hv hv'
      obtain ⟨ak, ck, rfl, -⟩ := hi
      obtain ⟨ak', ck', rfl, -⟩ := hi'
      clear hA hA' hc hc' hk hk'
      generalize l[k]?.getD nodeNil = x at *
      go_wp2_with fail
      refine wp_region_calm (by kernel_rfl) (by kernel_rfl) ?_
      repeat (go_big_quiet_step ((go_at_call 70; exact calm_of (HE.out _))))
      refine wpQuiet_nil ?_
      rintro _ ⟨t, rfl⟩
      have ht := t.below
      go_wp2_with fail
      exact ⟨⟨k + 1, by omega, by go_num, hbr.trans (ht.mono hsz)⟩, by simp [intOf]; omega⟩
    · clear hk hk'
      go_wp2_with fail
      go_ret
      exact ⟨rfl, hbr⟩

set_option maxHeartbeats 400000 in
theorem eqDoc_any (n₀ : Nat) (v v' : Value) (d : PDoc) (w : World) (h : DocAt n₀ w v d) (h' : DocAt n₀ w v' d) (hn : n₀ ≤ w.heap.size) (hl : d.nodes.length ≤ 1048576) (hkl : ∀ x ∈ d.nodes, x.kids.length ≤ 1048576) :
    Calls Tryd.prog 15 #[v, v'] w fun e w' => e = .returned (.bool true) ∧ Below w.heap.size w w' := by
  obtain ⟨s, rfl, hk⟩ := h
  obtain ⟨s', rfl, hk'⟩ := h'
  have HE : Hid (∀ w1, Below w.heap.size w w1 → Calls Tryd.prog 45 #[s, s'] w1 fun e w' => e = .returned (.bool true) ∧ Below w1.heap.size w1 w') := fun w1 hb =>
    eqNodes_any n₀ s s' d.nodes w1 (hk.below (Nat.le_refl _) (hb.mono hn)) (hk'.below (Nat.le_refl _) (hb.mono hn)) (by have := hb.size; omega) hl hkl
  obtain ⟨a, cap, rfl, -⟩ := hk
  obtain ⟨a', cap', rfl, -⟩ := hk'
  clear hkl
  have hW2 := ((Below.refl w.heap.size w).alloc (Nat.le_refl _) (.cells #[.int .i64 d.root, .int .i64 d.next, .slice a d.nodes.length cap] 33)).alloc (by simp) (.cells #[.int .i64 d.root, .int .i64 d.next, .slice a' d.nodes.length cap'] 33)
  go_enter Tryd.func15, Tryd.ntmps15
  go_wp2_with (go_at_call 45; refine (HE.out _ hW2).mono ?_; rintro e w1 ⟨rfl, hb1⟩)
  go_ret
  exact ⟨rfl, hW2.trans (hb1.mono (by simp; omega))⟩
end Go.Proofs.YtmcopoonnhcdjaaDoor
