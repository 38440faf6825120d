/-
  One node held against a schema: what the specification answers.
  CheckDoc: what the program answers.
-/
import Derived.Test.YtmcopoonnhcdjaaDoorJoin29
import Derived.Test.YtmcopoonnhcdjaaDoorJoin23
import Derived.Test.YtmcopoonnhcdjaaDoorJoin6
import Derived.Deep.RegionHeld3
import Derived.RegionIn
import Derived.Sort.QuietIn
namespace Go.Proofs.YtmcopoonnhcdjaaDoor
open Go.RowKit

/-- The terms of each rule have room for themselves. -/
def RulesRoom (n₀ : Nat) (w : World) (v : Value) (R : List PRule) : Prop :=
  ∀ b off cap, v = .slice (some ⟨b, off, none⟩) R.length cap → b < n₀ → ∀ j, j < R.length → ∀ tv, w.cell? ⟨b, off + j * 3 + 2, none⟩ = some tv → Roomy tv (R[j]?.getD ruleNil).terms.length

theorem RulesRoom.below {n₀ n₁ : Nat} {w w' : World} {v : Value} {R : List PRule} (h : RulesRoom n₀ w v R) (hV : RulesAt n₀ w v R) (hb : Below n₀ w w') : RulesRoom n₁ w' v R := by
  intro b off cap e _ j hj tv hc
  obtain ⟨a, cap', rfl, hk⟩ := hV
  simp only [Value.slice.injEq] at e
  obtain ⟨e1, -, -⟩ := e
  obtain ⟨b', off', e2, hb', -⟩ := hk.resolve_left (by intro e; simp [e] at hj)
  rw [e1] at e2
  simp only [Option.some.injEq, Addr.mk.injEq] at e2
  obtain ⟨rfl, rfl, -⟩ := e2
  rw [hb.cell (p := ⟨b, off + j * 3 + 2, none⟩) hb'] at hc
  exact h b off cap' (by rw [e1]) hb' j hj tv hc

theorem RulesOwn.rooms {lo hi : Nat} {w : World} {v : Value} {l : List PRule} (h : RulesOwn lo hi w v l) : RulesRoom hi w v l := by
  obtain ⟨b, cap, cs, rfl, hcp, h1, h2, h3, h4⟩ := h
  intro b' off cap' e _ j hj tv hc
  simp only [Value.slice.injEq, Option.some.injEq, Addr.mk.injEq] at e
  obtain ⟨⟨rfl, rfl, -⟩, -, -⟩ := e
  obtain ⟨kv, g0, g1, g2, g5⟩ := h4 j hj
  rw [Nat.zero_add, cell_of_heap h3, g2] at hc
  cases hc
  exact g5.room

set_option maxHeartbeats 4000000 in
set_option maxRecDepth 100000 in
theorem specNodeOK_any (l : List PNode) (n₀ : Nat) (rt nx : Int) (x : PNode) (R : List PRule) (v s kv : Value) (w : World) (hr : (idsOf l).Pairwise (· < ·)) (hks : ∀ k ∈ x.kids, k ∈ idsOf l) (h12 : x.kids.length ≤ 12) (h1 : 1 ≤ x.kind)
    (hV : RulesAt n₀ w v R) (hRo : RulesRoom n₀ w v R) (hn : n₀ ≤ w.heap.size) (hP : SchemaP R) (hS : SmallRules R) (hN : NodesAt n₀ w s l) (hK : IntsAt n₀ w kv x.kids) (hl : l.length ≤ 1048576) (c : Int) (hc : c = checkOf R l x) :
    Calls Tryd.prog 38 #[v, .agg #[.int .i64 rt, .int .i64 nx, s], .agg #[.int .i64 x.id, .int .i64 x.kind, .int .i64 x.attr, .string x.text, kv]] w fun e w' => e = .returned (.int .i64 c) ∧ Below w.heap.size w w' := by
  have hfew := hP.few
  have HN := hide hN
  have HKx := hide hK
  obtain ⟨a, cap, rfl, hV'⟩ := hV
  obtain ⟨sa, sc, rfl, -⟩ := hN
  obtain ⟨ka, kc, rfl, -⟩ := hK
  have hb2 : Below w.heap.size w ((w.alloc (.cells #[.int .i64 rt, .int .i64 nx, .slice sa l.length sc] 33)).alloc (.cells #[.int .i64 x.id, .int .i64 x.kind, .int .i64 x.attr, .string x.text, .slice ka x.kids.length kc] 69)) := ((Below.refl _ _).alloc (Nat.le_refl _) _).alloc (by simp) _
  by_cases hk : (R.length : Int) < x.kind
  · have HC : Hid (c = 10) := by rw [Hid, hc]; unfold checkOf; rw [if_pos hk]
    clear hks hr hP hS hc hV' hRo HN HKx
    go_enter Tryd.func38, Tryd.ntmps38
    go_wp2_with fail
    go_ret
    obtain rfl : c = 10 := HC.out
    exact ⟨rfl, hb2⟩
  · obtain ⟨m, hm⟩ : ∃ m : Nat, x.kind = (m : Int) + 1 := ⟨(x.kind - 1).toNat, by omega⟩
    have hmR : m < R.length := by omega
    have hmi : (m : Int) < (R.length : Int) := by omega
    obtain ⟨b, off, rfl, hb, hcc⟩ := hV'.resolve_left (by intro e; simp [e] at hmR)
    have hAt := hcc m hmR
    have r0 := hAt.c0
    have r1 := hAt.c1
    obtain ⟨tv, r2, hTv⟩ := hAt.c2
    have hTr := hRo b off cap rfl hb m hmR tv r2
    obtain ⟨q, hq⟩ : ∃ q : Bool, q = contentB (R[m]?.getD ruleNil) x.text (kindsFor l x.kids) := ⟨_, rfl⟩
    have HC : Hid (c = if q = true then 0 else 12) := by
      rw [Hid, hc, hq]
      unfold checkOf
      rw [if_neg hk, hm, show ((m : Int) + 1 - 1).toNat = m by omega]
    have hbw : b < w.heap.size := by omega
    have HKi : Hid (∀ wx, Below w.heap.size w wx → Calls Tryd.prog 51 #[.agg #[.int .i64 rt, .int .i64 nx, .slice sa l.length sc], .agg #[.int .i64 x.id, .int .i64 x.kind, .int .i64 x.attr, .string x.text, .slice ka x.kids.length kc]] wx (IdsPost wx (kindsFor l x.kids))) := fun wx hbx =>
      specKids_any l n₀ rt nx hl hr x hks (by omega) _ _ wx (HN.out.below (Nat.le_refl _) (hbx.mono hn)) (HKx.out.below (Nat.le_refl _) (hbx.mono hn)) (by have := hbx.size; omega)
    have hkl : (kindsFor l x.kids).length = x.kids.length := kindsFor_len _ _
    obtain ⟨mb, hmb⟩ : ∃ mb : Bool, mb = true ↔ MatchP (R[m]?.getD ruleNil).terms (kindsFor l x.kids) := ⟨dec _, dec_iff _⟩
    have HM : Hid (∀ (kv : Value) (wx : World), Below w.heap.size w wx → IntsAt wx.heap.size wx kv (kindsFor l x.kids) → Roomy kv (kindsFor l x.kids).length → Calls Tryd.prog 52 #[tv, kv] wx fun e w' => e = .returned (.bool mb) ∧ Below wx.heap.size wx w') := fun kv wx hbx hI hR' =>
      specMatch_any _ wx.heap.size tv kv _ wx (hTv.below (Nat.le_trans hn hbx.size) (hbx.mono hn)) hTr hI hR' (Nat.le_refl _) (hP.at hmR).terms.len (hS.at hmR).terms.kinds (by omega) mb hmb
    have HCl := hide (fun h : (R[m]?.getD ruleNil).leaf = true => @contentB_leaf _ x.text (kindsFor l x.kids) h)
    have HCn := hide (fun h : (R[m]?.getD ruleNil).leaf = false => @contentB_not _ x.text (kindsFor l x.kids) h)
    rw [← hq, ← hmb] at HCn
    rw [← hq] at HCl
    obtain ⟨ta, tc, rfl, -⟩ := hTv
    have hwr : IntKind.i64.wrap ((m : Int) + 1 - 1) = (m : Int) := by rw [IntKind.wrap_i64]; omega
    have hle : ¬ (R.length : Int) < (m : Int) + 1 := by omega
    clear hks hr hP hS hc hV' hcc hAt hq hk HN HKx hRo hTr hmb
    generalize R[m]?.getD ruleNil = ru at *
    obtain ⟨W3, hW3⟩ : ∃ W3, W3 = ((w.alloc (.cells #[.int .i64 rt, .int .i64 nx, .slice sa l.length sc] 33)).alloc (.cells #[.int .i64 x.id, .int .i64 x.kind, .int .i64 x.attr, .string x.text, .slice ka x.kids.length kc] 69)).alloc (.cells #[.string ru.name, .bool ru.leaf, .slice ta ru.terms.length tc] 72) := ⟨_, rfl⟩
    have hb3 : Below w.heap.size w W3 := by rw [hW3]; exact hb2.alloc hb2.size _
    have hs3 : W3.heap.size = w.heap.size + 1 + 1 + 1 := by rw [hW3]; simp
    have k1 : W3.heap[w.heap.size]? = some (.cells #[.int .i64 rt, .int .i64 nx, .slice sa l.length sc] 33 (0, 0)) := by
      rw [hW3, Below.heap_alloc _ _ _ (by simp; omega), Below.heap_alloc _ _ _ (by simp)]; exact alloc_new w _
    have k2 : W3.heap[w.heap.size + 1]? = some (.cells #[.int .i64 x.id, .int .i64 x.kind, .int .i64 x.attr, .string x.text, .slice ka x.kids.length kc] 69 (0, 0)) := by
      rw [hW3, Below.heap_alloc _ _ _ (by simp)]
      have := alloc_new (w.alloc (.cells #[.int .i64 rt, .int .i64 nx, .slice sa l.length sc] 33)) (.cells #[.int .i64 x.id, .int .i64 x.kind, .int .i64 x.attr, .string x.text, .slice ka x.kids.length kc] 69)
      simp only [World.size_alloc] at this
      exact this
    have k3 : W3.heap[w.heap.size + 1 + 1]? = some (.cells #[.string ru.name, .bool ru.leaf, .slice ta ru.terms.length tc] 72 (0, 0)) := by
      rw [hW3]
      have := alloc_new ((w.alloc (.cells #[.int .i64 rt, .int .i64 nx, .slice sa l.length sc] 33)).alloc (.cells #[.int .i64 x.id, .int .i64 x.kind, .int .i64 x.attr, .string x.text, .slice ka x.kids.length kc] 69)) (.cells #[.string ru.name, .bool ru.leaf, .slice ta ru.terms.length tc] 72)
      simp only [World.size_alloc] at this
      exact this
    have HOld : Hid (∀ W', Below (w.heap.size + 1 + 1 + 1) W3 W' → Below w.heap.size w W') := fun W' hbx => hb3.trans (hbx.mono (by omega))
    have HS3 : Hid (∀ W', Below (w.heap.size + 1 + 1 + 1) W3 W' → W'.cell? ⟨w.heap.size, 0, none⟩ = some (.int .i64 rt) ∧ W'.cell? ⟨w.heap.size, 1, none⟩ = some (.int .i64 nx) ∧ W'.cell? ⟨w.heap.size, 2, none⟩ = some (.slice sa l.length sc) ∧ W'.cell? ⟨w.heap.size + 1, 0, none⟩ = some (.int .i64 x.id) ∧ W'.cell? ⟨w.heap.size + 1, 1, none⟩ = some (.int .i64 x.kind) ∧ W'.cell? ⟨w.heap.size + 1, 2, none⟩ = some (.int .i64 x.attr) ∧ W'.cell? ⟨w.heap.size + 1, 3, none⟩ = some (.string x.text) ∧ W'.cell? ⟨w.heap.size + 1, 4, none⟩ = some (.slice ka x.kids.length kc) ∧ W'.cell? ⟨w.heap.size + 1 + 1, 2, none⟩ = some (.slice ta ru.terms.length tc)) := fun W' hbx => by
      have j1 := (hbx.block w.heap.size (by omega)).trans k1
      have j2 := (hbx.block (w.heap.size + 1) (by omega)).trans k2
      have j3 := (hbx.block (w.heap.size + 1 + 1) (by omega)).trans k3
      exact ⟨cell_of_heap j1 0, cell_of_heap j1 1, cell_of_heap j1 2, cell_of_heap j2 0, cell_of_heap j2 1, cell_of_heap j2 2, cell_of_heap j2 3, cell_of_heap j2 4, cell_of_heap j3 2⟩
    clear k1 k2 k3
    cases hlf : ru.leaf
    · have HCn1 := hide (HCn.out hlf)
      rw [hlf] at hW3
      clear HCn HCl
      have HKi1 : Hid (∀ wx, Below (w.heap.size + 1 + 1 + 1) W3 wx → Calls Tryd.prog 51 #[.agg #[.int .i64 rt, .int .i64 nx, .slice sa l.length sc], .agg #[.int .i64 x.id, .int .i64 x.kind, .int .i64 x.attr, .string x.text, .slice ka x.kids.length kc]] wx fun e w' => ∃ a q, e = .returned (.slice a x.kids.length q) ∧ Hid (IntsAt w'.heap.size w' (.slice a x.kids.length q) (kindsFor l x.kids) ∧ Roomy (.slice a x.kids.length q) (kindsFor l x.kids).length) ∧ Below (w.heap.size + 1 + 1 + 1) W3 w') := fun wx hbx =>
        (HKi.out wx (HOld.out wx hbx)).mono fun e w' ⟨v1, he, hr1, hb1⟩ => by
          obtain ⟨a1, q1, rfl⟩ := row_shape hr1
          rw [hkl] at he
          have h1 := ints_of_row hr1
          have h2 := row_roomy hr1
          rw [hkl] at h1 h2
          exact ⟨a1, q1, he, ⟨h1, by rw [hkl]; exact h2⟩, hbx.trans (hb1.mono (by have := hbx.size; omega))⟩
      have HM1 : Hid (∀ a q wx, Below (w.heap.size + 1 + 1 + 1) W3 wx → Hid (IntsAt wx.heap.size wx (.slice a x.kids.length q) (kindsFor l x.kids) ∧ Roomy (.slice a x.kids.length q) (kindsFor l x.kids).length) → Calls Tryd.prog 52 #[.slice ta ru.terms.length tc, .slice a x.kids.length q] wx fun e w' => e = .returned (.bool mb) ∧ Below (w.heap.size + 1 + 1 + 1) W3 w') := fun a q wx hbx hI =>
        (HM.out _ wx (HOld.out wx hbx) hI.out.1 hI.out.2).mono fun e w' ⟨he, hb'⟩ => ⟨he, hbx.trans (hb'.mono (by have := hbx.size; omega))⟩
      have hb0 : Below (w.heap.size + 1 + 1 + 1) W3 W3.drew := (Below.refl _ _).drew
      have hb00 : Below (w.heap.size + 1 + 1 + 1) W3 W3 := Below.refl _ _
      have hbx2 : b < w.heap.size + 1 + 1 := by omega
      rw [hm] at hW3 hb2
      have HKd := hide hm
      clear HM HKi hs3 h1 hm
      by_cases ht : x.text.size = 0
      · have hte : x.text = ByteArray.empty := empty_iff.2 ht
        have HCm : Hid (c = if mb = true then 0 else 12) := by rw [Hid, HC.out]; have := HCn1.out; simp only [ht, true_and] at this; rw [Bool.eq_iff_iff.2 this]
        have HE := hide hte
        rw [hte] at HS3 hW3 HKi1 hb2
        rw [HKd.out] at HS3 HKi1
        clear HCn1 ht hte HC
        rw [HKd.out, HE.out]
        go_enter Tryd.func38, Tryd.ntmps38
        go_wp2_with fail
        rw [← hW3]
        clear hW3
        go_region_held3 (fun W' => W'.cell? ⟨w.heap.size, 0, none⟩ = some (.int .i64 rt) ∧ W'.cell? ⟨w.heap.size, 1, none⟩ = some (.int .i64 nx) ∧ W'.cell? ⟨w.heap.size, 2, none⟩ = some (.slice sa l.length sc) ∧ W'.cell? ⟨w.heap.size + 1, 0, none⟩ = some (.int .i64 x.id) ∧ W'.cell? ⟨w.heap.size + 1, 1, none⟩ = some (.int .i64 ((m : Int) + 1)) ∧ W'.cell? ⟨w.heap.size + 1, 2, none⟩ = some (.int .i64 x.attr) ∧ W'.cell? ⟨w.heap.size + 1, 3, none⟩ = some (.string ByteArray.empty) ∧ W'.cell? ⟨w.heap.size + 1, 4, none⟩ = some (.slice ka x.kids.length kc) ∧ W'.cell? ⟨w.heap.size + 1 + 1, 2, none⟩ = some (.slice ta ru.terms.length tc)) (first | exact HS3.out _ (by assumption) | go_keep)
          (first
            | (go_at_call 51; refine (HKi1.out _ (by assumption)).mono ?_; rintro e w2 ⟨a2, q2, rfl, hI2, hb2⟩)
            | (go_at_call 52; refine (HM1.out _ _ _ (by assumption) (by assumption)).mono ?_; rintro e w3 ⟨rfl, hb3⟩))
        cases mb
        all_goals
          go_wp2_with fail
          go_ret
          obtain rfl := HCm.out
          exact ⟨rfl, HOld.out _ hb3⟩
      · have hte : ¬ x.text.toList = [] := fun h => ht (toList_nil.1 h)
        have hte6 : x.text.toList.isEmpty = false := by rw [List.isEmpty_eq_false_iff]; exact hte
        have HCf : Hid (c = 12) := by
          rw [Hid, HC.out, if_neg]
          rw [HCn1.out]; simp [ht]
        obtain ⟨d0, d1, d2, e0, e1, e2, e3, e4, f2⟩ := HS3.out W3 hb00
        have hz1 : w.heap.size + 1 < W3.heap.size := by rw [hW3]; simp
        clear HCn1 HM1 HKi1 HC HS3
        rw [HKd.out]
        go_enter Tryd.func38, Tryd.ntmps38
        go_wp2_with fail
        rw [← hW3]
        clear hW3
        have hcal := calm_cell W3
        refine wp_region_calm (by kernel_rfl) (by kernel_rfl) ?_
        repeat (go_big_quiet_step (fail))
        refine wpQuiet_nil ?_
        rintro _ ⟨t, rfl⟩
        go_wp2_with fail
        go_ret
        obtain rfl : c = 12 := HCf.out
        exact ⟨rfl, hb3.trans (t.below.mono hb3.size)⟩
    · have HCl1 := hide (HCl.out hlf)
      have hb3' := hb3
      rw [hW3, hlf] at hb3'
      rw [hm] at hb3'
      clear HCn HCl HM HKi HS3 HOld hW3 hb3 hs3 hb2
      by_cases h0 : 0 < x.kids.length
      · have HCf : Hid (c = 12) := by
          rw [Hid, HC.out, HCl1.out, if_neg]
          rw [decide_eq_true_eq, hkl]; omega
        rw [hm]
        clear HC HCl1
        go_enter Tryd.func38, Tryd.ntmps38
        go_wp2_with fail
        go_ret
        obtain rfl : c = 12 := HCf.out
        exact ⟨rfl, hb3'⟩
      · have h00 : x.kids.length = 0 := by omega
        have HCf : Hid (c = 0) := by
          rw [Hid, HC.out, HCl1.out, if_pos]
          rw [decide_eq_true_eq, hkl]; omega
        rw [hm]
        rw [h00] at hb3' ⊢
        clear HC HCl1 h0 h00 h12 hkl
        go_enter Tryd.func38, Tryd.ntmps38
        go_wp2_with fail
        go_ret
        obtain rfl : c = 0 := HCf.out
        exact ⟨rfl, hb3'⟩

set_option maxHeartbeats 4000000 in
set_option maxRecDepth 100000 in
theorem specCheckNode_any (n₀ : Nat) (v : Value) (R : List PRule) (d : PDoc) (s : Value) (id : Int) (w : World) (hV : RulesAt n₀ w v R) (hRo : RulesRoom n₀ w v R) (hR : SmallRules R) (hN : NodesAt n₀ w s d.nodes) (hn : n₀ ≤ w.heap.size) (hl : d.nodes.length ≤ 1048576) (hkl : ∀ x ∈ d.nodes, x.kids.length ≤ 1048576) (c : Int) (hc : c = nodeAns R d id) :
    Calls Tryd.prog 10 #[v, .agg #[.int .i64 d.root, .int .i64 d.next, s], .int .i64 id] w fun e w' => e = .returned (.int .i64 c) ∧ Below w.heap.size w w' := by
  obtain ⟨W1, hW1e⟩ : ∃ W1, W1 = w.alloc (.cells #[.int .i64 d.root, .int .i64 d.next, s] 33) := ⟨_, rfl⟩
  have hW : Below w.heap.size w W1 := by rw [hW1e]; exact (Below.refl w.heap.size w).alloc (Nat.le_refl _) _
  have hs1 : W1.heap.size = w.heap.size + 1 := by rw [hW1e]; simp
  have hh1 : W1.heap[w.heap.size]? = some (.cells #[.int .i64 d.root, .int .i64 d.next, s] 33 (0, 0)) := by rw [hW1e]; exact alloc_new w _
  have HOld : Hid (∀ W', Below (w.heap.size + 1) W1 W' → Below w.heap.size w W') := fun W' hb => hW.trans (hb.mono (by omega))
  obtain ⟨r, hr⟩ : ∃ r : Bool, r = true ↔ SchemaP R := ⟨dec _, dec_iff _⟩
  have HSch := hide (specSchOK_any n₀ v R W1 (hV.below (Nat.le_refl _) (hW.mono hn)) (by omega) hR r hr)
  rw [hs1] at HSch
  obtain ⟨a0, ha0⟩ : ∃ a0, a0 = askOf d id := ⟨_, rfl⟩
  have HAsk : Hid (∀ wx, Below (w.heap.size + 1) W1 wx → Calls Tryd.prog 37 #[.agg #[.int .i64 d.root, .int .i64 d.next, s], .int .i64 id] wx fun e w' => e = .returned (.int .i64 a0) ∧ Below (w.heap.size + 1) W1 w') := fun wx hb =>
    (specAsk_any n₀ d s id wx (hN.below (Nat.le_refl _) ((HOld.out wx hb).mono hn)) (by have := (HOld.out wx hb).size; omega) hl hkl a0 ha0).mono fun e w' ⟨he, hb'⟩ => ⟨he, hb.trans (hb'.mono (by have := hb.size; omega))⟩
  have HV := hide hV
  have HRo := hide hRo
  have HR := hide hR
  have HN := hide hN
  have HC := hide hc
  have HA0 := hide ha0
  have HRr := hide hr
  have hlen := hR.len
  obtain ⟨sa, sc, rfl, hk'⟩ := hN
  obtain ⟨ra, rc, rfl, -⟩ := hV
  clear hc hR hRo ha0 hr hkl
  by_cases hlo : 4096 < R.length
  · have HX : Hid (c = 2) := by
      have h2 := schAsk_long hlo
      rw [Hid, HC.out, nodeAns_no (by rw [underOf_sch (by rw [h2]; decide), h2]; decide), underOf_sch (by rw [h2]; decide), h2]
    rw [hW1e] at hW
    clear HC HA0 HRr HAsk HSch HOld hk' hh1 hW1e hs1
    go_enter Tryd.func10, Tryd.ntmps10
    go_wp2_with fail
    go_ret
    obtain rfl : c = 2 := HX.out
    exact ⟨rfl, hW⟩
  cases r with
  | false =>
    have HX : Hid (c = 1) := by
      have h2 := schAsk_bad hlo (fun h => by have := HRr.out.2 h; cases this)
      rw [Hid, HC.out, nodeAns_no (by rw [underOf_sch (by rw [h2]; decide), h2]; decide), underOf_sch (by rw [h2]; decide), h2]
    clear HC HA0 HRr HAsk hk' hh1
    go_enter Tryd.func10, Tryd.ntmps10
    go_wp2_with fail
    rw [← hW1e]
    clear hW1e
    refine HSch.out.mono ?_
    rintro e w1 ⟨rfl, hb1⟩
    go_wp2_with fail
    go_ret
    obtain rfl : c = 1 := HX.out
    exact ⟨rfl, HOld.out _ hb1⟩
  | true =>
    have HP := hide (HRr.out.1 rfl)
    have HU : Hid (underOf R d id = a0) := by rw [Hid, underOf_doc (schAsk_ok HP.out)]; exact HA0.out.symm
    by_cases h0 : a0 = 0
    · have ha := HA0.out.symm.trans h0
      obtain ⟨G, hin⟩ := askOf_zero ha
      obtain ⟨p, hp, hpl, hpn, hpm⟩ := place_node G.rise hin
      obtain ⟨b, off, rfl, hb, hcc⟩ := hk'.resolve_left (by intro e; simp [e] at hpl)
      have hAt := hcc p hpl
      have n0 := hAt.c0
      have n1 := hAt.c1
      have n2 := hAt.c2
      have n3 := hAt.c3
      obtain ⟨kv, n4, hI⟩ := hAt.c4
      have hfine := G.fine _ hpm
      have HX : Hid (c = checkOf R d.nodes (d.nodes[p]?.getD nodeNil)) := by rw [Hid, HC.out, nodeAns_ok (HU.out.trans h0), hpn]
      have HNd : Hid (∀ wx, Below (w.heap.size + 1) W1 wx → Calls Tryd.prog 38 #[.slice ra R.length rc, .agg #[.int .i64 d.root, .int .i64 d.next, .slice (some ⟨b, off, none⟩) d.nodes.length sc], .agg #[.int .i64 (d.nodes[p]?.getD nodeNil).id, .int .i64 (d.nodes[p]?.getD nodeNil).kind, .int .i64 (d.nodes[p]?.getD nodeNil).attr, .string (d.nodes[p]?.getD nodeNil).text, kv]] wx fun e w' => e = .returned (.int .i64 c) ∧ Below (w.heap.size + 1) W1 w') := fun wx hbx => by
        have ho := HOld.out wx hbx
        exact (specNodeOK_any d.nodes n₀ d.root d.next _ R _ _ kv wx G.rise (fun k hk => G.there k (List.mem_flatMap.2 ⟨_, hpm, hk⟩)) hfine.2.2.2.2.2.2.2 hfine.2.2.1 (HV.out.below (Nat.le_refl _) (ho.mono hn)) (HRo.out.below HV.out (ho.mono hn)) (by have := ho.size; omega) HP.out HR.out (HN.out.below (Nat.le_refl _) (ho.mono hn)) (hI.below (Nat.le_refl _) (ho.mono hn)) hl c HX.out).mono fun e w' ⟨he, hb'⟩ => ⟨he, hbx.trans (hb'.mono (by have := hbx.size; omega))⟩
      have HAt : Hid (∀ wx, Below (w.heap.size + 1) W1 wx → Calls Tryd.prog 39 #[.agg #[.int .i64 d.root, .int .i64 d.next, .slice (some ⟨b, off, none⟩) d.nodes.length sc], .int .i64 id] wx fun e w' => e = .returned (.int .i64 (p : Int)) ∧ Below (w.heap.size + 1) W1 w') := fun wx hbx => by
        have ho := HOld.out wx hbx
        have := specAt_any n₀ d.root d.next _ d.nodes id wx (HN.out.below (Nat.le_refl _) (ho.mono hn)) (by have := ho.size; omega) hl
        rw [hp] at this
        exact this.mono fun e w' ⟨he, hb'⟩ => ⟨he, hbx.trans (hb'.mono (by have := hbx.size; omega))⟩
      have hbw : b < w.heap.size := by omega
      have HS : Hid (∀ W', Below (w.heap.size + 1) W1 W' → W'.cell? ⟨w.heap.size, 0, none⟩ = some (.int .i64 d.root) ∧ W'.cell? ⟨w.heap.size, 1, none⟩ = some (.int .i64 d.next) ∧ W'.cell? ⟨w.heap.size, 2, none⟩ = some (.slice (some ⟨b, off, none⟩) d.nodes.length sc) ∧ W'.cell? ⟨b, off + p * 5, none⟩ = some (.int .i64 (d.nodes[p]?.getD nodeNil).id) ∧ W'.cell? ⟨b, off + p * 5 + 1, none⟩ = some (.int .i64 (d.nodes[p]?.getD nodeNil).kind) ∧ W'.cell? ⟨b, off + p * 5 + 2, none⟩ = some (.int .i64 (d.nodes[p]?.getD nodeNil).attr) ∧ W'.cell? ⟨b, off + p * 5 + 3, none⟩ = some (.string (d.nodes[p]?.getD nodeNil).text) ∧ W'.cell? ⟨b, off + p * 5 + 4, none⟩ = some kv) := fun W' hbx => by
        have j1 := (hbx.block w.heap.size (by omega)).trans hh1
        have ho := HOld.out W' hbx
        exact ⟨cell_of_heap j1 0, cell_of_heap j1 1, cell_of_heap j1 2, (ho.cell (p := ⟨b, off + p * 5, none⟩) hbw).trans n0, (ho.cell (p := ⟨b, off + p * 5 + 1, none⟩) hbw).trans n1, (ho.cell (p := ⟨b, off + p * 5 + 2, none⟩) hbw).trans n2, (ho.cell (p := ⟨b, off + p * 5 + 3, none⟩) hbw).trans n3, (ho.cell (p := ⟨b, off + p * 5 + 4, none⟩) hbw).trans n4⟩
      obtain ⟨akk, ckk, rfl, -⟩ := hI
      have h00 : (a0 != 0) = false := by simp [h0]
      have hpl1 : (p : Int) < (d.nodes.length : Int) := by omega
      clear h0 ha G hin hp hpn hpm hk' hcc hAt hfine HC HU HA0 HRr HX n0 n1 n2 n3 n4 hh1 HN HV HRo HR HP
      generalize d.nodes[p]?.getD nodeNil = x at *
      go_enter Tryd.func10, Tryd.ntmps10
      go_wp2_with fail
      rw [← hW1e]
      clear hW1e
      refine HSch.out.mono ?_
      rintro e w1 ⟨rfl, hb1⟩
      obtain ⟨x0, x1, x2, -⟩ := HS.out w1 hb1
      have hz1 : w.heap.size < w1.heap.size := by have := hb1.size; omega
      go_wp2_with fail
      refine (HAsk.out w1 hb1).mono ?_
      rintro e w2 ⟨rfl, hb2⟩
      have hb2d := hb2.drew
      clear HAsk HSch x0 x1 x2
      go_wp2_with fail
      go_region_held3 (fun W' => W'.cell? ⟨w.heap.size, 0, none⟩ = some (.int .i64 d.root) ∧ W'.cell? ⟨w.heap.size, 1, none⟩ = some (.int .i64 d.next) ∧ W'.cell? ⟨w.heap.size, 2, none⟩ = some (.slice (some ⟨b, off, none⟩) d.nodes.length sc) ∧ W'.cell? ⟨b, off + p * 5, none⟩ = some (.int .i64 x.id) ∧ W'.cell? ⟨b, off + p * 5 + 1, none⟩ = some (.int .i64 x.kind) ∧ W'.cell? ⟨b, off + p * 5 + 2, none⟩ = some (.int .i64 x.attr) ∧ W'.cell? ⟨b, off + p * 5 + 3, none⟩ = some (.string x.text) ∧ W'.cell? ⟨b, off + p * 5 + 4, none⟩ = some (.slice akk x.kids.length ckk)) (first | exact HS.out _ (by assumption) | go_keep)
        (first
          | (go_at_call 39; refine (HAt.out _ (by assumption)).mono ?_; rintro e w3 ⟨rfl, hb3⟩)
          | (go_at_call 38; refine (HNd.out _ (by assumption)).mono ?_; rintro e w4 ⟨rfl, hb4⟩))
      go_wp2_with fail
      go_ret
      exact ⟨rfl, HOld.out _ hb4⟩
    · have HX : Hid (c = a0) := by rw [Hid, HC.out, nodeAns_no (by rw [HU.out]; exact h0), HU.out]
      have h00 : (a0 != 0) = true := by simp [h0]
      have HS : Hid (∀ W', Below (w.heap.size + 1) W1 W' → W'.cell? ⟨w.heap.size, 0, none⟩ = some (.int .i64 d.root) ∧ W'.cell? ⟨w.heap.size, 1, none⟩ = some (.int .i64 d.next) ∧ W'.cell? ⟨w.heap.size, 2, none⟩ = some (.slice sa d.nodes.length sc)) := fun W' hbx => by
        have j1 := (hbx.block w.heap.size (by omega)).trans hh1
        exact ⟨cell_of_heap j1 0, cell_of_heap j1 1, cell_of_heap j1 2⟩
      clear h0 HC HU HA0 HRr hk' hh1
      go_enter Tryd.func10, Tryd.ntmps10
      go_wp2_with fail
      rw [← hW1e]
      clear hW1e
      refine HSch.out.mono ?_
      rintro e w1 ⟨rfl, hb1⟩
      obtain ⟨x0, x1, x2⟩ := HS.out w1 hb1
      have hz1 : w.heap.size < w1.heap.size := by have := hb1.size; omega
      go_wp2_with fail
      refine (HAsk.out w1 hb1).mono ?_
      rintro e w2 ⟨rfl, hb2⟩
      go_wp2_with fail
      go_ret
      obtain rfl : c = a0 := HX.out
      exact ⟨rfl, HOld.out _ hb2⟩
end Go.Proofs.YtmcopoonnhcdjaaDoor

namespace Go.Proofs.YtmcopoonnhcdjaaDoor
open Go.RowKit Go.Shelf

attribute [local go_sem] Oper.semAt_some

theorem KeepsOthers.of_below {W W' : World} (h : Below W.heap.size W W') : KeepsOthers W W' := ⟨h.size, fun k _ hk _ => (h.block k (Array.getElem?_eq_some_iff.1 hk).1).trans hk⟩

/-- The first of some nodes that may not be so, and why; 0, 0 of none. -/
noncomputable def firstBad (R : List PRule) (l : List PNode) : List Int → Int × Int
  | [] => (0, 0)
  | y :: ys => if checkOf R l (nodeOf l y) = 0 then firstBad R l ys else (y, checkOf R l (nodeOf l y))

theorem firstBad_ok {R : List PRule} {l : List PNode} : ∀ {ys : List Int}, (∀ y ∈ ys, checkOf R l (nodeOf l y) = 0) → ∀ zs, firstBad R l (ys ++ zs) = firstBad R l zs
  | [], _, _ => rfl
  | y :: ys, h, zs => by
    rw [List.cons_append, firstBad, if_pos (h y (by first | simp | (simp; omega)))]
    exact firstBad_ok (fun y hy => h y (by simp [hy])) zs

theorem firstBad_bad {R : List PRule} {l : List PNode} {y : Int} {zs : List Int} (h : checkOf R l (nodeOf l y) ≠ 0) : firstBad R l (y :: zs) = (y, checkOf R l (nodeOf l y)) := by rw [firstBad, if_neg h]

noncomputable def docAns (R : List PRule) (d : PDoc) : Int × Int := by
  classical exact if schAsk R = 0 then if Good d then firstBad R d.nodes (order d.nodes d.nodes.length d.root) else (0, 1) else (0, schAsk R)
theorem docAns_sch {R : List PRule} {d : PDoc} (h : schAsk R ≠ 0) : docAns R d = (0, schAsk R) := by unfold docAns; rw [if_neg h]
theorem docAns_bad {R : List PRule} {d : PDoc} (h : schAsk R = 0) (h1 : ¬ Good d) : docAns R d = (0, 1) := by unfold docAns; rw [if_pos h, if_neg h1]
theorem docAns_ok {R : List PRule} {d : PDoc} (h : schAsk R = 0) (h1 : Good d) : docAns R d = firstBad R d.nodes (order d.nodes d.nodes.length d.root) := by unfold docAns; rw [if_pos h, if_pos h1]

set_option maxRecDepth 100000 in
set_option maxHeartbeats 4000000 in
theorem implCheckDoc_any (n₀ : Nat) (v : Value) (R : List PRule) (d : PDoc) (s : Value) (w : World) (hV : RulesAt n₀ w v R) (hroom : Roomy v R.length) (hR : SmallRules R) (hN : NodesAt n₀ w s d.nodes) (hn : n₀ ≤ w.heap.size) (hl : d.nodes.length ≤ 1048576) (hwf : WfDoc d) (hA : AmtAt w) (p : Int × Int) (hp : p = docAns R d) :
    Calls Tryd.prog 17 #[v, .agg #[.int .i64 d.root, .int .i64 d.next, s]] w fun e w' => e = .returned (.tuple #[.int .i64 p.1, .int .i64 p.2]) ∧ Below w.heap.size w w' := by
  obtain ⟨sa, sc, rfl, -⟩ := id hN
  obtain ⟨ra, rc, rfl, -⟩ := id hV
  obtain ⟨W0, hW0⟩ : ∃ W0, W0 = (((w.alloc (.cells #[.slice ra R.length rc] 29)).alloc (.cells #[.int .i64 d.root, .int .i64 d.next, .slice sa d.nodes.length sc] 33)).alloc (.cells #[.int .i64 0] 3)).alloc (.cells #[.int .i64 0] 3) := ⟨_, rfl⟩
  have hs0 : W0.heap.size = w.heap.size + 1 + 1 + 1 + 1 := by rw [hW0]; simp
  have hw0 : Below w.heap.size w W0 := by rw [hW0]; exact ((((Below.refl _ _).alloc (Nat.le_refl _) _).alloc (by first | simp | (simp; omega)) _).alloc (by first | (simp; omega) | simp) _).alloc (by first | (simp; omega) | simp) _
  have hb0 : W0.heap[w.heap.size]? = some (.cells #[.slice ra R.length rc] 29 (0, 0)) := by
    rw [hW0, Below.heap_alloc _ _ _ (by first | (simp; omega) | simp), Below.heap_alloc _ _ _ (by first | (simp; omega) | simp), Below.heap_alloc _ _ _ (by first | simp | (simp; omega))]; exact alloc_new w _
  have hb1 : W0.heap[w.heap.size + 1]? = some (.cells #[.int .i64 d.root, .int .i64 d.next, .slice sa d.nodes.length sc] 33 (0, 0)) := by
    rw [hW0, Below.heap_alloc _ _ _ (by first | (simp; omega) | simp), Below.heap_alloc _ _ _ (by first | simp | (simp; omega))]
    have := alloc_new (w.alloc (.cells #[.slice ra R.length rc] 29)) (.cells #[.int .i64 d.root, .int .i64 d.next, .slice sa d.nodes.length sc] 33)
    simpa using this
  have hb2 : W0.heap[w.heap.size + 1 + 1]? = some (.cells #[.int .i64 0] 3 (0, 0)) := by
    rw [hW0, Below.heap_alloc _ _ _ (by first | simp | (simp; omega))]
    have := alloc_new ((w.alloc (.cells #[.slice ra R.length rc] 29)).alloc (.cells #[.int .i64 d.root, .int .i64 d.next, .slice sa d.nodes.length sc] 33)) (.cells #[.int .i64 0] 3)
    simpa using this
  have hb3 : W0.heap[w.heap.size + 1 + 1 + 1]? = some (.cells #[.int .i64 0] 3 (0, 0)) := by
    rw [hW0]
    have := alloc_new (((w.alloc (.cells #[.slice ra R.length rc] 29)).alloc (.cells #[.int .i64 d.root, .int .i64 d.next, .slice sa d.nodes.length sc] 33)).alloc (.cells #[.int .i64 0] 3)) (.cells #[.int .i64 0] 3)
    simpa using this
  have HOld : Hid (∀ wx, Below (w.heap.size + 1 + 1 + 1 + 1) W0 wx → Below w.heap.size w wx ∧ w.heap.size + 1 + 1 + 1 + 1 ≤ wx.heap.size) := fun wx hb => ⟨hw0.trans (hb.mono (by omega)), by have := hb.size; omega⟩
  have HB : Hid (∀ wx, Below (w.heap.size + 1 + 1 + 1 + 1) W0 wx → wx.cell? ⟨w.heap.size, 0, none⟩ = some (.slice ra R.length rc) ∧ (wx.cell? ⟨w.heap.size + 1, 0, none⟩ = some (.int .i64 d.root) ∧ wx.cell? ⟨w.heap.size + 1, 1, none⟩ = some (.int .i64 d.next) ∧ wx.cell? ⟨w.heap.size + 1, 2, none⟩ = some (.slice sa d.nodes.length sc)) ∧ (wx.cell? ⟨w.heap.size + 1 + 1, 0, none⟩ = some (.int .i64 0) ∧ wx.frozen? ⟨w.heap.size + 1 + 1, 0, none⟩ = false) ∧ (wx.cell? ⟨w.heap.size + 1 + 1 + 1, 0, none⟩ = some (.int .i64 0) ∧ wx.frozen? ⟨w.heap.size + 1 + 1 + 1, 0, none⟩ = false)) := fun wx hb => by
    have j0 := (hb.block w.heap.size (by omega)).trans hb0
    have j1 := (hb.block (w.heap.size + 1) (by omega)).trans hb1
    have j2 := (hb.block (w.heap.size + 1 + 1) (by omega)).trans hb2
    have j3 := (hb.block (w.heap.size + 1 + 1 + 1) (by omega)).trans hb3
    exact ⟨cell_of_heap j0 0, ⟨cell_of_heap j1 0, cell_of_heap j1 1, cell_of_heap j1 2⟩, ⟨cell_of_heap j2 0, frozen_of_heap j2 0⟩, ⟨cell_of_heap j3 0, frozen_of_heap j3 0⟩⟩
  obtain ⟨c, hc⟩ : ∃ c, c = schAsk R := ⟨_, rfl⟩
  have HS := hide (askSchema_any n₀ _ R W0 (hV.below (Nat.le_refl _) (hw0.mono hn)) hroom (by omega) hR c hc)
  rw [hs0] at HS
  have HT : Hid (∀ wx, Below (w.heap.size + 1 + 1 + 1 + 1) W0 wx → Calls Tryd.prog 49 #[.agg #[.int .i64 d.root, .int .i64 d.next, .slice sa d.nodes.length sc]] wx (TreePost wx d)) := fun wx hb =>
    treeOf_any n₀ d _ wx (hN.below (Nat.le_refl _) ((HOld.out wx hb).1.mono hn)) (by have := (HOld.out wx hb).2; omega) hl hwf
  have hdd : ∀ k : Nat, (Fence.wide.depth.isSome = true → 1 ≤ k) := fun k h => by simp [Fence.wide] at h
  have HP := hide hp
  have HCc := hide hc
  have HRs := hide hR
  have HV := hide hV
  have HAm := hide hA
  clear hp hc hR hwf hA hb0 hb1 hb2 hb3 hN hV
  refine (callsIn_wide (n := 3)).1 ?_
  refine callsIn_of_wp_marks Tryd.func17 rfl trivial ?_ wideRound
  simp only [Tryd.ntmps17, List.size_toArray, List.length_cons, List.length_nil, Nat.reduceAdd, Nat.reduceSub, Array.replicate_succ, Array.replicate_zero, List.push_toArray, List.append_toArray, List.nil_append, List.cons_append]
  by_cases h0 : c = 0
  · subst h0
    have HZ : Hid (schAsk R = 0) := HCc.out.symm
    gi_wp2_with fail
    rw [← hW0]
    clear hW0
    refine ⟨trivial, (callsIn_wide.2 HS.out).mono ?_⟩
    rintro e w1 ⟨rfl, hb1⟩
    obtain ⟨x0, ⟨x1, x2, x3⟩, ⟨x4, x5⟩, ⟨x6, x7⟩⟩ := HB.out _ hb1
    have hz1 := (HOld.out _ hb1).2
    gi_wp2_with fail
    refine ⟨trivial, (callsIn_wide.2 (HT.out _ hb1)).mono ?_⟩
    rintro e w2 (⟨tb, ad, up, kv, rfl, hg, hgr, htb, hc2⟩ | ⟨rfl, hno, hc2⟩)
    · have hb2 := hb1.trans (hc2.mono hz1)
      have hz2 := (HOld.out _ hb2).2
      have htop : w2.cell? ⟨tb, 0, none⟩ = some (.pointer (some ⟨ad d.root, 0, none⟩)) := by simpa using cell_of_heap hgr.top 0
      have htb2 : tb < w2.heap.size := (Array.getElem?_eq_some_iff.1 hgr.top).1
      have HG := hide hg
      have F := hg.toFlat
      have hT2 := hgr.tree hg
      have HSP := hide (schAsk_zero HZ.out)
      clear x0 x1 x2 x3 x4 x5 x6 x7 HS HT hgr hg
      gi_wp2_with (refine ⟨trivial, ?_⟩; gi_at_call 50; refine (inOrder_in _ _ _).mono ?_; rintro e w' ⟨rfl, rfl⟩)
      have c0 := new_cell w2 (.pointer (some ⟨ad d.root, 0, none⟩)) 75
      have hB0 : Below w2.heap.size w2 (w2.alloc (.cells #[.pointer (some ⟨ad d.root, 0, none⟩)] 75)) := (Below.refl _ _).alloc (Nat.le_refl _) _
      refine wpIn_rangeFunc_ownF (α := IdOf d.nodes) wideRound (by omega) (gf := 80) (lb := #[.pointer (some ⟨w2.heap.size, 0, none⟩)]) rfl trivial (enters_of Tryd.func80 (by kernel_rfl) rfl)
        (inOrder_stops d.nodes ad up F.walkable _ w2.heap.size w2.heap.size d.nodes.length d.root F.rootIn F.low _ (by simp) (by simp) c0.1 (hT2.below (Nat.le_refl _) hB0)) belowK_t (belowK_b (by simp)) (Below.refl _ _) (fun _ => rfl)
        (fun pre W => (∀ y ∈ vals pre, checkOf R d.nodes (nodeOf d.nodes y) = 0) ∧ Below w2.heap.size w2 W)
        (fun c pre W => (c = .ret ∧ ∃ (q : List Int) (y k : Int), vals pre = q ++ [y] ∧ (∀ z ∈ q, checkOf R d.nodes (nodeOf d.nodes z) = 0) ∧ k ≠ 0 ∧ k = checkOf R d.nodes (nodeOf d.nodes y) ∧ W.cell? ⟨w.heap.size + 1 + 1, 0, none⟩ = some (.int .i64 y) ∧ W.cell? ⟨w.heap.size + 1 + 1 + 1, 0, none⟩ = some (.int .i64 k)) ∧ Below w.heap.size w W)
        (OwnFrom.and (Own.from (fun s A B row hs hg hr => hs) _) (ownFrom_below (Nat.le_refl _) (by simp)))
        (fun c => OwnFrom.and (Own.from (fun s A B row hs hg hr => by obtain ⟨h1, q, y, k, h2, h3, h4, h5, h6, h7⟩ := hs; exact ⟨h1, q, y, k, h2, h3, h4, h5, cell_kept h6 hg hr, cell_kept h7 hg hr⟩) _) (ownFrom_below (Nat.le_refl _) (by first | simp; omega | simp)))
        ⟨by simp [vals], hB0⟩
        (fun x => { tmps := #[.slice ra R.length rc, .agg #[.int .i64 d.root, .int .i64 d.next, .slice sa d.nodes.length sc], .pointer (some ⟨w.heap.size, 0, none⟩), .pointer (some ⟨w.heap.size + 1, 0, none⟩), .pointer (some ⟨w.heap.size + 1 + 1, 0, none⟩), .pointer (some ⟨w.heap.size + 1 + 1 + 1, 0, none⟩), .int .i64 0, .pointer (some ⟨tb, 0, none⟩), .bool true, .pointer (some ⟨ad x.1, 0, none⟩), undef, .slice ra R.length rc, .int .i64 0, .int .i64 0, .bool false, undef, .tuple #[.pointer (some ⟨tb, 0, none⟩), .bool true], .agg #[.int .i64 d.root, .int .i64 d.next, .slice sa d.nodes.length sc], .tuple #[.pointer (some ⟨tb, 0, none⟩), .bool true], .pointer (some ⟨tb, 0, none⟩), .bool true, .bool true, .bool false, .pointer (some ⟨tb, 0, none⟩), .pointer (some ⟨tb, 0, none⟩), .pointer (some ⟨tb, 0, none⟩), .pointer (some ⟨ad d.root, 0, none⟩), .func (.func 80) #[] #[.pointer (some ⟨w2.heap.size, 0, none⟩)], .pointer (some ⟨ad x.1, 0, none⟩), undef, undef, undef, undef, undef, undef, undef, undef, undef, undef], defers := [] }) ?assign ?body ?done ?stop
      case assign =>
        intro lr x W K hK
        gi_wp2
        simpa using hK
      case body =>
        rintro lr pre x W ⟨hok, hB⟩ _
        obtain ⟨y, hy, hyx⟩ := node_of x.2
        have hzW := hB.size
        have hBW := hb2.trans (hB.mono hz2)
        have hTW := hT2.below hzW hB
        have hBy := hTW y hy
        have hfine := F.fine y hy
        have hlt := hBy.lt
        have i0 := hBy.c0
        obtain ⟨k, hk⟩ : ∃ k, k = checkOf R d.nodes y := ⟨_, rfl⟩
        have HCk := hide (check_any d.nodes ad up y hy n₀ R _ W F.rise (fun k hk => F.there k (List.mem_flatMap.2 ⟨y, hy, hk⟩)) hTW hfine.2.2.2.2.2.2.2 hfine.2.2.1 (HV.out.below (Nat.le_refl _) ((HOld.out _ hBW).1.mono hn)) (by have := (HOld.out _ hBW).2; omega) HSP.out HRs.out (HAm.out.below (HOld.out _ hBW).1) k hk)
        have HKn : Hid (k = checkOf R d.nodes (nodeOf d.nodes y.id)) := by rw [Hid, nodeOf_of F.rise hy]; exact hk
        obtain ⟨x0, -, ⟨x4, x5⟩, ⟨x6, x7⟩⟩ := HB.out _ hBW
        have hzw := (HOld.out _ hBW).2
        have HOk := hide hok
        have HBW := hide (HOld.out _ hBW).1
        obtain ⟨xi, hxi⟩ := x
        obtain rfl : y.id = xi := hyx
        clear hk hok hTW hBy hfine hT2 F
        by_cases hkz : k = 0
        · have HK0 := hide hkz
          subst hkz
          gi_wp2_with fail
          refine ⟨trivial, (callsIn_wide.2 HCk.out).mono ?_⟩
          rintro e W1 ⟨rfl, hc1⟩
          gi_wp2_with fail
          exact ⟨KeepsOthers.of_below hc1, hc1.mono hzW, ⟨fun z hz => by
            rw [vals_append] at hz
            exact (List.mem_append.1 hz).elim (HOk.out z) (fun e => by simp [vals] at e; rw [e]; exact HKn.out.symm), hB.trans (hc1.mono hzW)⟩⟩
        · have hkn : (k != 0) = true := by simp [hkz]
          have HK0 := hide hkz
          clear hkz
          gi_wp2_with fail
          refine ⟨trivial, (callsIn_wide.2 HCk.out).mono ?_⟩
          rintro e W1 ⟨rfl, hc1⟩
          have hz1' := hc1.size
          have y0 := (hc1.cell (p := ⟨ad y.id, 0, none⟩) hlt).trans i0
          have y4 := (hc1.cell (p := ⟨w.heap.size + 1 + 1, 0, none⟩) (show w.heap.size + 1 + 1 < _ by omega)).trans x4
          have y5 := (hc1.frozen (p := ⟨w.heap.size + 1 + 1, 0, none⟩) (show w.heap.size + 1 + 1 < _ by omega)).trans x5
          have y6 := (hc1.cell (p := ⟨w.heap.size + 1 + 1 + 1, 0, none⟩) (show w.heap.size + 1 + 1 + 1 < _ by omega)).trans x6
          have y7 := (hc1.frozen (p := ⟨w.heap.size + 1 + 1 + 1, 0, none⟩) (show w.heap.size + 1 + 1 + 1 < _ by omega)).trans x7
          gi_wp2_with fail
          have HB2 := HBW.out.trans (hc1.mono (by omega))
          refine ⟨(KeepsOthers.of_below hc1).trans ((KeepsOthers.setCell _ _ _).trans (KeepsOthers.setCell _ _ _)), ⟨rfl, vals pre, y.id, k, by rw [vals_append]; rfl, HOk.out, HK0.out, HKn.out, ?_, ?_⟩, (HB2.setCell (p := ⟨w.heap.size + 1 + 1, 0, none⟩) (by first | (simp; done) | (simp; omega)) _).setCell (p := ⟨w.heap.size + 1 + 1 + 1, 0, none⟩) (by first | (simp; done) | (simp; omega)) _⟩
          · rw [World.cell?_setCell_other _ _ _ _ (by simp)]
            exact World.cell?_setCell_same' W1 ⟨w.heap.size + 1 + 1, 0, none⟩ _ (by rw [y4]; rfl)
          · exact World.cell?_setCell_same' _ ⟨w.heap.size + 1 + 1 + 1, 0, none⟩ _ (by rw [World.cell?_setCell_other _ _ _ _ (by simp), y6]; rfl)
      case done =>
        rintro D ys W hD hys ⟨hok, hB⟩ hK
        have hBW := hb2.trans (hB.mono hz2)
        obtain ⟨x0, -, ⟨x4, x5⟩, ⟨x6, x7⟩⟩ := HB.out _ hBW
        have HOk := hide hok
        have HBW := hide (HOld.out _ hBW).1
        clear hok hT2 F
        gi_wp2
        have hK' := (KeepsOthers.setCell (W.setCell ⟨w.heap.size + 1 + 1, 0, none⟩ (.int .i64 0)) ⟨w.heap.size + 1 + 1 + 1, 0, none⟩ (.int .i64 0)).same D _ ((KeepsOthers.setCell W ⟨w.heap.size + 1 + 1, 0, none⟩ (.int .i64 0)).same D _ hK rfl) rfl
        refine ⟨by simp, .inl ⟨_, _, rfl, run_takeDeferred hK', ?_⟩⟩
        have e4 : ((W.setCell ⟨w.heap.size + 1 + 1, 0, none⟩ (.int .i64 0)).setCell ⟨w.heap.size + 1 + 1 + 1, 0, none⟩ (.int .i64 0)).cell? ⟨w.heap.size + 1 + 1, 0, none⟩ = some (.int .i64 0) := by
          rw [World.cell?_setCell_other _ _ _ _ (by simp)]
          exact World.cell?_setCell_same' W ⟨w.heap.size + 1 + 1, 0, none⟩ _ (by rw [x4]; rfl)
        have e6 : ((W.setCell ⟨w.heap.size + 1 + 1, 0, none⟩ (.int .i64 0)).setCell ⟨w.heap.size + 1 + 1 + 1, 0, none⟩ (.int .i64 0)).cell? ⟨w.heap.size + 1 + 1 + 1, 0, none⟩ = some (.int .i64 0) := World.cell?_setCell_same' _ ⟨w.heap.size + 1 + 1 + 1, 0, none⟩ _ (by rw [World.cell?_setCell_other _ _ _ _ (by simp), x6]; rfl)
        have f4 := cell_kept e4 (grownBy_putObj' _ D (.deferred none)) (fun r e => by cases e; exact ⟨_, hK', rfl⟩)
        have f6 := cell_kept e6 (grownBy_putObj' _ D (.deferred none)) (fun r e => by cases e; exact ⟨_, hK', rfl⟩)
        have HX : Hid (p = (0, 0)) := by
          rw [Hid, HP.out, docAns_ok HZ.out HG.out, ← hys]
          have := firstBad_ok HOk.out []
          rwa [List.append_nil] at this
        obtain rfl := HX.out
        refine ⟨.tuple #[.int .i64 0, .int .i64 0], ?_, rfl, ((HBW.out.setCell (p := ⟨w.heap.size + 1 + 1, 0, none⟩) (by first | (simp; done) | (simp; omega)) _).setCell (p := ⟨w.heap.size + 1 + 1 + 1, 0, none⟩) (by first | (simp; done) | (simp; omega)) _).trans (belowK_b (w := w) (Nat.le_refl _) _ D _ _ (by simp at hD; omega) hK' rfl rfl)⟩
        simp [results, Tryd.results17, go_sem, f4, f6]
      case stop =>
        rintro D c pre W hD hpre ⟨⟨rfl, q, y, k, hq, hqok, hk0, hk, hc4, hc6⟩, hB⟩ hK
        have HX : Hid (p = (y, k)) := by
          obtain ⟨rest, hrest⟩ := hpre
          rw [Hid, HP.out, docAns_ok HZ.out HG.out, ← hrest, hq, List.append_assoc, firstBad_ok hqok, List.singleton_append, firstBad_bad (by rw [← hk]; exact hk0), ← hk]
        have HBW := hide hB
        clear hq hqok hk0 hk hT2 F hpre
        gi_wp2
        refine ⟨by simp, .inl ⟨_, _, rfl, run_takeDeferred hK, ?_⟩⟩
        have f4 := cell_kept hc4 (grownBy_putObj' _ D (.deferred none)) (fun r e => by cases e; exact ⟨_, hK, rfl⟩)
        have f6 := cell_kept hc6 (grownBy_putObj' _ D (.deferred none)) (fun r e => by cases e; exact ⟨_, hK, rfl⟩)
        obtain rfl := HX.out
        refine ⟨.tuple #[.int .i64 y, .int .i64 k], ?_, rfl, HBW.out.trans (belowK_b (w := w) (Nat.le_refl _) W D _ _ (by simp at hD; omega) hK rfl rfl)⟩
        simp [results, Tryd.results17, go_sem, f4, f6]
    · have HX : Hid (p = (0, 1)) := HP.out.trans (docAns_bad HZ.out hno)
      have hb2 := hb1.trans (hc2.mono hz1)
      have hz2 := (HOld.out _ hb2).2
      clear hno x0 x1 x2 x3 x4 x5 x6 x7
      obtain ⟨x0, ⟨x1, x2, x3⟩, ⟨x4, x5⟩, ⟨x6, x7⟩⟩ := HB.out _ hb2
      have HBW := hide (HOld.out _ hb2).1
      gi_wp2_with fail
      obtain rfl := HX.out
      refine ⟨.tuple #[.int .i64 0, .int .i64 1], ?_, rfl, (HBW.out.setCell (p := ⟨w.heap.size + 1 + 1, 0, none⟩) (by first | (simp; done) | (simp; omega)) _).setCell (p := ⟨w.heap.size + 1 + 1 + 1, 0, none⟩) (by first | (simp; done) | (simp; omega)) _⟩
      have e4 : ((w2.setCell ⟨w.heap.size + 1 + 1, 0, none⟩ (.int .i64 0)).setCell ⟨w.heap.size + 1 + 1 + 1, 0, none⟩ (.int .i64 1)).cell? ⟨w.heap.size + 1 + 1, 0, none⟩ = some (.int .i64 0) := by
        rw [World.cell?_setCell_other _ _ _ _ (by simp)]
        exact World.cell?_setCell_same' w2 ⟨w.heap.size + 1 + 1, 0, none⟩ _ (by rw [x4]; rfl)
      have e6 : ((w2.setCell ⟨w.heap.size + 1 + 1, 0, none⟩ (.int .i64 0)).setCell ⟨w.heap.size + 1 + 1 + 1, 0, none⟩ (.int .i64 1)).cell? ⟨w.heap.size + 1 + 1 + 1, 0, none⟩ = some (.int .i64 1) := World.cell?_setCell_same' _ ⟨w.heap.size + 1 + 1 + 1, 0, none⟩ _ (by rw [World.cell?_setCell_other _ _ _ _ (by simp), x6]; rfl)
      simp [results, Tryd.results17, go_sem, e4, e6]
  · have HX : Hid (p = (0, c)) := by rw [Hid, HP.out, docAns_sch (by rw [← HCc.out]; exact h0)]; rw [HCc.out]
    have h00 : (c != 0) = true := by simp [h0]
    clear h0 HP HCc
    gi_wp2_with fail
    rw [← hW0]
    clear hW0
    refine ⟨trivial, (callsIn_wide.2 HS.out).mono ?_⟩
    rintro e w1 ⟨rfl, hb1⟩
    obtain ⟨x0, ⟨x1, x2, x3⟩, ⟨x4, x5⟩, ⟨x6, x7⟩⟩ := HB.out _ hb1
    have hz1 := (HOld.out _ hb1).2
    have HBW := hide (HOld.out _ hb1).1
    gi_wp2_with fail
    obtain rfl := HX.out
    refine ⟨.tuple #[.int .i64 0, .int .i64 c], ?_, rfl, (HBW.out.setCell (p := ⟨w.heap.size + 1 + 1, 0, none⟩) (by first | (simp; done) | (simp; omega)) _).setCell (p := ⟨w.heap.size + 1 + 1 + 1, 0, none⟩) (by first | (simp; done) | (simp; omega)) _⟩
    have e4 : ((w1.setCell ⟨w.heap.size + 1 + 1, 0, none⟩ (.int .i64 0)).setCell ⟨w.heap.size + 1 + 1 + 1, 0, none⟩ (.int .i64 c)).cell? ⟨w.heap.size + 1 + 1, 0, none⟩ = some (.int .i64 0) := by
      rw [World.cell?_setCell_other _ _ _ _ (by simp)]
      exact World.cell?_setCell_same' w1 ⟨w.heap.size + 1 + 1, 0, none⟩ _ (by rw [x4]; rfl)
    have e6 : ((w1.setCell ⟨w.heap.size + 1 + 1, 0, none⟩ (.int .i64 0)).setCell ⟨w.heap.size + 1 + 1 + 1, 0, none⟩ (.int .i64 c)).cell? ⟨w.heap.size + 1 + 1 + 1, 0, none⟩ = some (.int .i64 c) := World.cell?_setCell_same' _ ⟨w.heap.size + 1 + 1 + 1, 0, none⟩ _ (by rw [World.cell?_setCell_other _ _ _ _ (by simp), x6]; rfl)
    simp [results, Tryd.results17, go_sem, e4, e6]
end Go.Proofs.YtmcopoonnhcdjaaDoor
