/-
  MayInsert: what the specification answers.
-/
import Derived.Test.YtpkblnponeonkaaDoorJoinH
import Derived.Test.YtpkblnponeonkaaDoorJoinC
import Derived.Test.YtpkblnponeonkaaDoorKidsSpec
import Derived.Test.YtpkblnponeonkaaDoorMatchSpec
import Derived.Test.YtpkblnponeonkaaDoorJoinD
import Derived.Test.YtpkblnponeonkaaDoorCalm
import Derived.Deep.RegionHeld3
namespace Go.Proofs.YtpkblnponeonkaaDoor
open Go.RowKit

set_option maxHeartbeats 8000000 in
set_option maxRecDepth 100000 in
theorem specMayInsert_any (n₀ : Nat) (v : Value) (R : List PRule) (d : PDoc) (s : Value) (id : Int) (w : World) (hV : RulesAt n₀ w v R) (hRo : RulesRoom n₀ w v R) (hR : SmallRules R) (hN : NodesAt n₀ w s d.nodes) (hn : n₀ ≤ w.heap.size) (hl : d.nodes.length ≤ 1048576) (hkl : ∀ x ∈ d.nodes, x.kids.length ≤ 1048576) (c : Int) (ks : List Int) (hc : c = mayCode R d id) (hks : ks = mayAns R d id) :
    Calls Tryd.prog 18 #[v, .agg #[.int .i64 d.root, .int .i64 d.next, s], .int .i64 id] w (ListPost w ks c) := by
  obtain ⟨i0, hinf, hq0, hq1, hq2⟩ := info_parts specInfoInt'
  obtain ⟨W1, hW1e⟩ : ∃ W1, W1 = w.alloc (.cells #[.int .i64 d.root, .int .i64 d.next, s] 48) := ⟨_, rfl⟩
  have hW : Below w.heap.size w W1 := by rw [hW1e]; exact (Below.refl w.heap.size w).alloc (Nat.le_refl _) _
  have hs1 : W1.heap.size = w.heap.size + 1 := by rw [hW1e]; simp
  have hh1 : W1.heap[w.heap.size]? = some (.cells #[.int .i64 d.root, .int .i64 d.next, s] 48 (0, 0)) := by rw [hW1e]; exact alloc_new w _
  have HOld : Hid (∀ W', Below (w.heap.size + 1) W1 W' → Below w.heap.size w W') := fun W' hb => hW.trans (hb.mono (by omega))
  obtain ⟨r, hr⟩ : ∃ r : Bool, r = true ↔ SchemaP R := ⟨dec _, dec_iff _⟩
  have HSch := hide (specSchOK_any n₀ v R W1 (hV.below (Nat.le_refl _) (hW.mono hn)) (by omega) hR r hr)
  rw [hs1] at HSch
  obtain ⟨a0, ha0⟩ : ∃ a0, a0 = askOf d id := ⟨_, rfl⟩
  have HAsk : Hid (∀ wx, Below (w.heap.size + 1) W1 wx → Calls Tryd.prog 46 #[.agg #[.int .i64 d.root, .int .i64 d.next, s], .int .i64 id] wx fun e w' => e = .returned (.int .i64 a0) ∧ Below (w.heap.size + 1) W1 w') := fun wx hb =>
    (specAsk_any n₀ d s id wx (hN.below (Nat.le_refl _) ((HOld.out wx hb).mono hn)) (by have := (HOld.out wx hb).size; omega) hl hkl a0 ha0).mono fun e w' ⟨he, hb'⟩ => ⟨he, hb.trans (hb'.mono (by have := hb.size; omega))⟩
  have HV := hide hV
  have HRo := hide hRo
  have HR := hide hR
  have HN := hide hN
  have HC := hide hc
  have HK := hide hks
  have HA0 := hide ha0
  have HRr := hide hr
  have hlen := hR.len
  obtain ⟨sa, sc, rfl, hk'⟩ := hN
  obtain ⟨ra, rc, rfl, hv'⟩ := hV
  clear hc hks hR hRo ha0 hr
  by_cases hlo : 4096 < R.length
  · have hx : mayCode R d id = 2 := by
      have h2 := schAsk_long hlo
      rw [mayCode_no (by rw [underOf_sch (by rw [h2]; decide), h2]; decide), underOf_sch (by rw [h2]; decide), h2]
    have HX : Hid (c = 2) := HC.out.trans hx
    have HE : Hid (ks = []) := HK.out.trans (mayAns_no (by rw [hx]; decide))
    rw [hW1e] at hW hs1
    clear HC HK HA0 HRr HAsk HSch HOld hk' hv' hh1 hW1e hx
    go_enter Tryd.func18, Tryd.ntmps18
    go_wp2_with fail
    go_ret2
    obtain rfl : c = 2 := HX.out
    refine ⟨_, rfl, ?_, hW.alloc (by rw [hs1]; omega) _⟩
    rw [HE.out]
    have := row_none (w.alloc (.cells #[.int .i64 d.root, .int .i64 d.next, .slice sa d.nodes.length sc] 48)) w.heap.size (by rw [hs1]; omega)
    rw [hs1] at this
    exact this
  cases r with
  | false =>
    have hx : mayCode R d id = 1 := by
      have h2 := schAsk_bad hlo (fun h => by have := HRr.out.2 h; cases this)
      rw [mayCode_no (by rw [underOf_sch (by rw [h2]; decide), h2]; decide), underOf_sch (by rw [h2]; decide), h2]
    have HX : Hid (c = 1) := HC.out.trans hx
    have HE : Hid (ks = []) := HK.out.trans (mayAns_no (by rw [hx]; decide))
    clear HC HK HA0 HRr HAsk hk' hv' hh1 hx
    go_enter Tryd.func18, Tryd.ntmps18
    go_wp2_with fail
    rw [← hW1e]
    clear hW1e
    refine HSch.out.mono ?_
    rintro e w1 ⟨rfl, hb1⟩
    have hsw := (HOld.out _ hb1).size
    go_wp2_with fail
    go_ret2
    obtain rfl : c = 1 := HX.out
    refine ⟨_, rfl, ?_, (HOld.out _ hb1).alloc hsw _⟩
    rw [HE.out]
    exact row_none _ _ hsw
  | true =>
    have HP := hide (HRr.out.1 rfl)
    have HU : Hid (underOf R d id = a0) := by rw [Hid, underOf_doc (schAsk_ok HP.out)]; exact HA0.out.symm
    by_cases h0 : a0 = 0
    · have ha := HA0.out.symm.trans h0
      obtain ⟨G, hin⟩ := askOf_zero ha
      obtain ⟨p, hp, hpl, hpn, hpm⟩ := place_node G.rise hin
      obtain ⟨b, off, rfl, hb, hcc⟩ := hk'.resolve_left (by intro e; simp [e] at hpl)
      have hAt := hcc p hpl
      have n0 := hAt.c0
      have n1 := hAt.c1
      have n2 := hAt.c2
      have n3 := hAt.c3
      obtain ⟨kv, n4, hI⟩ := hAt.c4
      have hfine := G.fine _ hpm
      have h12 := hfine.2.2.2.2.2.2.2
      have h1k := hfine.2.2.1
      have HX : Hid (c = if (R.length : Int) < (d.nodes[p]?.getD nodeNil).kind then 10 else 0) := by rw [Hid, HC.out, mayCode_ok (HU.out.trans h0), hpn]
      have HE : Hid (c = 0 → ks = mayIn R d.nodes (d.nodes[p]?.getD nodeNil)) := fun h => by rw [HK.out, mayAns_ok (by rw [← HC.out]; exact h), hpn]
      have HE0 : Hid (c ≠ 0 → ks = []) := fun h => by rw [HK.out, mayAns_no (by rw [← HC.out]; exact h)]
      have HAt : Hid (∀ wx, Below (w.heap.size + 1) W1 wx → Calls Tryd.prog 47 #[.agg #[.int .i64 d.root, .int .i64 d.next, .slice (some ⟨b, off, none⟩) d.nodes.length sc], .int .i64 id] wx fun e w' => e = .returned (.int .i64 (p : Int)) ∧ Below (w.heap.size + 1) W1 w' ∧ Below wx.heap.size wx w') := fun wx hbx => by
        have ho := HOld.out wx hbx
        have := specAt_any n₀ d.root d.next _ d.nodes id wx (HN.out.below (Nat.le_refl _) (ho.mono hn)) (by have := ho.size; omega) hl
        rw [hp] at this
        exact this.mono fun e w' ⟨he, hb'⟩ => ⟨he, hbx.trans (hb'.mono (by have := hbx.size; omega)), hb'⟩
      have HKi : Hid (∀ wx, Below (w.heap.size + 1) W1 wx → Calls Tryd.prog 48 #[.agg #[.int .i64 d.root, .int .i64 d.next, .slice (some ⟨b, off, none⟩) d.nodes.length sc], .agg #[.int .i64 (d.nodes[p]?.getD nodeNil).id, .int .i64 (d.nodes[p]?.getD nodeNil).kind, .int .i64 (d.nodes[p]?.getD nodeNil).attr, .string (d.nodes[p]?.getD nodeNil).text, kv]] wx (IdsPost wx (kindsFor d.nodes (d.nodes[p]?.getD nodeNil).kids))) := fun wx hbx => by
        have ho := HOld.out wx hbx
        exact specKids_any d.nodes n₀ d.root d.next hl G.rise (d.nodes[p]?.getD nodeNil) (fun k hk => G.there k (List.mem_flatMap.2 ⟨_, hpm, hk⟩)) (by omega) _ kv wx (HN.out.below (Nat.le_refl _) (ho.mono hn)) (hI.below (Nat.le_refl _) (ho.mono hn)) (by have := ho.size; omega)
      have hkk : (kindsFor d.nodes (d.nodes[p]?.getD nodeNil).kids).length = (d.nodes[p]?.getD nodeNil).kids.length := kindsFor_len _ _
      have hbw : b < w.heap.size := by omega
      have HS : Hid (∀ W', Below (w.heap.size + 1) W1 W' → W'.cell? ⟨w.heap.size, 0, none⟩ = some (.int .i64 d.root) ∧ W'.cell? ⟨w.heap.size, 1, none⟩ = some (.int .i64 d.next) ∧ W'.cell? ⟨w.heap.size, 2, none⟩ = some (.slice (some ⟨b, off, none⟩) d.nodes.length sc) ∧ W'.cell? ⟨b, off + p * 5, none⟩ = some (.int .i64 (d.nodes[p]?.getD nodeNil).id) ∧ W'.cell? ⟨b, off + p * 5 + 1, none⟩ = some (.int .i64 (d.nodes[p]?.getD nodeNil).kind) ∧ W'.cell? ⟨b, off + p * 5 + 2, none⟩ = some (.int .i64 (d.nodes[p]?.getD nodeNil).attr) ∧ W'.cell? ⟨b, off + p * 5 + 3, none⟩ = some (.string (d.nodes[p]?.getD nodeNil).text) ∧ W'.cell? ⟨b, off + p * 5 + 4, none⟩ = some kv) := fun W' hbx => by
        have j1 := (hbx.block w.heap.size (by omega)).trans hh1
        have ho := HOld.out W' hbx
        exact ⟨cell_of_heap j1 0, cell_of_heap j1 1, cell_of_heap j1 2, (ho.cell (p := ⟨b, off + p * 5, none⟩) hbw).trans n0, (ho.cell (p := ⟨b, off + p * 5 + 1, none⟩) hbw).trans n1, (ho.cell (p := ⟨b, off + p * 5 + 2, none⟩) hbw).trans n2, (ho.cell (p := ⟨b, off + p * 5 + 3, none⟩) hbw).trans n3, (ho.cell (p := ⟨b, off + p * 5 + 4, none⟩) hbw).trans n4⟩
      obtain ⟨akk, ckk, rfl, -⟩ := hI
      have h00 : (a0 != 0) = false := by simp [h0]
      have hpl1 : (p : Int) < (d.nodes.length : Int) := by omega
      have HMI := hide (fun m hm h => @mayIn_none' R d.nodes (d.nodes[p]?.getD nodeNil) m hm h)
      have HMY := hide (fun m hm h h' => @mayIn_some' R d.nodes (d.nodes[p]?.getD nodeNil) m hm h h')
      clear h0 ha G hin hp hpn hpm hk' hcc hAt hfine HC HK HU HA0 HRr n0 n1 n2 n3 n4 hh1 HN hkl
      generalize kindsFor d.nodes (d.nodes[p]?.getD nodeNil).kids = kk at *
      generalize mayIn R d.nodes (d.nodes[p]?.getD nodeNil) = mi at *
      generalize d.nodes[p]?.getD nodeNil = x at *
      go_enter Tryd.func18, Tryd.ntmps18
      go_wp2_with fail
      rw [← hW1e]
      clear hW1e
      refine HSch.out.mono ?_
      rintro e w1 ⟨rfl, hb1⟩
      obtain ⟨x0, x1, x2, -⟩ := HS.out w1 hb1
      have hz1 : w.heap.size < w1.heap.size := by have := hb1.size; omega
      go_wp2_with fail
      refine (HAsk.out w1 hb1).mono ?_
      rintro e w2 ⟨rfl, hb2⟩
      have hb2d := hb2.drew
      have hsz2 : w.heap.size + 1 ≤ w2.heap.size := Nat.le_trans (Nat.le_of_eq hs1.symm) hb2.size
      have hbA : Hid (∀ o, Below (w.heap.size + 1) W1 (w2.alloc o).drew) := fun o => (hb2.alloc hsz2 o).drew
      clear HAsk HSch x0 x1 x2
      go_wp2_with fail
      go_cut [9] (fun v9 wc => ∃ B, v9 = .pointer (some ⟨B, 0, none⟩) ∧ w.heap.size + 1 ≤ B ∧ Hid (Five wc B (.int .i64 x.id) (.int .i64 x.kind) (.int .i64 x.attr) (.string x.text) (.slice akk x.kids.length ckk)) ∧ Below (w.heap.size + 1) W1 wc)
      case first =>
        go_region_held3 (fun W' => W'.cell? ⟨w.heap.size, 0, none⟩ = some (.int .i64 d.root) ∧ W'.cell? ⟨w.heap.size, 1, none⟩ = some (.int .i64 d.next) ∧ W'.cell? ⟨w.heap.size, 2, none⟩ = some (.slice (some ⟨b, off, none⟩) d.nodes.length sc) ∧ W'.cell? ⟨b, off + p * 5, none⟩ = some (.int .i64 x.id) ∧ W'.cell? ⟨b, off + p * 5 + 1, none⟩ = some (.int .i64 x.kind) ∧ W'.cell? ⟨b, off + p * 5 + 2, none⟩ = some (.int .i64 x.attr) ∧ W'.cell? ⟨b, off + p * 5 + 3, none⟩ = some (.string x.text) ∧ W'.cell? ⟨b, off + p * 5 + 4, none⟩ = some (.slice akk x.kids.length ckk)) (first | exact HS.out _ (by assumption) | exact HS.out _ (Below.alloc (by assumption) (by assumption) _) | exact HS.out _ (hbA.out _) | exact HS.out _ (below_set5 (by assumption) hsz2 _ _ _ _ _) | go_keep)
          (first
            | (go_at_call 47; refine (HAt.out _ (by first | assumption | exact hbA.out _)).mono ?_; rintro e w3 ⟨rfl, hb3, hc3⟩; have hsz3 : w.heap.size + 1 ≤ w3.heap.size := Nat.le_trans (Nat.le_of_eq hs1.symm) hb3.size; have y0 := keep_cell hc3 w2.heap.size 0 (.int .i64 0); have q0 := keep_soft hc3 w2.heap.size 0 (.int .i64 0); try simp at y0; try simp at q0; have y1 := keep_cell hc3 w2.heap.size 1 (.int .i64 0); have q1 := keep_soft hc3 w2.heap.size 1 (.int .i64 0); try simp at y1; try simp at q1; have y2 := keep_cell hc3 w2.heap.size 2 (.int .i64 0); have q2 := keep_soft hc3 w2.heap.size 2 (.int .i64 0); try simp at y2; try simp at q2; have y3 := keep_cell hc3 w2.heap.size 3 (.string ⟨#[]⟩); have q3 := keep_soft hc3 w2.heap.size 3 (.string ⟨#[]⟩); try simp at y3; try simp at q3; have y4 := keep_cell hc3 w2.heap.size 4 (.slice none 0 0); have q4 := keep_soft hc3 w2.heap.size 4 (.slice none 0 0); try simp at y4; try simp at q4))
        all_goals
          go_wp2_with fail
          go_meet
          first
            | exact ⟨_, rfl, hsz3, five_new _ _ _ _ _ _ _, hb3.alloc hsz3 _⟩
            | exact ⟨_, rfl, hsz2, five_set ((hc3.block w2.heap.size (by simp)).trans (alloc_new w2 _)) _ _ _ _ _, below_set5 hb3 hsz2 _ _ _ _ _⟩
      case rest =>
        obtain ⟨B, rfl, hB, hbox, hbc⟩ := hcut
        have hsc := hbc.size
        obtain ⟨x0, x1, x2, -⟩ := HS.out wc hbc
        obtain ⟨hBl, f0, f1, f2, f3, f4⟩ := hbox.out
        have hzd : w.heap.size < wc.heap.size := by omega
        clear HAt
        by_cases hgt : (R.length : Int) < x.kind
        · have H10 : Hid (c = 10) := by rw [Hid, HX.out, if_pos hgt]
          have HEn : Hid (ks = []) := HE0.out (by rw [H10.out]; decide)
          clear HKi HS HX HE HE0 HMI HMY
          go_wp2_with fail
          go_ret2
          obtain rfl : c = 10 := H10.out
          have hsw := (HOld.out _ hbc).size
          refine ⟨_, rfl, ?_, (HOld.out _ hbc).alloc hsw _⟩
          rw [HEn.out]
          exact row_none _ _ hsw
        · have H0 : Hid (c = 0) := by rw [Hid, HX.out, if_neg hgt]
          have HEi : Hid (ks = mi) := HE.out H0.out
          obtain ⟨m, hm⟩ : ∃ m : Nat, x.kind = (m : Int) + 1 := ⟨(x.kind - 1).toNat, by omega⟩
          have hmR : m < R.length := by omega
          have hmi : (m : Int) < (R.length : Int) := by omega
          obtain ⟨br, ofr, rfl, hbr0, hcr⟩ := hv'.resolve_left (by intro e; simp [e] at hmR)
          have hAtR := hcr m hmR
          have r1 := hAtR.c1
          obtain ⟨tv, r2, hTv⟩ := hAtR.c2
          have hTr := HRo.out br ofr rc rfl hbr0 m hmR tv r2
          have hfew := HP.out.few
          have hPt := (HP.out.rule' hmR).terms
          have hPk := (HR.out.rule' hmR).terms.kinds
          have HMatch : Hid (∀ (i : Nat) (a : Option Addr) (q : Nat) (y : Int) (wx : World) (mb : Bool), i ≤ kk.length → kk.length ≤ 11 → (mb = true ↔ MatchP (R[m]?.getD ruleNil).terms (insAt kk i y)) → Below w.heap.size w wx → Hid (IntsAt wx.heap.size wx (.slice a (kk.length + 1) q) (insAt kk i y) ∧ Roomy (.slice a (kk.length + 1) q) (insAt kk i y).length) → Calls Tryd.prog 49 #[tv, .slice a (kk.length + 1) q] wx fun e w' => e = .returned (.bool mb) ∧ Below wx.heap.size wx w') := fun i a q y wx mb hi h11 hmb hb hI =>
            specMatch_any _ wx.heap.size tv _ _ wx (hTv.below (Nat.le_trans hn hb.size) (hb.mono hn)) hTr hI.out.1 hI.out.2 (Nat.le_refl _) hPt.len hPk (by rw [insAt_len kk i y hi]; omega) mb hmb
          have HMn := hide (HMI.out m hm)
          have HMy := hide (HMY.out m hm)
          obtain ⟨ta, tc, rfl, -⟩ := hTv
          have hbrw : br < w.heap.size := by omega
          have hwr : IntKind.i64.wrap ((m : Int) + 1 - 1) = (m : Int) := by rw [IntKind.wrap_i64]; omega
          have hle : ¬ (R.length : Int) < (m : Int) + 1 := by omega
          rw [hm] at f1 hbox
          have HKx : Hid (∀ wx, Below (w.heap.size + 1) W1 wx → Calls Tryd.prog 48 #[.agg #[.int .i64 d.root, .int .i64 d.next, .slice (some ⟨b, off, none⟩) d.nodes.length sc], .agg #[.int .i64 x.id, .int .i64 ((m : Int) + 1), .int .i64 x.attr, .string x.text, .slice akk x.kids.length ckk]] wx (IdsPost wx kk)) := by rw [← hm]; exact HKi.out
          have hkl2 := hkk
          have HTt : Hid (∀ n, mayTo (R[m]?.getD ruleNil).terms kk (n + 1) = mayTo (R[m]?.getD ruleNil).terms kk n ++ if fitsTo (R[m]?.getD ruleNil).terms kk ((n : Int) + 1) (kk.length + 1) = true then [(n : Int) + 1] else []) := fun n => rfl
          have HTl := hide (mayTo_len (R[m]?.getD ruleNil).terms kk)
          clear hAtR hcr hv' hTr hPt hPk hgt HX HE HE0 HMI HMY HKi h1k HV HRo HR HP hm HS
          have HOx := hide hbc
          generalize R[m]?.getD ruleNil = ru at *
          go_wp2_with fail
          refine (HKx.out _ (hbc.alloc (by omega) _)).mono ?_
          rintro e w3 ⟨v3, rfl, hrow3, hb3⟩
          have hs3 := hb3.size
          simp only [World.size_alloc] at hs3
          obtain ⟨a3, c3, rfl⟩ := row_shape hrow3
          have HK3 : Hid (KRow wc.heap.size w3.heap.size w3 a3 c3 kk) := KRow.of_row hrow3 (by simp)
          have hO3 : w3.ownsRow wc.heap.size 3 1 (.slice (some ⟨wc.heap.size, 0, none⟩) 0 0) 0 [] := ownsRow_below (row_none wc wc.heap.size (Nat.le_refl _)) hb3
          have HO3 := hide hO3
          have hb3' : Below wc.heap.size wc w3 := ((Below.refl wc.heap.size wc).alloc (Nat.le_refl _) _).trans (hb3.mono (by simp))
          have hw3 : Below w.heap.size w w3 := (HOld.out _ hbc).trans (hb3'.mono (by omega))
          have HF3 : Hid (Five w3 B (.int .i64 x.id) (.int .i64 ((m : Int) + 1)) (.int .i64 x.attr) (.string x.text) (.slice akk x.kids.length ckk)) := hbox.out.below hb3' hBl
          have hk31 := HK3.out.1
          rw [hkl2] at hk31
          rw [hkl2]
          clear hrow3 hO3 HKx x0 x1 x2 f0 f1 f2 f3 f4 hbox HOx hzd
          have hkl3 : kk.length = x.kids.length := hkl2
          have r1' := (hw3.cell (p := ⟨br, ofr + m * 3 + 1, none⟩) hbrw).trans r1
          have r2' := (hw3.cell (p := ⟨br, ofr + m * 3 + 2, none⟩) hbrw).trans r2
          obtain ⟨hBl3, f0, f1, f2, f3, f4⟩ := HF3.out
          have hB3 : B < w3.heap.size := hBl3
          have hbr3 : br < w3.heap.size := by have := hw3.size; omega
          clear hb3 hb3' f0 f2 f3 f4
          by_cases hno : ru.leaf = true ∨ x.kids.length = 12
          · have HEn : Hid (ks = []) := HEi.out.trans (HMn.out hno)
            have hrow : w3.ownsRow w.heap.size 3 1 (.slice (some ⟨wc.heap.size, 0, none⟩) 0 0) 0 [] := ownsRow_base HO3.out (by omega)
            have HRw := hide hrow
            clear hrow HMatch HMy HMn HTt HTl HK3 HF3 HO3 hkl2 hkl3 hkk
            cases hlf : ru.leaf
            · have h12' : x.kids.length = 12 := by rcases hno with h | h; rw [hlf] at h; cases h; exact h
              rw [hlf] at r1'
              rw [h12'] at hk31 ⊢
              clear hno r1 h12
              go_wp2_with fail
              go_loopw [10, 12] (fun o10 k12 wr => o10 = .slice (some ⟨wc.heap.size, 0, none⟩) 0 0 ∧ k12 = .int .i64 1 ∧ wr = w3) (fun _ _ _ => 0)
              case atStart => exact ⟨rfl, rfl, rfl⟩
              case round =>
                obtain ⟨rfl, rfl, hwq⟩ := hrel
                have hwq2 := hwq.symm
                subst hwq2
                clear hwq
                go_wp2_with fail
                go_ret2
                obtain rfl : c = 0 := H0.out
                refine ⟨_, rfl, ?_, hw3⟩
                rw [HEn.out]
                exact HRw.out
            · rw [hlf] at r1'
              clear hno r1 h12
              go_wp2_with fail
              go_loopw [10, 12] (fun o10 k12 wr => o10 = .slice (some ⟨wc.heap.size, 0, none⟩) 0 0 ∧ k12 = .int .i64 1 ∧ wr = w3) (fun _ _ _ => 0)
              case atStart => exact ⟨rfl, rfl, rfl⟩
              case round =>
                obtain ⟨rfl, rfl, hwq⟩ := hrel
                have hwq2 := hwq.symm
                subst hwq2
                clear hwq
                go_wp2_with fail
                go_ret2
                obtain rfl : c = 0 := H0.out
                refine ⟨_, rfl, ?_, hw3⟩
                rw [HEn.out]
                exact HRw.out
          · have hlf : ru.leaf = false := by
              cases h : ru.leaf
              · rfl
              · exact absurd (.inl h) hno
            have hne12 : x.kids.length ≠ 12 := fun h => hno (.inr h)
            have h11 : x.kids.length ≤ 11 := by omega
            have HEy : Hid (ks = mayTo ru.terms kk R.length) := HEi.out.trans (HMy.out hlf hne12)
            have hlt12 : (x.kids.length : Int) < 12 := by omega
            rw [hlf] at r1'
            rw [hkl3] at HMatch
            have HM := hide (fun i a q y wx mb hi => HMatch.out i a q y wx mb hi h11)
            clear hno HMn HMy HMatch r1 r2 hlf hne12 h12 HEi hkk hkl2 hle
            go_wp2_with fail
            go_loopw [10, 12] (fun o10 k12 wr => ∃ (k g cc : Nat), k ≤ R.length ∧ k12 = .int .i64 ((k : Int) + 1) ∧ o10 = .slice (some ⟨g, 0, none⟩) (mayTo ru.terms kk k).length cc ∧ (g = wc.heap.size ∨ w3.heap.size ≤ g) ∧ Hid (wr.ownsRow wc.heap.size 3 1 (.slice (some ⟨g, 0, none⟩) (mayTo ru.terms kk k).length cc) (mayTo ru.terms kk k).length ((mayTo ru.terms kk k).map (Value.int .i64))) ∧ KeptBut wc.heap.size w3.heap.size w3 wr) (fun _ k12 _ => R.length + 1 - (intOf k12).toNat)
            case atStart => exact ⟨0, _, 0, Nat.zero_le _, rfl, rfl, .inl rfl, HO3, KeptBut.refl _ _ _⟩
            case round =>
              obtain ⟨wo, rfl⟩ : ∃ wo, wo = wr := ⟨_, rfl⟩
              obtain ⟨k, g, cc, hk1, rfl, rfl, hg, hown, hkb⟩ := hrel
              have hsr := hkb.size
              have f1r := (hkb.cell B 1 hB3 (by omega)).trans f1
              have r1r := (hkb.cell br (ofr + m * 3 + 1) hbr3 (by omega)).trans r1'
              have r2r := (hkb.cell br (ofr + m * 3 + 2) hbr3 (by omega)).trans r2'
              have HKr : Hid (KRow wc.heap.size w3.heap.size wo a3 c3 kk) := HK3.out.but hkb
              have hBr : B < wo.heap.size := by omega
              have hbrr : br < wo.heap.size := by omega
              have hwr3 : Below w.heap.size w wo := hw3.trans (hkb.under (by omega) (by omega))
              have hwk : IntKind.i64.wrap ((k : Int) + 1 + 1) = (k : Int) + 1 + 1 := by rw [IntKind.wrap_i64]; omega
              by_cases hlt : k < R.length
              · have hlt1 : (k : Int) + 1 ≤ (R.length : Int) := by omega
                have HTk := hide (HTt.out k)
                have hkp : (0 : Int) ≤ (k : Int) := by omega
                go_wp2_with fail
                go_loopw [13, 14] (fun f13 i14 wi => ∃ (i : Nat) (q : Bool), i ≤ x.kids.length + 1 ∧ i14 = .int .i64 i ∧ f13 = .bool q ∧ Hid (q = fitsTo ru.terms kk ((k : Int) + 1) i) ∧ Below wo.heap.size wo wi) (fun _ i14 _ => x.kids.length + 1 - (intOf i14).toNat)
                case atStart => exact ⟨0, false, Nat.zero_le _, rfl, rfl, (fitsTo_zero _ _ _).symm, Below.refl _ _⟩
                case round =>
                  obtain ⟨i, q, hi1, rfl, rfl, hq, hbi⟩ := hrel
                  have hsi := hbi.size
                  by_cases hil : i < x.kids.length + 1
                  · have hin : i ≤ x.kids.length := by omega
                    have hil1 : (i : Int) ≤ (x.kids.length : Int) := by omega
                    obtain ⟨mb, hmb⟩ : ∃ mb : Bool, mb = true ↔ MatchP ru.terms (insAt kk i ((k : Int) + 1)) := ⟨dec _, dec_iff _⟩
                    have HNx : Hid (fitsTo ru.terms kk ((k : Int) + 1) (i + 1) = (q || mb)) := by rw [Hid, fitsTo_succ hmb, hq.out]
                    have HMb := hide hmb
                    have hwi : IntKind.i64.wrap ((i : Int) + 1) = (i : Int) + 1 := by rw [IntKind.wrap_i64]; omega
                    clear hmb
                    cases q
                    · have HSi : Hid (∀ W', Below wr.heap.size wr W' → W'.cell? ⟨B, 1, none⟩ = some (.int .i64 ((m : Int) + 1)) ∧ W'.cell? ⟨br, ofr + m * 3 + 2, none⟩ = some (.slice ta ru.terms.length tc)) := fun W' hb' =>
                        ⟨((hbi.trans (hb'.mono hsi)).cell (p := ⟨B, 1, none⟩) hBr).trans f1r, ((hbi.trans (hb'.mono hsi)).cell (p := ⟨br, ofr + m * 3 + 2, none⟩) hbrr).trans r2r⟩
                      have HKb : Hid (∀ W', Below wr.heap.size wr W' → KRow wc.heap.size w3.heap.size W' a3 c3 kk) := fun W' hb' => HKr.out.below ((hbi.mono hsr).trans (hb'.mono (by omega)))
                      obtain ⟨a9, ha9⟩ : ∃ a9, (if c3 = i then a3 else Option.map (fun x => x.add i) a3) = a9 := ⟨_, rfl⟩
                      have HTk2 : Hid (∀ W', Below wr.heap.size wr W' → SrcIs W' (.slice a3 i c3) i ((kk.take i).map (Value.int .i64))) := fun W' hb' => src_take (HKb.out W' hb') (by omega)
                      have HDr : Hid (∀ W', Below wr.heap.size wr W' → SrcIs W' (.slice a9 (x.kids.length - i) (c3 - i)) (x.kids.length - i) ((kk.drop i).map (Value.int .i64))) := fun W' hb' => by
                        have := src_drop (HKb.out W' hb') (by omega) ha9
                        rwa [hkl3] at this
                      have HR3 : Hid (∀ (v : Value) (w' : World), w'.ownsRow wr.heap.size 3 1 v (0 + i + 1 + (x.kids.length - i)) (([] ++ (kk.take i).map (Value.int .i64)) ++ [Value.int .i64 ((k : Int) + 1)] ++ (kk.drop i).map (Value.int .i64)) → ∃ a c, v = .slice a (x.kids.length + 1) c ∧ Hid (IntsAt w'.heap.size w' (.slice a (x.kids.length + 1) c) (insAt kk i ((k : Int) + 1)) ∧ Roomy (.slice a (x.kids.length + 1) c) (insAt kk i ((k : Int) + 1)).length)) := fun v w' h => by
                        rw [← hkl3] at h ⊢
                        exact row_three (by omega) h
                      have HCm : Hid (∀ a q wx, Below wr.heap.size wr wx → Hid (IntsAt wx.heap.size wx (.slice a (x.kids.length + 1) q) (insAt kk i ((k : Int) + 1)) ∧ Roomy (.slice a (x.kids.length + 1) q) (insAt kk i ((k : Int) + 1)).length) → Calls Tryd.prog 49 #[.slice ta ru.terms.length tc, .slice a (x.kids.length + 1) q] wx fun e w' => e = .returned (.bool mb) ∧ Below wr.heap.size wr w') := fun a q wx hb' hI =>
                        (HM.out i a q _ wx mb hin HMb.out (hwr3.trans ((hbi.trans (hb'.mono hsi)).mono hwr3.size)) hI).mono fun e w' ⟨he, hb2⟩ => ⟨he, hb'.trans (hb2.mono hb'.size)⟩
                      have hA0 : Below wr.heap.size wr wr.drew := (Below.refl _ _).drew
                      have hA1 : Hid (∀ o, Below wr.heap.size wr (wr.alloc o).drew) := fun o => ((Below.refl _ _).alloc (Nat.le_refl _) o).drew
                      have hA2 : Hid (∀ o o', Below wr.heap.size wr ((wr.alloc o).alloc o').drew) := fun o o' => (((Below.refl _ _).alloc (Nat.le_refl _) o).alloc (by simp) o').drew
                      have hic : (i : Int) ≤ (c3 : Int) := by omega
                      have hfew2 := hfew
                      have hm0 : (0 : Int) ≤ (m : Int) := by omega
                      have hwm : IntKind.i64.wrap (m : Int) = (m : Int) := by rw [IntKind.wrap_i64]; omega
                      have hmi2 : (m : Int) < (R.length : Int) := by omega
                      have hi0 : (0 : Int) ≤ (i : Int) := by omega
                      clear HKr HMb f1r r1r r2r HTk HTt HTl hown
                      go_wp2_with fail
                      go_region_held3 (fun W' => W'.cell? ⟨B, 1, none⟩ = some (.int .i64 ((m : Int) + 1)) ∧ W'.cell? ⟨br, ofr + m * 3 + 2, none⟩ = some (.slice ta ru.terms.length tc)) (first | exact HSi.out _ (by assumption) | exact HSi.out _ (hA1.out _) | exact HSi.out _ (hA2.out _ _) | exact HSi.out _ (hA4.out _) | go_keep)
                        (first
                          | (refine step_append_src (by rfl) (.tmp 83) (.tmp 86) 41 rfl wr.heap.size 3 i0 (.int .i64 0) 8 Tryd.underlying41 hinf hq0 hq1 hq2 rfl _ 0 [] rfl (by first | exact row_none wr wr.heap.size (Nat.le_refl _) | exact (row_none wr wr.heap.size (Nat.le_refl _)).alloc _ | exact row_none2 wr _) _ i _ rfl (HTk2.out _ (by first | exact hA1.out _ | exact hA2.out _ _)) (by unfold maxLen; omega) (by omega) (by first | exact (hA1.out _).size | exact (hA2.out _ _).size) ?_; intro v4 w4 hown4 hg4; have hb4 : Below wr.heap.size wr w4 := Below.grown (by first | exact hA1.out _ | exact hA2.out _ _) hg4 (by first | exact (hA1.out _).size | exact (hA2.out _ _).size) (fun k hk => by cases hk; first | exact Nat.le_refl _ | exact Nat.le_succ _); have hA4 : Hid (∀ o, Below wr.heap.size wr (w4.alloc o)) := fun o => hb4.alloc hb4.size o)
                          | (refine step_append_src (by rfl) (.tmp 87) (.tmp 89) 41 rfl wr.heap.size 3 i0 (.int .i64 0) 8 Tryd.underlying41 hinf hq0 hq1 hq2 rfl v4 (0 + i) _ rfl (by first | exact hown4 | exact hown4.alloc _) _ 1 [.int .i64 ((k : Int) + 1)] rfl (src_one (by first | exact cell_of_heap (alloc_new w4 _) 0 | exact hg4.cell (a := ⟨wr.heap.size + 1, 0, none⟩) (second_new _ _ _ _) (own_ne1 _) | exact hg4.cell (a := ⟨wr.heap.size, 0, none⟩) (first_new _ _ _ _) (own_ne2 _))) (by unfold maxLen; omega) (by omega) (by first | exact hb4.size | exact (hA4.out _).size) ?_; intro v5 w5 hown5 hg5; have hb5 : Below wr.heap.size wr w5 := Below.grown (by first | exact hb4 | exact hA4.out _) hg5 (by first | exact hb4.size | exact (hA4.out _).size) (fun k hk => (hown4.lt k hk).1))
                          | (refine step_append_src (by rfl) (.tmp 90) (.tmp 93) 41 rfl wr.heap.size 3 i0 (.int .i64 0) 8 Tryd.underlying41 hinf hq0 hq1 hq2 rfl v5 (0 + i + 1) _ rfl hown5 _ (x.kids.length - i) _ rfl (HDr.out _ hb5) (by unfold maxLen; omega) (by omega) hb5.size ?_; intro v6 w6 hown6 hg6; have hb6 : Below wr.heap.size wr w6 := hb5.grown hg6 hb5.size (fun k hk => (hown5.lt k hk).1); obtain ⟨a6, c6, rfl, hI6⟩ := HR3.out v6 w6 hown6)
                          | (go_at_call 49; refine (HCm.out _ _ _ hb6 hI6).mono ?_; rintro e w7 ⟨rfl, hb7⟩))
                      all_goals
                        go_wp2_with fail
                        refine ⟨⟨i + 1, mb, by omega, by go_num, rfl, ?_, hbi.trans (hb7.mono hsi)⟩, by simp [intOf]; omega⟩
                        have := HNx.out
                        rw [Bool.false_or] at this
                        exact this.symm
                    · have hcal := calm_cell wr
                      clear HKr f1r r1r r2r HTk HTt HTl hown
                      go_wp2_with fail
                      refine wp_region_calm (by kernel_rfl) (by kernel_rfl) ?_
                      repeat (go_big_quiet_step (fail))
                      refine wpQuiet_nil ?_
                      rintro _ ⟨t, rfl⟩
                      go_wp2_with fail
                      refine ⟨⟨i + 1, true, by omega, by go_num, rfl, ?_, hbi.trans (t.below.mono hsi)⟩, by simp [intOf]; omega⟩
                      have := HNx.out
                      rw [Bool.true_or] at this
                      exact this.symm
                  · obtain rfl : i = x.kids.length + 1 := by omega
                    have HQ : Hid (fitsTo ru.terms kk ((k : Int) + 1) (kk.length + 1) = q) := by rw [Hid, hkl3]; exact hq.out.symm
                    have hownr := ownsRow_below hown.out hbi
                    have hkbr : KeptBut wc.heap.size w3.heap.size w3 wr := hkb.below (hbi.mono hsr)
                    have hml := HTl.out k
                    have HGv : Hid (∀ j, (Value.slice (some ⟨g, 0, none⟩) (mayTo ru.terms kk k).length cc).ownBlock = some j → j = wc.heap.size ∨ w3.heap.size ≤ j) := fun j hj => by
                      simp only [Value.ownBlock, Option.some.injEq] at hj
                      rw [← hj]; exact hg
                    clear HKr HTt hq f1r r1r r2r
                    cases q
                    · have he : mayTo ru.terms kk (k + 1) = mayTo ru.terms kk k := by rw [HTk.out, HQ.out]; simp
                      have HEq := hide he
                      clear he
                      go_wp2_with fail
                      refine ⟨⟨k + 1, g, cc, by omega, by go_num, by rw [HEq.out], hg, by rw [Hid, HEq.out]; exact hownr, hkbr⟩, by simp [intOf]; omega⟩
                    · have he : mayTo ru.terms kk (k + 1) = mayTo ru.terms kk k ++ [(k : Int) + 1] := by rw [HTk.out, HQ.out]; simp
                      have HEq := hide he
                      have hfw := hfew
                      clear he HTk HQ
                      generalize mayTo ru.terms kk k = pk at *
                      go_wp2_with (at_builtin; refine wpList_append_lies _ rfl _ _ 41 rfl wc.heap.size 3 i0 (.int .i64 0) 1 8 Tryd.underlying41 hinf hq0 hq1 hq2 rfl (by decide) _ _ _ rfl (hownr.alloc _) ⟨wr.heap.size, 0, none⟩ 1 1 [.int .i64 ((k : Int) + 1)] rfl rfl (cell_one_new _ _ _) (one_int _) (by decide) (by unfold maxLen; omega) (by omega) (by simp; omega) _ rfl ?_; intro g9 c9 w9 hown9 hgrow9 hlie9 hlt9)
                      have hkb9 : KeptBut wc.heap.size w3.heap.size w3 w9 := (hkbr.below ((Below.refl _ wr).alloc (by omega) (.cells #[.int .i64 ((k : Int) + 1)] 3))).grown hgrow9 HGv.out (by simp; omega)
                      have hg9 : g9 = wc.heap.size ∨ w3.heap.size ≤ g9 := by
                        rcases hlie9 with h | h
                        · exact HGv.out g9 h
                        · right; rw [h]; simp; omega
                      refine ⟨⟨k + 1, g9, c9, by omega, by go_num, by rw [HEq.out]; simp, hg9, by rw [Hid, HEq.out]; simpa using hown9, hkb9⟩, by simp [intOf]; omega⟩
              · obtain rfl : k = R.length := by omega
                have HRw : Hid (wo.ownsRow w.heap.size 3 1 (.slice (some ⟨g, 0, none⟩) ks.length cc) ks.length (ks.map (Value.int .i64))) := by
                  rw [Hid, HEy.out]
                  exact ownsRow_base hown.out (by omega)
                have HEl : Hid ((mayTo ru.terms kk R.length).length = ks.length) := by rw [Hid, HEy.out]
                have hgtk : ¬ ((R.length : Int) + 1 ≤ (R.length : Int)) := by omega
                rw [HEl.out]
                clear hown HTt HTl HEy HM HKr HK3 HO3 HF3 f1r r1r r2r
                go_wp2_with fail
                go_ret2
                obtain rfl : c = 0 := H0.out
                exact ⟨_, rfl, HRw.out, hwr3⟩
    · have hx : mayCode R d id = a0 := by rw [mayCode_no (by rw [HU.out]; exact h0), HU.out]
      have HX : Hid (c = a0) := HC.out.trans hx
      have HE : Hid (ks = []) := HK.out.trans (mayAns_no (by rw [hx]; exact h0))
      have h00 : (a0 != 0) = true := by simp [h0]
      have HS : Hid (∀ W', Below (w.heap.size + 1) W1 W' → W'.cell? ⟨w.heap.size, 0, none⟩ = some (.int .i64 d.root) ∧ W'.cell? ⟨w.heap.size, 1, none⟩ = some (.int .i64 d.next) ∧ W'.cell? ⟨w.heap.size, 2, none⟩ = some (.slice sa d.nodes.length sc)) := fun W' hbx => by
        have j1 := (hbx.block w.heap.size (by omega)).trans hh1
        exact ⟨cell_of_heap j1 0, cell_of_heap j1 1, cell_of_heap j1 2⟩
      clear h0 HC HK HU HA0 HRr hk' hv' hh1 hx hkl
      go_enter Tryd.func18, Tryd.ntmps18
      go_wp2_with fail
      rw [← hW1e]
      clear hW1e
      refine HSch.out.mono ?_
      rintro e w1 ⟨rfl, hb1⟩
      obtain ⟨x0, x1, x2⟩ := HS.out w1 hb1
      have hz1 : w.heap.size < w1.heap.size := by have := hb1.size; omega
      go_wp2_with fail
      refine (HAsk.out w1 hb1).mono ?_
      rintro e w2 ⟨rfl, hb2⟩
      have hsw := (HOld.out _ hb2).size
      go_wp2_with fail
      go_ret2
      obtain rfl : c = a0 := HX.out
      refine ⟨_, rfl, ?_, (HOld.out _ hb2).alloc hsw _⟩
      rw [HE.out]
      exact row_none _ _ hsw
end Go.Proofs.YtpkblnponeonkaaDoor
