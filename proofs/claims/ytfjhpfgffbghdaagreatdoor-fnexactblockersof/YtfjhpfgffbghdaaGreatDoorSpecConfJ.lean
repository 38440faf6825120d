/-
  Which sessions stand against a lock, as the specification reckons it.
-/
import Derived.Test.YtfjhpfgffbghdaaGreatDoorSpecClashJ
import Derived.Test.YtfjhpfgffbghdaaGreatDoorSessSpecJ
namespace Go.Proofs.YtfjhpfgffbghdaaGreatDoor
open Go.RowKit

set_option maxHeartbeats 4000000 in
set_option maxRecDepth 100000 in
theorem specConflicts_any (n₀ : Nat) (d : PDoc) (s v : Value) (L : List PHold) (x : PHold) (w : World) (hN : NodesAt n₀ w s d.nodes) (hV : HoldsAt n₀ w v L) (hn : n₀ ≤ w.heap.size) (hl : d.nodes.length ≤ 1048576) (hkl : ∀ x ∈ d.nodes, x.kids.length ≤ 1048576) (G : Good d) (hL : HoldsP d L) (hx : HoldP d x) :
    Calls Tryz.prog 69 #[.agg #[.int .i64 d.root, .int .i64 d.next, s], v, holdVal x] w fun e w' => ∃ u, e = .returned u ∧ w'.ownsRow w.heap.size 3 1 u (confL d L x (sessP L)).length ((confL d L x (sessP L)).map (Value.int .i64)) ∧ Below w.heap.size w w' := by
  obtain ⟨i0, hinf, hq0, hq1, hq2⟩ := info_parts specInfoInt'
  obtain ⟨W0, hW0⟩ : ∃ W0, W0 = (w.alloc (.cells #[.int .i64 d.root, .int .i64 d.next, s] 38)).alloc (.cells #[.int .i64 x.session, .int .i64 x.node, .int .i64 x.mode] 86) := ⟨_, rfl⟩
  have hw0 : Below w.heap.size w W0 := by rw [hW0]; exact ((Below.refl w.heap.size w).alloc (Nat.le_refl _) _).alloc (by simp) _
  have hs0 : W0.heap.size = w.heap.size + 1 + 1 := by rw [hW0]; simp
  have hh0 : W0.heap[w.heap.size]? = some (.cells #[.int .i64 d.root, .int .i64 d.next, s] 38 (0, 0)) := by
    rw [hW0, Below.heap_alloc _ _ _ (by simp)]; exact alloc_new w _
  have hh1 : W0.heap[w.heap.size + 1]? = some (.cells #[.int .i64 x.session, .int .i64 x.node, .int .i64 x.mode] 86 (0, 0)) := by
    rw [hW0]
    have := alloc_new (w.alloc (.cells #[.int .i64 d.root, .int .i64 d.next, s] 38)) (.cells #[.int .i64 x.session, .int .i64 x.node, .int .i64 x.mode] 86)
    simpa using this
  have HOld : Hid (∀ wx, Below W0.heap.size W0 wx → Below w.heap.size w wx ∧ w.heap.size + 1 + 1 ≤ wx.heap.size) := fun wx hb => ⟨hw0.trans (hb.mono (by omega)), by have := hb.size; omega⟩
  have HB : Hid (∀ wx, Below W0.heap.size W0 wx → (wx.cell? ⟨w.heap.size, 0, none⟩ = some (.int .i64 d.root) ∧ wx.cell? ⟨w.heap.size, 1, none⟩ = some (.int .i64 d.next) ∧ wx.cell? ⟨w.heap.size, 2, none⟩ = some s) ∧ (wx.cell? ⟨w.heap.size + 1, 0, none⟩ = some (.int .i64 x.session) ∧ wx.cell? ⟨w.heap.size + 1, 1, none⟩ = some (.int .i64 x.node) ∧ wx.cell? ⟨w.heap.size + 1, 2, none⟩ = some (.int .i64 x.mode))) := fun wx hb => by
    have j0 := (hb.block w.heap.size (by omega)).trans hh0
    have j1 := (hb.block (w.heap.size + 1) (by omega)).trans hh1
    exact ⟨⟨cell_of_heap j0 0, cell_of_heap j0 1, cell_of_heap j0 2⟩, cell_of_heap j1 0, cell_of_heap j1 1, cell_of_heap j1 2⟩
  have hl30 := hL.len
  obtain ⟨We, hWe⟩ : ∃ We, We = W0.alloc (.cells #[] 3) := ⟨_, rfl⟩
  have hse : We.heap.size = W0.heap.size + 1 := by rw [hWe]; simp
  have hbe : Below W0.heap.size W0 We := by rw [hWe]; exact (Below.refl _ _).alloc (Nat.le_refl _) _
  have HNone : Hid (We.ownsRow W0.heap.size 3 1 (.slice (some ⟨W0.heap.size, 0, none⟩) 0 0) 0 []) := by rw [hWe]; exact row_none W0 W0.heap.size (Nat.le_refl _)
  have HSe : Hid (Calls Tryz.prog 95 #[v] We fun e w' => ∃ ua uc, e = .returned (.slice ua (sessP L).length uc) ∧ Hid (∀ k, k < (sessP L).length → ∃ b, ua = some ⟨b, 0, none⟩ ∧ W0.heap.size < b ∧ b < w'.heap.size ∧ w'.cell? ⟨b, k, none⟩ = some (.int .i64 ((sessP L)[k]?.getD 0))) ∧ Below We.heap.size We w') :=
    (specSessions_any n₀ v L We (hV.below (Nat.le_refl _) ((hw0.trans (hbe.mono (by omega))).mono hn)) (by omega) hl30).mono fun e w' ⟨u, he, hrow, hb⟩ => by
      obtain ⟨ua, uc, rfl⟩ := row_shape hrow
      refine ⟨ua, uc, he, fun k hk => ?_, hb⟩
      obtain ⟨g, c, hgc⟩ := row_some hrow (by omega)
      simp only [Value.slice.injEq, true_and] at hgc
      obtain ⟨rfl, rfl⟩ := hgc
      have hlt := hrow.lt g rfl
      have := hrow.cells (g := g) rfl k (.int .i64 ((sessP L)[k]?.getD 0)) (by simp [hk])
      rw [Go.WideShapes.add_plain, Nat.zero_add] at this
      exact ⟨g, rfl, by omega, hlt.2, this⟩
  have HCl : Hid (∀ wx o r, (r = true ↔ ClashP d L x o) → Below W0.heap.size W0 wx → Calls Tryz.prog 96 #[.agg #[.int .i64 d.root, .int .i64 d.next, s], v, holdVal x, .int .i64 o] wx fun e w' => e = .returned (.bool r) ∧ Below wx.heap.size wx w') := fun wx o r hr hb =>
    specClash_any n₀ d s v L x o wx (hN.below (Nat.le_refl _) ((HOld.out wx hb).1.mono hn)) (hV.below (Nat.le_refl _) ((HOld.out wx hb).1.mono hn)) (by have := (HOld.out wx hb).2; omega) hl hkl G hL hx r hr
  obtain ⟨a, cap, rfl⟩ := hV.form
  obtain ⟨sa, sc, rfl, -⟩ := hN
  have hsl := sessP_len L
  have HHit := hide (fun k h => @confL_hit d L x (sessP L) k h)
  have HMiss := hide (fun k h => @confL_miss d L x (sessP L) k h)
  have HLen := hide (fun k => confL_len d L x ((sessP L).take k))
  have HS0 : Hid (w.heap.size + 1 + 1 = W0.heap.size) := hs0.symm
  clear hkl hV G hw0 hh0 hh1 hx hL
  generalize sessP L = S at *
  obtain ⟨ns, hns⟩ : ∃ ns, ns = S.length := ⟨_, rfl⟩
  rw [← hns] at HSe hsl
  have HNs := hide hns
  have HFin : Hid (confL d L x S = confL d L x (S.take ns)) := by rw [Hid, hns, List.take_length]
  clear hns
  go_enter Tryz.func69, Tryz.ntmps69
  go_wp2_with fail
  rw [← hW0]
  rw [← hWe]
  clear hW0 hWe
  refine HSe.out.mono ?_
  rintro e w1 ⟨ua, uc, rfl, hcell, hb1e⟩
  have hb1 : Below W0.heap.size W0 w1 := hbe.trans (hb1e.mono (by omega))
  have hs1e := hb1e.size
  have hs1 : W0.heap.size < w1.heap.size := by omega
  have hsw : w.heap.size + 1 < W0.heap.size := by omega
  have HRow1 := hide (ownsRow_below HNone.out hb1e)
  clear HSe hbe hse hs0
  go_wp2_with fail
  go_loopw [7, 9] (fun ov i wr => ∃ (k : Nat) (out : List Int) (g c : Nat), k ≤ ns ∧ i = .int .i64 k ∧ Hid (out = confL d L x (S.take k)) ∧ out.length ≤ 30 ∧ ov = .slice (some ⟨g, 0, none⟩) out.length c ∧ Hid (wr.ownsRow W0.heap.size 3 1 (.slice (some ⟨g, 0, none⟩) out.length c) out.length (out.map (Value.int .i64))) ∧ Below W0.heap.size W0 wr ∧ w1.heap.size ≤ wr.heap.size ∧ Hid (∀ j b, j < ns → ua = some ⟨b, 0, none⟩ → g ≠ b ∧ wr.cell? ⟨b, j, none⟩ = w1.cell? ⟨b, j, none⟩)) (fun _ i _ => ns - (intOf i).toNat)
  case atStart => exact ⟨0, [], W0.heap.size, 0, Nat.zero_le _, rfl, by simp [Hid, confL], by simp, by rw [HS0.out]; rfl, HRow1, hb1, Nat.le_refl _, fun j b hj hub => by
      obtain ⟨b2, h1, h2, _⟩ := hcell.out j hj
      rw [hub] at h1
      simp only [Option.some.injEq, Addr.mk.injEq, and_true] at h1
      exact ⟨by omega, rfl⟩⟩
  case round =>
    obtain ⟨k, out, g, c, hkn, rfl, hout, hol, rfl, hrow, hbr, hs1r, hkeep⟩ := hrel
    obtain ⟨⟨x0, x1, x2⟩, y0, y1, y2⟩ := HB.out _ hbr
    have hsz := hbr.size
    by_cases hlt : k < ns
    · have hlt1 : (k : Int) < (ns : Int) := by omega
      have hltS : k < S.length := by have := HNs.out; omega
      obtain ⟨bs, hua, hbs1, hbs2, hcb⟩ := hcell.out k hlt
      obtain ⟨hgb, hkc⟩ := hkeep.out k bs hlt hua
      have ycb := hkc.trans hcb
      have hbsz : bs < wr.heap.size := by omega
      have hz : w.heap.size < wr.heap.size := by omega
      have hzz : w.heap.size + 1 < wr.heap.size := by omega
      have HH1 := hide (HHit.out k hltS)
      have HM1 := hide (HMiss.out k hltS)
      have HL1 := HLen.out (k + 1)
      have hL1 : (confL d L x (S.take (k + 1))).length ≤ 30 := by
        have : (S.take (k + 1)).length ≤ S.length := by rw [List.length_take]; omega
        have h2 := HNs.out
        omega
      have HD : Hid (againstB d L x (S[k]?.getD 0) = ((S[k]?.getD 0 != x.session) && dec (ClashP d L x (S[k]?.getD 0)))) := rfl
      clear HL1 hkc hcb
      generalize S[k]?.getD 0 = y at *
      obtain ⟨q, hq⟩ : ∃ q, q = dec (ClashP d L x y) := ⟨_, rfl⟩
      have hcal := calm_cell wr
      have HC1 : Hid (∀ t : Calm wr, Calls Tryz.prog 96 #[.agg #[.int .i64 d.root, .int .i64 d.next, .slice sa d.nodes.length sc], .slice a L.length cap, holdVal x, .int .i64 y] t.out fun e w' => e = .returned (.bool q) ∧ Below t.out.heap.size t.out w') := fun t =>
        HCl.out t.out y q (by rw [hq]; exact dec_iff _) (hbr.trans (t.below.mono hsz))
      rw [← hq] at HD
      clear hq
      subst hua
      obtain ⟨ag, hag⟩ : ∃ ag, ag = againstB d L x y := ⟨_, rfl⟩
      rw [← hag] at HD HH1 HM1
      clear hag
      go_wp2_with fail
      go_cut [35] (fun v35 wc => v35 = .bool ag ∧ Below wr.heap.size wr wc)
      case first =>
        by_cases hys : y = x.session
        · have h1 : ag = false := by rw [HD.out]; simp [hys]
          have h2 : (y != x.session) = false := by simp [hys]
          subst h1
          clear hys
          refine wp_region_calm (by kernel_rfl) (by kernel_rfl) ?_
          repeat (go_big_quiet_step (fail))
          refine wpQuiet_nil ?_
          rintro _ ⟨t, rfl⟩
          have ht := t.below
          go_wp2_with fail
          go_meet
          exact ⟨rfl, ht⟩
        · have h2 : (y != x.session) = true := by simp [hys]
          have h1 : ag = q := by rw [HD.out, h2, Bool.true_and]
          subst h1
          clear hys
          refine wp_region_calm (by kernel_rfl) (by kernel_rfl) ?_
          repeat (go_big_quiet_step ((go_at_call 96; exact calm_of (HC1.out _))))
          refine wpQuiet_nil ?_
          rintro _ ⟨t, rfl⟩
          have ht := t.below
          go_wp2_with fail
          go_meet
          exact ⟨by simp, ht⟩
      case rest =>
        obtain ⟨rfl, hbc⟩ := hcut
        have hbw := hbr.trans (hbc.mono hsz)
        have hrowc := hide (ownsRow_below hrow.out hbc)
        have hsc := hbc.size
        have hkeepc : Hid (∀ j, j < ns → wc.cell? ⟨bs, j, none⟩ = w1.cell? ⟨bs, j, none⟩) := fun j hj => (hbc.cell (p := ⟨bs, j, none⟩) hbsz).trans (hkeep.out j bs hj rfl).2
        have ycc := (hbc.cell (p := ⟨bs, k, none⟩) hbsz).trans ycb
        have hbsc : bs < wc.heap.size := by omega
        clear ycb x0 x1 x2 y0 y1 y2 hkeep hcal HC1
        cases ag
        · have HE := hide (HM1.out rfl)
          go_wp2_with fail
          exact ⟨⟨k + 1, out, g, c, by omega, by go_num, by rw [Hid, HE.out]; exact hout.out, hol, rfl, hrowc, hbw, by omega, fun j b hj hub => by
            simp only [Option.some.injEq, Addr.mk.injEq, and_true] at hub
            subst hub
            exact ⟨hgb, hkeepc.out j hj⟩⟩, by simp [intOf]; omega⟩
        · have HE := hide (HH1.out rfl)
          have hol2 : out.length + 1 ≤ 30 := by
            have := hL1
            rw [HE.out, ← hout.out] at this
            simpa using this
          go_wp2_with (at_builtin; refine wpList_append_lies _ rfl _ _ 33 rfl W0.heap.size 3 i0 (.int .i64 0) 1 8 Tryz.underlying33 hinf hq0 hq1 hq2 rfl (by decide) _ _ _ rfl (hrowc.out.alloc _) ⟨wc.heap.size, 0, none⟩ 1 1 [.int .i64 y] rfl rfl (cell_one_new _ _ _) (ints_one [y]) (by decide) (by unfold maxLen; omega) (by omega) (by simp; omega) _ rfl ?_)
          intro g3 c3 w3 hown' hgrow hlie hlt3
          have hb3 := (hbw.alloc (by omega) (.cells #[.int .i64 y] 3)).grown hgrow (by simp; omega) (fun g' hg' => by have := (hrowc.out.lt g' hg').1; omega)
          obtain ⟨_, _, _, hs3, _⟩ := id hgrow
          have HRow3 : Hid (w3.ownsRow W0.heap.size 3 1 (.slice (some ⟨g3, 0, none⟩) (out ++ [y]).length c3) (out ++ [y]).length ((out ++ [y]).map (Value.int .i64))) := by
            unfold Hid; simpa using hown'
          have HK3 : Hid (g3 ≠ bs ∧ ∀ j, j < ns → w3.cell? ⟨bs, j, none⟩ = w1.cell? ⟨bs, j, none⟩) := by
            refine ⟨?_, fun j hj => ?_⟩
            · rcases hlie with h | h
              · simp only [Value.ownBlock, Option.some.injEq] at h; omega
              · first
                | omega
                | (have h' := h; simp at h'; omega)
            · rw [hgrow.cell_far ⟨bs, j, none⟩ (by simp; omega) (by simp [Value.ownBlock]; omega), World.cell?_alloc_lt _ _ _ (by exact hbsc)]
              exact hkeepc.out j hj
          simp only [World.size_alloc] at hs3
          clear hown' hgrow hlie
          go_wp2_with fail
          exact ⟨⟨k + 1, out ++ [y], g3, c3, by omega, by go_num, by rw [Hid, HE.out, ← hout.out], by simp; omega, by simp, HRow3, hb3, by omega, fun j b hj hub => by
            simp only [Option.some.injEq, Addr.mk.injEq, and_true] at hub
            subst hub
            exact ⟨HK3.out.1, HK3.out.2 j hj⟩⟩, by simp [intOf]; omega⟩
    · have hlt1 : ¬ (k : Int) < (ns : Int) := by omega
      have hkk : k = ns := by omega
      have HE : Hid (out = confL d L x S) := by rw [Hid, hout.out, HFin.out, hkk]
      clear hkk hkeep
      go_wp2_with fail
      go_ret
      have hr := hrow.out
      have he := HE.out
      subst he
      exact ⟨_, rfl, ownsRow_base hr (by omega), (HOld.out _ hbr).1⟩
end Go.Proofs.YtfjhpfgffbghdaaGreatDoor
