/-
  The sessions that stand against a lock, as the program finds them.
-/
import Derived.Test.YtfjhpfgffbghdaaGreatDoorJoinK
import Derived.Test.YtfjhpfgffbghdaaGreatDoorSessImplJ
namespace Go.Proofs.YtfjhpfgffbghdaaGreatDoor
open Go.RowKit

set_option maxHeartbeats 4000000 in
set_option maxRecDepth 100000 in
theorem conflictsOf_any (d : PDoc) (G : Good d) (n₀ n₁ lb tb : Nat) (ad : Int → Nat) (up : Int → Option Int) (kv : Int → Value) (L : List PHold) (hL : HoldsP d L) (x : PHold) (hx : HoldP d x) (w : World) (hgr : Grown n₀ w d tb ad up kv) (hlk : LocksAt n₁ w lb tb ad L) (hn : n₁ ≤ w.heap.size) (hF : FitsAt w) (hI : IntentsAt w) :
    Calls Tryz.prog 76 #[.pointer (some ⟨lb, 0, none⟩), lockVal ad x] w fun e w' => ∃ u, e = .returned u ∧ w'.ownsRow w.heap.size 3 1 u (confL d L x (sessP L)).length ((confL d L x (sessP L)).map (Value.int .i64)) ∧ Below w.heap.size w w' := by
  obtain ⟨i0, hinf, hq0, hq1, hq2⟩ := info_parts specInfoInt'
  obtain ⟨W0, hW0⟩ : ∃ W0, W0 = w.alloc (.cells #[.int .i64 x.session, .int .i64 x.mode, .pointer (some ⟨ad x.node, 0, none⟩)] 109) := ⟨_, rfl⟩
  have hw0 : Below w.heap.size w W0 := by rw [hW0]; exact (Below.refl w.heap.size w).alloc (Nat.le_refl _) _
  have hs0 : W0.heap.size = w.heap.size + 1 := by rw [hW0]; simp
  have hh0 : W0.heap[w.heap.size]? = some (.cells #[.int .i64 x.session, .int .i64 x.mode, .pointer (some ⟨ad x.node, 0, none⟩)] 109 (0, 0)) := by
    rw [hW0]; exact alloc_new w _
  have HOld : Hid (∀ wx, Below W0.heap.size W0 wx → Below w.heap.size w wx ∧ w.heap.size + 1 ≤ wx.heap.size) := fun wx hb => ⟨hw0.trans (hb.mono (by omega)), by have := hb.size; omega⟩
  have HB : Hid (∀ wx, Below W0.heap.size W0 wx → wx.cell? ⟨w.heap.size, 0, none⟩ = some (.int .i64 x.session) ∧ wx.cell? ⟨w.heap.size, 1, none⟩ = some (.int .i64 x.mode) ∧ wx.cell? ⟨w.heap.size, 2, none⟩ = some (.pointer (some ⟨ad x.node, 0, none⟩))) := fun wx hb => by
    have j0 := (hb.block w.heap.size (by omega)).trans hh0
    exact ⟨cell_of_heap j0 0, cell_of_heap j0 1, cell_of_heap j0 2⟩
  have hl30 := hL.len
  have hsl := sessP_len L
  have HSe : Hid (Calls Tryz.prog 101 #[.pointer (some ⟨lb, 0, none⟩)] W0 fun e w' => ∃ ua uc, e = .returned (.slice ua (sessP L).length uc) ∧ Hid (∀ k, k < (sessP L).length → ∃ b o, ua = some ⟨b, o, none⟩ ∧ b < w'.heap.size ∧ w'.cell? ⟨b, o + k, none⟩ = some (.int .i64 ((sessP L)[k]?.getD 0))) ∧ Below W0.heap.size W0 w') :=
    (sessions_any n₁ lb tb ad L W0 (hlk.below (Nat.le_refl _) (hw0.mono hn)) (by omega) hl30).mono fun e w' ⟨ua, uc, he, hi, hb⟩ => by
      refine ⟨ua, uc, he, fun k hk => ?_, hb⟩
      obtain ⟨a', c', e', h'⟩ := hi
      simp only [Value.slice.injEq] at e'
      obtain ⟨rfl, _, rfl⟩ := e'
      obtain ⟨b, o, rfl, h1, h2⟩ := h'.resolve_left (by intro e0; rw [e0] at hk; simp at hk)
      exact ⟨b, o, rfl, h1, h2 k hk⟩
  have HSt : Hid (∀ wx o r, (r = true ↔ ClashP d L x o) → Below W0.heap.size W0 wx → Calls Tryz.prog 102 #[.pointer (some ⟨lb, 0, none⟩), .int .i64 o, lockVal ad x] wx fun e w' => e = .returned (.bool r) ∧ Below wx.heap.size wx w') := fun wx o r hr hb => by
    have hb' := (HOld.out wx hb).1
    exact standsAgainst_any d G n₀ w.heap.size lb tb ad up kv L hL x hx o wx (hgr.below hb') ((hlk.below hn (hb'.mono hn)).below (Nat.le_refl _) (Below.refl _ _)) hb'.size (hF.below hb' hF.lt) (hI.below hb' hI.lt) r hr
  have HHit := hide (fun k h => @confL_hit d L x (sessP L) k h)
  have HMiss := hide (fun k h => @confL_miss d L x (sessP L) k h)
  have HLen := hide (fun k => confL_len d L x ((sessP L).take k))
  have HAg : Hid (∀ y, againstB d L x y = ((y != x.session) && dec (ClashP d L x y))) := fun _ => rfl
  clear hgr hlk hI hF hw0 hh0 hx hL
  generalize sessP L = S at *
  obtain ⟨ns, hns⟩ : ∃ ns, ns = S.length := ⟨_, rfl⟩
  rw [← hns] at HSe hsl
  have HNs := hide hns
  have HFin : Hid (confL d L x S = confL d L x (S.take ns)) := by rw [Hid, hns, List.take_length]
  clear hns
  have hsw : w.heap.size + 1 ≤ W0.heap.size := by omega
  clear hs0
  go_enter Tryz.func76, Tryz.ntmps76
  go_wp2_with fail
  rw [← hW0]
  clear hW0
  refine HSe.out.mono ?_
  rintro e w1 ⟨ua, uc, rfl, hcell, hb1⟩
  have hs1 := hb1.size
  have HNone := hide (World.ownsRow_nil w1 w1.heap.size 3 1)
  clear HSe
  go_wp2_with fail
  go_loopw [5, 11] (fun ov i wr => ∃ (k : Nat) (out : List Int), k ≤ ns ∧ i = .int .i64 k ∧ Hid (out = confL d L x (S.take k)) ∧ out.length ≤ 30 ∧ Hid (wr.ownsRow w1.heap.size 3 1 ov out.length (out.map (Value.int .i64))) ∧ Below w1.heap.size w1 wr) (fun _ i _ => ns - (intOf i).toNat)
  case atStart => exact ⟨0, [], Nat.zero_le _, rfl, by simp [Hid, confL], by simp, HNone, Below.refl _ _⟩
  case round =>
    obtain ⟨k, out, hkn, rfl, hout, hol, hrow, hbr⟩ := hrel
    rename_i ov _
    have hbr0 := hb1.trans (hbr.mono hs1)
    obtain ⟨y0, y1, y2⟩ := HB.out _ hbr0
    have hsz := hbr.size
    have hzz : w.heap.size < wr.heap.size := by omega
    by_cases hlt : k < ns
    · have hlt1 : (k : Int) < (ns : Int) := by omega
      have hltS : k < S.length := by have := HNs.out; omega
      obtain ⟨bs, os, hua, hbs, hcb⟩ := hcell.out k hlt
      have ycb := (hbr.cell (p := ⟨bs, os + k, none⟩) hbs).trans hcb
      have hbsz : bs < wr.heap.size := by omega
      have HH1 := hide (HHit.out k hltS)
      have HM1 := hide (HMiss.out k hltS)
      have HL1 := HLen.out (k + 1)
      have hL1 : (confL d L x (S.take (k + 1))).length ≤ 30 := by
        have : (S.take (k + 1)).length ≤ S.length := by rw [List.length_take]; omega
        have h2 := HNs.out
        omega
      have HD := hide (HAg.out (S[k]?.getD 0))
      clear HL1 hcb
      generalize S[k]?.getD 0 = y at *
      obtain ⟨q, hq⟩ : ∃ q, q = dec (ClashP d L x y) := ⟨_, rfl⟩
      have HC1 := hide (HSt.out wr y q (by rw [hq]; exact dec_iff _) hbr0)
      rw [← hq] at HD
      clear hq
      subst hua
      obtain ⟨ag, hag⟩ : ∃ ag, ag = againstB d L x y := ⟨_, rfl⟩
      rw [← hag] at HD HH1 HM1
      clear hag
      by_cases hys : y = x.session
      · have h1 : ag = false := by rw [HD.out]; simp [hys]
        have h2 : (y != x.session) = false := by simp [hys]
        have HE := hide (HM1.out h1)
        clear hys h1
        go_wp2_with fail
        exact ⟨⟨k + 1, out, by omega, by go_num, by rw [Hid, HE.out]; exact hout.out, hol, hrow, hbr⟩, by simp [intOf]; omega⟩
      · have h2 : (y != x.session) = true := by simp [hys]
        have h1 : ag = q := by rw [HD.out, h2, Bool.true_and]
        clear hys
        go_wp2_with fail
        refine HC1.out.mono ?_
        rintro e wc ⟨rfl, hbc⟩
        have hbw := hbr.trans (hbc.mono hsz)
        have hrowc := hide (ownsRow_below hrow.out hbc)
        have hsc := hbc.size
        have ycc := (hbc.cell (p := ⟨bs, os + k, none⟩) hbsz).trans ycb
        have hbsc : bs < wc.heap.size := by omega
        clear ycb y0 y1 y2 HC1
        cases q
        · have HE := hide (HM1.out h1)
          clear h1
          go_wp2_with fail
          exact ⟨⟨k + 1, out, by omega, by go_num, by rw [Hid, HE.out]; exact hout.out, hol, hrowc, hbw⟩, by simp [intOf]; omega⟩
        · have HE := hide (HH1.out h1)
          clear h1
          have hol2 : out.length + 1 ≤ 30 := by
            have := hL1
            rw [HE.out, ← hout.out] at this
            simpa using this
          go_wp2_with (at_builtin; refine wpList_append_own _ rfl _ _ 33 rfl w1.heap.size 3 i0 (.int .i64 0) 1 8 Tryz.underlying33 hinf hq0 hq1 hq2 rfl (by decide) _ _ _ rfl (hrowc.out.alloc _) ⟨wc.heap.size, 0, none⟩ 1 1 [.int .i64 y] rfl rfl (cell_one_new _ _ _) (ints_one [y]) (by unfold maxLen; omega) (by omega) (by simp; omega) ?_)
          intro v' w3 hown' hgrow _
          have hb3 := (hbw.alloc (by omega) (.cells #[.int .i64 y] 3)).grown hgrow (by simp; omega) (fun g' hg' => by have := (hrowc.out.lt g' hg').1; omega)
          have HRow3 : Hid (w3.ownsRow w1.heap.size 3 1 v' (out ++ [y]).length ((out ++ [y]).map (Value.int .i64))) := by
            unfold Hid; simpa using hown'
          clear hown' hgrow
          go_wp2_with fail
          exact ⟨⟨k + 1, out ++ [y], by omega, by go_num, by rw [Hid, HE.out, ← hout.out], by simp; omega, HRow3, hb3⟩, by simp [intOf]; omega⟩
    · have hlt1 : ¬ (k : Int) < (ns : Int) := by omega
      have hkk : k = ns := by omega
      have HE : Hid (out = confL d L x S) := by rw [Hid, hout.out, HFin.out, hkk]
      clear hkk
      go_wp2_with fail
      go_ret
      have hr := hrow.out
      have he := HE.out
      subst he
      exact ⟨_, rfl, ownsRow_base hr (by omega), (HOld.out _ hbr0).1⟩
end Go.Proofs.YtfjhpfgffbghdaaGreatDoor
