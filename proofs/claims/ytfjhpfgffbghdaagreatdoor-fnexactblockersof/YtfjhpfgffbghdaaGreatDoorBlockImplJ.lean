/-
  Who stands against a wait, as the program gathers it in a set.
-/
import Derived.Test.YtfjhpfgffbghdaaGreatDoorJoinJ
import Derived.Test.YtfjhpfgffbghdaaGreatDoorJoinG
import Derived.Test.YtfjhpfgffbghdaaGreatDoorRivalImplJ
import Derived.Test.YtfjhpfgffbghdaaGreatDoorConfImplJ
import Derived.Test.YtfjhpfgffbghdaaGreatDoorJoinI
import Derived.Deep.RegionHeld3
namespace Go.Proofs.YtfjhpfgffbghdaaGreatDoor
open Go.RowKit

theorem sess_wf {d : PDoc} {x : PHold} (h : HoldP d x) : Wf64 x.session := by have h1 := h.1; exact wf64_of (by omega) (by omega)

theorem confL_wf {d : PDoc} {L : List PHold} {x : PHold} (h : ∀ i ∈ sessP L, Wf64 i) : ∀ i ∈ confL d L x (sessP L), Wf64 i := fun i hi => h i (List.mem_filter.1 hi).1

theorem sessL_mem : ∀ (zs : List Int) (i : Int), i ∈ sessL zs → i ∈ zs := by
  intro zs i
  have : ∀ m, m ≤ zs.length → i ∈ sessL (zs.take m) → i ∈ zs := by
    intro m
    induction m with
    | zero => intro _ h; simp [sessL] at h
    | succ m ih =>
      intro h hi
      rw [List.take_succ_eq_append_getElem (by omega), sessL_snoc] at hi
      unfold addS at hi
      split at hi
      · exact ih (by omega) hi
      · rcases List.mem_append.1 hi with hi | hi
        · exact ih (by omega) hi
        · rw [List.mem_singleton] at hi; rw [hi]; exact List.getElem_mem _
  have h := this zs.length (Nat.le_refl _)
  rwa [List.take_length] at h

theorem sessP_wf {d : PDoc} {L : List PHold} (hL : HoldsP d L) : ∀ i ∈ sessP L, Wf64 i := fun i hi => by
  have := sessL_mem _ i hi
  rw [List.mem_map] at this
  obtain ⟨x, hx, rfl⟩ := this
  obtain ⟨j, hj, rfl⟩ := List.getElem_of_mem hx
  have := (hL.ok j hj).1
  rw [List.getElem?_eq_getElem hj, Option.getD_some] at this
  exact sess_wf this

/-- The box of a table, and its list of waits, where they lie in memory. -/
def WaitsAt (n₂ : Nat) (w : World) (fb lb : Nat) (ad : Int → Nat) (W : List PHold) : Prop :=
  fb < n₂ ∧ w.cell? ⟨fb, 0, none⟩ = some (.pointer (some ⟨lb, 0, none⟩)) ∧ ∃ a cap, W.length ≤ cap ∧ w.cell? ⟨fb, 1, none⟩ = some (.slice a W.length cap) ∧ (W = [] ∨ ∃ b, a = some ⟨b, 0, none⟩ ∧ b < n₂ ∧ ∀ j, j < W.length → LockAt w ad b (j * 3) (W[j]?.getD holdNil))

theorem WaitsAt.locks {n₂ : Nat} {w : World} {fb lb : Nat} {ad : Int → Nat} {W : List PHold} (h : WaitsAt n₂ w fb lb ad W) : LocksAt n₂ w fb lb ad W := by
  obtain ⟨h0, h1, a, cap, -, h2, h3⟩ := h
  exact ⟨h0, h1, a, cap, h2, h3⟩

theorem WaitsAt.below {n₁ n₂ : Nat} {w w' : World} {fb lb : Nat} {ad : Int → Nat} {W : List PHold} (h : WaitsAt n₁ w fb lb ad W) (hn : n₁ ≤ n₂) (hb : Below n₁ w w') : WaitsAt n₂ w' fb lb ad W := by
  obtain ⟨h0, h1, a, cap, hc, h2, h3⟩ := h
  refine ⟨by omega, (hb.cell (p := ⟨fb, 0, none⟩) h0).trans h1, a, cap, hc, (hb.cell (p := ⟨fb, 1, none⟩) h0).trans h2, h3.imp id ?_⟩
  rintro ⟨b, rfl, hlt, hcc⟩
  exact ⟨b, rfl, by omega, fun j hj => (hcc j hj).below hlt hb⟩

theorem WaitsOwn.at {w : World} {fb lb : Nat} {ad : Int → Nat} {W : List PHold} (h : WaitsOwn w fb lb ad W) : WaitsAt w.heap.size w fb lb ad W := by
  obtain ⟨_, u, hb, hr⟩ := h
  obtain ⟨a, c, rfl⟩ := slice_form hr
  obtain ⟨h0, h1, a', c', h2, h3⟩ := locks_of_row hb ⟨a, rfl⟩ hr
  have hc : a' = a ∧ c' = c := by
    have := (cell_of_heap hb 1).symm.trans h2
    simp only [List.getElem?_toArray, List.getElem?_cons_succ, List.getElem?_cons_zero, Option.some.injEq, Value.slice.injEq, true_and] at this
    exact ⟨this.1.symm, this.2.symm⟩
  obtain ⟨rfl, rfl⟩ := hc
  refine ⟨h0, h1, a', c', ?_, h2, h3⟩
  obtain ⟨_, ⟨e1, hz⟩ | ⟨g, cap', cur, e1, _, _, hcap, _⟩⟩ := hr
  · omega
  · simp only [Value.slice.injEq, true_and] at e1
    obtain ⟨rfl, rfl⟩ := e1
    first | exact hcap | omega

/-- A set has just those who stand against a wait, of the waits ahead of it the first j asked. -/
def BlockSetAt (d : PDoc) (L W : List PHold) (x : PHold) (j : Nat) (w : World) (mb : Nat) : Prop := ∃ n S, n ≤ 30 + j ∧ IntSet w mb n S ∧ ∀ i, i ∈ S ↔ i ∈ blockL d L W x j

set_option maxHeartbeats 4000000 in
set_option maxRecDepth 100000 in
theorem blockersAt_any (d : PDoc) (G : Good d) (n₀ n₁ n₂ fb lb tb : Nat) (ad : Int → Nat) (up : Int → Option Int) (kv : Int → Value) (L W : List PHold) (hL : HoldsP d L) (hW : WaitsP d W) (k : Nat) (hk : k < W.length) (w : World) (hgr : Grown n₀ w d tb ad up kv) (hlk : LocksAt n₁ w lb tb ad L) (hwt : WaitsAt n₂ w fb lb ad W) (hn : n₁ ≤ w.heap.size) (hn2 : n₂ ≤ w.heap.size) (hF : FitsAt w) (hI : IntentsAt w) :
    Calls Tryz.prog 48 #[.pointer (some ⟨fb, 0, none⟩), .int .i64 k] w fun e w' => ∃ mb, e = .returned (.map (some mb)) ∧ w.heap.size ≤ mb ∧ Hid (BlockSetAt d L W (W[k]?.getD holdNil) k w' mb) ∧ Below w.heap.size w w' := by
  obtain ⟨x, hx⟩ : ∃ x, x = W[k]?.getD holdNil := ⟨_, rfl⟩
  have HX := hide hx
  have hxp : HoldP d x := by rw [hx]; exact (hW.ok k hk).1
  obtain ⟨W1, hW1⟩ : ∃ W1, W1 = w.alloc (.cells #[.int .i64 x.session, .int .i64 x.mode, .pointer (some ⟨ad x.node, 0, none⟩)] 109) := ⟨_, rfl⟩
  have hh1 : W1.heap[w.heap.size]? = some (.cells #[.int .i64 x.session, .int .i64 x.mode, .pointer (some ⟨ad x.node, 0, none⟩)] 109 (0, 0)) := by rw [hW1]; exact alloc_new w _
  have hb1 : Below w.heap.size w W1 := by rw [hW1]; exact (Below.refl _ _).alloc (Nat.le_refl _) _
  have hs1 : W1.heap.size = w.heap.size + 1 := by rw [hW1]; simp
  have HOld : Hid (∀ wx, Below W1.heap.size W1 wx → Below w.heap.size w wx ∧ w.heap.size < wx.heap.size) := fun wx hb => ⟨hb1.trans (hb.mono (by omega)), by have := hb.size; omega⟩
  obtain ⟨hfb, hfc, a, cap, hcap, hfw, hrw⟩ := hwt
  have HFc : Hid (∀ wx, Below w.heap.size w wx → wx.cell? ⟨fb, 0, none⟩ = some (.pointer (some ⟨lb, 0, none⟩)) ∧ wx.cell? ⟨fb, 1, none⟩ = some (.slice a W.length cap)) := fun wx hb => ⟨(hb.cell (p := ⟨fb, 0, none⟩) (show fb < w.heap.size by omega)).trans hfc, (hb.cell (p := ⟨fb, 1, none⟩) (show fb < w.heap.size by omega)).trans hfw⟩
  have HB : Hid (∀ wx, Below W1.heap.size W1 wx → (wx.cell? ⟨fb, 0, none⟩ = some (.pointer (some ⟨lb, 0, none⟩)) ∧ wx.cell? ⟨fb, 1, none⟩ = some (.slice a W.length cap)) ∧ (wx.cell? ⟨w.heap.size, 0, none⟩ = some (.int .i64 x.session) ∧ wx.cell? ⟨w.heap.size, 1, none⟩ = some (.int .i64 x.mode) ∧ wx.cell? ⟨w.heap.size, 2, none⟩ = some (.pointer (some ⟨ad x.node, 0, none⟩)))) := fun wx hb => by
    have j1 := (hb.block w.heap.size (by omega)).trans hh1
    exact ⟨HFc.out wx (HOld.out wx hb).1, cell_of_heap j1 0, cell_of_heap j1 1, cell_of_heap j1 2⟩
  have HWc : Hid (∀ j, j < W.length → ∃ b, a = some ⟨b, 0, none⟩ ∧ b < w.heap.size ∧ ∀ wx, Below w.heap.size w wx → LockAt wx ad b (j * 3) (W[j]?.getD holdNil)) := fun j hj => by
    obtain ⟨b, rfl, hb, hc⟩ := hrw.resolve_left (by intro e; simp [e] at hj)
    exact ⟨b, rfl, by omega, fun wx hbx => (hc j hj).below hb (hbx.mono hn2)⟩
  have hw6 := hW.len
  have hcl : (confL d L x (sessP L)).length ≤ 30 := by
    have h1 := confL_len d L x (sessP L)
    have h2 := sessP_len L
    have := hL.len
    omega
  have HConf : Hid (∀ wx, Below W1.heap.size W1 wx → Calls Tryz.prog 76 #[.pointer (some ⟨lb, 0, none⟩), lockVal ad x] wx fun e w' => ∃ a1 c1, e = .returned (.slice a1 (confL d L x (sessP L)).length c1) ∧ Hid (IntsAt w'.heap.size w' (.slice a1 (confL d L x (sessP L)).length c1) (confL d L x (sessP L))) ∧ Below W1.heap.size W1 w') := fun wx hb => by
    obtain ⟨hbw, hsw⟩ := HOld.out wx hb
    exact (conflictsOf_any d G n₀ w.heap.size lb tb ad up kv L hL x hxp wx (hgr.below hbw) ((hlk.below hn (hbw.mono hn)).below (Nat.le_refl _) (Below.refl _ _)) (by omega) (hF.below hbw hF.lt) (hI.below hbw hI.lt)).mono fun e w' ⟨u, he, hrow, hb'⟩ => by
      obtain ⟨a1, c1, rfl⟩ := row_shape hrow
      exact ⟨a1, c1, he, ints_of_row hrow, hb.trans (hb'.mono hb.size)⟩
  have HSet : Hid (∀ wx a1 c1, Hid (IntsAt wx.heap.size wx (.slice a1 (confL d L x (sessP L)).length c1) (confL d L x (sessP L))) → Below W1.heap.size W1 wx → Calls Tryz.prog 75 #[.slice a1 (confL d L x (sessP L)).length c1] wx fun e w' => ∃ mb, e = .returned (.map (some mb)) ∧ W1.heap.size ≤ mb ∧ Hid (BlockSetAt d L W x 0 w' mb) ∧ Below W1.heap.size W1 w') := fun wx a1 c1 h hb =>
    (setOf_any wx.heap.size _ _ wx h.out (Nat.le_refl _) (by omega) (confL_wf (sessP_wf hL))).mono fun e w' ⟨he, ⟨S, h1, h2⟩, hb'⟩ => ⟨_, he, hb.size, ⟨_, S, by omega, h1, fun i => by rw [h2, blockL]⟩, hb.trans (hb'.mono hb.size)⟩
  have HRiv : Hid (∀ wx j q, j < W.length → (q = true ↔ RivalP d L x (W[j]?.getD holdNil)) → Below W1.heap.size W1 wx → Calls Tryz.prog 77 #[.pointer (some ⟨fb, 0, none⟩), lockVal ad (W[j]?.getD holdNil), lockVal ad x] wx fun e w' => e = .returned (.bool q) ∧ Below wx.heap.size wx w') := fun wx j q hj hq hb => by
    obtain ⟨hbw, hsw⟩ := HOld.out wx hb
    exact rival_any d G n₀ w.heap.size fb lb tb ad up kv L hL _ x (hW.ok j hj).1 hxp wx (hgr.below hbw) ((hlk.below hn (hbw.mono hn)).below (Nat.le_refl _) (Below.refl _ _)) (by omega) (by omega) (HFc.out wx hbw).1 (hF.below hbw hF.lt) (hI.below hbw hI.lt) q (hq.trans rival_comm)
  have HWf : Hid (∀ j, j < W.length → Wf64 (W[j]?.getD holdNil).session) := fun j hj => sess_wf (hW.ok j hj).1
  have HKw := hide hk
  have HBl := hide (fun i j => @mem_blockL d L W x i j)
  obtain ⟨bw, rfl, hbw, hcw⟩ := HWc.out k hk
  have hAk := hcw w (Below.refl _ _)
  rw [← hx] at hAk
  have g0 := hAk.c0
  have g1 := hAk.c1
  have g2 := hAk.c2
  have hkW : (k : Int) < (W.length : Int) := by omega
  have hkW' : k ≤ W.length := by omega
  have hfz : fb < w.heap.size := by omega
  have HH1 := hide hh1
  have hs1' := hs1
  clear hx hxp hgr hlk hrw hF hI hL hW hh1 hb1 hcw hAk hcl hs1
  obtain ⟨nw, hnw⟩ : ∃ nw, nw = W.length := ⟨_, rfl⟩
  rw [← hnw] at HFc HB HWc HRiv HWf HKw hfw hw6 hkW hkW' hcap
  clear hnw hk
  go_enter Tryz.func48, Tryz.ntmps48
  go_wp2_with fail
  rw [← hW1]
  clear hW1
  have hd1 : Below W1.heap.size W1 W1.drew := (Below.refl _ _).drew
  have hb11 : Below W1.heap.size W1 W1 := Below.refl _ _
  have hz1 : w.heap.size < W1.heap.size := by omega
  have hz2 : fb < W1.heap.size := by omega
  clear g0 g1 g2 hfc hfw
  go_cut [6] (fun v6 wc => ∃ mb, v6 = .map (some mb) ∧ W1.heap.size ≤ mb ∧ Hid (BlockSetAt d L W x 0 wc mb) ∧ Below W1.heap.size W1 wc)
  case first =>
    go_region_held3 (fun wx => (wx.cell? ⟨fb, 0, none⟩ = some (.pointer (some ⟨lb, 0, none⟩)) ∧ wx.cell? ⟨fb, 1, none⟩ = some (.slice (some ⟨bw, 0, none⟩) nw cap)) ∧ (wx.cell? ⟨w.heap.size, 0, none⟩ = some (.int .i64 x.session) ∧ wx.cell? ⟨w.heap.size, 1, none⟩ = some (.int .i64 x.mode) ∧ wx.cell? ⟨w.heap.size, 2, none⟩ = some (.pointer (some ⟨ad x.node, 0, none⟩)))) (first | exact HB.out _ (by assumption) | go_keep)
      (first
        | (go_at_call 76; refine (HConf.out _ (by assumption)).mono ?_; rintro e wa ⟨aa, ca, rfl, hia, hba⟩)
        | (go_at_call 75; refine (HSet.out _ _ _ hia (by assumption)).mono ?_; rintro e wb ⟨mb, rfl, hmb, hsb, hbb⟩))
    all_goals
      go_wp2_with fail
      go_meet
      exact ⟨_, rfl, hmb, hsb, hbb⟩
  case rest =>
    obtain ⟨mb, rfl, hmb, hset, hbc⟩ := hcut
    obtain ⟨wa, rfl⟩ : ∃ y, y = wc := ⟨_, rfl⟩
    obtain ⟨⟨x0, x1⟩, -, -, -⟩ := HB.out wa hbc
    have hsa := hbc.size
    have hfa : fb < wa.heap.size := by omega
    have hkc : k ≤ cap := by omega
    have hkc1 : (k : Int) ≤ (cap : Int) := by omega
    have hk0 : (0 : Int) ≤ (k : Int) := by omega
    clear hd1 hb11
    go_wp2_with fail
    go_loopw [30] (fun i wr => ∃ j : Nat, j ≤ k ∧ i = .int .i64 j ∧ Hid (BlockSetAt d L W x j wr mb) ∧ Below W1.heap.size W1 wr) (fun i _ => k - (intOf i).toNat)
    case atStart => exact ⟨0, Nat.zero_le _, rfl, hset, hbc⟩
    case round =>
      obtain ⟨j, hjk, rfl, hset, hbr⟩ := hrel
      have hbw' := (HOld.out _ hbr).1
      have hsr := hbr.size
      by_cases hlt : j < k
      · have hlt1 : (j : Int) < (k : Int) := by omega
        have hltn : j < nw := by have := HKw.out; omega
        obtain ⟨b2, h2, -, hcw⟩ := HWc.out j hltn
        simp only [Option.some.injEq, Addr.mk.injEq, and_true] at h2
        subst h2
        have hA := hcw wr hbw'
        have t0 := hA.c0
        have t1 := hA.c1
        have t2 := hA.c2
        have hq1 : bw < wr.heap.size := by omega
        obtain ⟨q, hq⟩ : ∃ q : Bool, q = true ↔ RivalP d L x (W[j]?.getD holdNil) := ⟨dec _, dec_iff _⟩
        have HRv := hide (fun wx hb => HRiv.out wx j q hltn hq hb)
        have HWy := hide (HWf.out j hltn)
        have HStep : Hid (∀ i, i ∈ blockL d L W x (j + 1) ↔ i ∈ blockL d L W x j ∨ (q = true ∧ (W[j]?.getD holdNil).session = i)) := fun i => by
          rw [HBl.out, HBl.out, hq]
          constructor
          · rintro (h | ⟨m, hm, h1, h2⟩)
            · exact .inl (.inl h)
            · by_cases e : m = j
              · subst e; exact .inr ⟨h1, h2⟩
              · exact .inl (.inr ⟨m, by omega, h1, h2⟩)
          · rintro ((h | ⟨m, hm, h1, h2⟩) | ⟨h1, h2⟩)
            · exact .inl h
            · exact .inr ⟨m, by omega, h1, h2⟩
            · exact .inr ⟨j, by omega, h1, h2⟩
        clear hq hcw hA
        generalize W[j]?.getD holdNil = y at *
        obtain ⟨W2, hW2⟩ : ∃ W2, W2 = wr.alloc (.cells #[.int .i64 y.session, .int .i64 y.mode, .pointer (some ⟨ad y.node, 0, none⟩)] 109) := ⟨_, rfl⟩
        have hh2 : W2.heap[wr.heap.size]? = some (.cells #[.int .i64 y.session, .int .i64 y.mode, .pointer (some ⟨ad y.node, 0, none⟩)] 109 (0, 0)) := by rw [hW2]; exact alloc_new wr _
        have hbr2 : Below wr.heap.size wr W2 := by rw [hW2]; exact (Below.refl _ _).alloc (Nat.le_refl _) _
        have hb2 := hbr.trans (hbr2.mono hsr)
        have hs2 : wr.heap.size < W2.heap.size := (Array.getElem?_eq_some_iff.1 hh2).1
        obtain ⟨-, z0, z1, z2⟩ := HB.out W2 hb2
        have q0 := cell_of_heap hh2 0
        have q1 := cell_of_heap hh2 1
        have q2 := cell_of_heap hh2 2
        simp only [List.getElem?_toArray, List.getElem?_cons_succ, List.getElem?_cons_zero] at q0 q1 q2
        have hz20 : w.heap.size < W2.heap.size := (HOld.out _ hb2).2
        have HSet2 : Hid (∀ wx, Below W2.heap.size W2 wx → BlockSetAt d L W x j wx mb) := fun wx hb => by
          obtain ⟨n, S, h1, h2, h3⟩ := hset.out
          exact ⟨n, S, h1, h2.below (hbr2.trans (hb.mono (by omega))), h3⟩
        have HH2 := hide hh2
        have HRc := hide (HRv.out W2 hb2)
        clear hh2 HRv
        rw [hW2] at z0 z1 z2 q0 q1 q2
        go_wp2_with fail
        rw [← hW2]
        clear hW2
        cases q
        · have HNx : Hid (∀ wx, Below W2.heap.size W2 wx → BlockSetAt d L W x (j + 1) wx mb) := fun wx hb => by
            obtain ⟨n, S, h1, h2, h3⟩ := HSet2.out wx hb
            exact ⟨n, S, by omega, h2, fun i => by rw [h3, HStep.out]; simp⟩
          refine HRc.out.mono ?_
          rintro e w3 ⟨rfl, hb3⟩
          go_wp2_with fail
          exact ⟨⟨j + 1, by omega, by go_num, HNx.out _ hb3, hb2.trans (hb3.mono (by omega))⟩, by simp [intOf]; omega⟩
        · refine HRc.out.mono ?_
          rintro e w3 ⟨rfl, hb3⟩
          have hs3 := hb3.size
          have hb13 := hb2.trans (hb3.mono (by omega))
          have hh3 := (hb3.block wr.heap.size (by omega)).trans HH2.out
          have p0 := cell_of_heap hh3 0
          simp only [List.getElem?_toArray, List.getElem?_cons_zero] at p0
          have hz3 : wr.heap.size < w3.heap.size := by omega
          have HAdd : Hid (Calls Tryz.prog 78 #[.map (some mb), .int .i64 y.session] w3 fun e w' => e = .returned (.tuple #[]) ∧ Hid (BlockSetAt d L W x (j + 1) w' mb) ∧ Below W1.heap.size W1 w') := by
            obtain ⟨n, S, h1, h2, h3⟩ := HSet2.out w3 hb3
            refine (add_any _ n S y.session w3 h2 (by omega) HWy.out).mono fun e w' ⟨he, hs, hg⟩ => ⟨he, ⟨n + 1, _, by omega, hs, fun i => ?_⟩, hb13.grown hg hb13.size fun g' hg' => by have := Option.some.inj hg'; omega⟩
            rw [List.mem_cons, h3, HStep.out]
            simp only [true_and]
            exact ⟨fun h => h.elim (fun e => .inr e.symm) .inl, fun h => h.elim .inr fun e => .inl e.symm⟩
          clear x0 x1 z0 z1 z2 q0 q1 q2 t0 t1 t2 hh3
          go_wp2_with (go_at_call 78; refine HAdd.out.mono ?_; rintro e w4 ⟨rfl, hset4, hb4⟩)
          exact ⟨⟨j + 1, by omega, by go_num, hset4, hb4⟩, by simp [intOf]; omega⟩
      · have hlt1 : ¬ (j : Int) < (k : Int) := by omega
        obtain rfl : j = k := by omega
        go_wp2_with fail
        go_ret
        rw [← HX.out]
        exact ⟨mb, rfl, by omega, hset, hbw'⟩
end Go.Proofs.YtfjhpfgffbghdaaGreatDoor
