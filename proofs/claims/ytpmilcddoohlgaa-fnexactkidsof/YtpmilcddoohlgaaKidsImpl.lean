/-
  The kinds of a list of pointers to branches: what the program's kindsOf answers; KidsOf, the program's.
-/
import Derived.Test.YtpmilcddoohlgaaKidsPlain
namespace Go.Proofs.Ytpmilcddoohlgaa
open Go.RowKit Go.Shelf

set_option maxHeartbeats 1000000 in
set_option maxRecDepth 100000 in
theorem kindsOf_any (l : List PNode) (ad : Int → Nat) (up : Int → Option Int) (n₁ : Nat) (ks : List Int) (hks : ∀ k ∈ ks, k ∈ idsOf l) (v : Value) (w : World) (hr : (idsOf l).Pairwise (· < ·)) (hT : TreeAt n₁ w l ad up) (hP : PtrsAt n₁ w v ks ad) (hn : n₁ ≤ w.heap.size) (hl : ks.length ≤ 1048576) :
    Calls Try.prog 19 #[v] w (IdsPost w (kindsFor l ks)) := by
  obtain ⟨i0, hi, hz0, hz1, hz2⟩ := info_parts specInfoInt
  obtain ⟨g, cap, rfl, hk⟩ := hP
  have HT := hide hT
  have HKS := hide hks
  have HRi := hide hr
  clear hT hks hr
  go_enter Try.func19, Try.ntmps19
  go_wp2_with fail
  go_loopw [3, 8] (fun sv i' wr => ∃ m : Nat, m ≤ ks.length ∧ i' = .int .i64 m ∧ wr.ownsRow w.heap.size 3 1 sv m ((kindsFor l (ks.take m)).map (Value.int .i64)) ∧ Below w.heap.size w wr) (fun _ i' _ => ks.length - (intOf i').toNat)
  case atStart => exact ⟨0, Nat.zero_le _, rfl, by simpa [kindsFor] using World.ownsRow_nil _ _ _ _, Below.refl _ _⟩
  case round =>
    obtain ⟨m, hm, rfl, hown, hbr⟩ := hrel
    have hsz := hbr.size
    by_cases hlt : m < ks.length
    · obtain ⟨b, rfl, hb, hc⟩ := hk.resolve_left (by intro e; simp [e] at hlt)
      have hcm := (hbr.cell (p := ⟨b, m, none⟩) (show b < _ by omega)).trans (hc m hlt)
      have hin := HKS.out (ks[m]?.getD 0) (by rw [List.getElem?_eq_getElem hlt]; exact List.getElem_mem hlt)
      have HTS : Hid (kindsFor l (ks.take (m + 1)) = kindsFor l (ks.take m) ++ [(nodeOf l (ks[m]?.getD 0)).kind]) := by rw [Hid, int_snoc hlt]; simp [kindsFor]
      have hlt1 : (m : Int) < (ks.length : Int) := by omega
      clear hc hk
      generalize ks[m]?.getD 0 = y at *
      obtain ⟨x, hx, rfl⟩ := node_of hin
      rw [nodeOf_of HRi.out hx] at HTS
      have hB := HT.out x hx
      have hxl := hB.lt
      have c1 := (hbr.cell (p := ⟨ad x.id, 1, none⟩) (show ad x.id < _ by omega)).trans hB.c1
      obtain ⟨ar, cr, rfl⟩ := row_shape hown
      clear hB hin
      go_wp2_with (at_builtin; refine wpList_append_own _ rfl _ _ 26 rfl w.heap.size 3 i0 (.int .i64 0) 1 8 Try.underlying26 hi hz0 hz1 hz2 rfl (by decide) _ _ _ rfl (hown.alloc _) ⟨wr.heap.size, 0, none⟩ 1 1 [Value.int .i64 x.kind] rfl rfl (cell_one_new _ _ _) (one_int _) (by unfold maxLen; omega) (by omega) (by simp; omega) ?_)
      intro v' w1 hown' hgrow _
      have hb3 := (hbr.alloc (by omega) (.cells #[.int .i64 x.kind] 3)).grown hgrow (by simp; omega) (fun g hg => (hown.lt g hg).1)
      have HRow : Hid (w1.ownsRow w.heap.size 3 1 v' (m + 1) ((kindsFor l (ks.take (m + 1))).map (Value.int .i64))) := by
        unfold Hid; rw [HTS.out]; simpa using hown'
      clear hown' hgrow hown
      go_wp2_with fail
      go_roundw
      case rel => exact ⟨m + 1, by omega, by go_num, HRow.out, hb3⟩
      case measure => simp [intOf]; omega
    · have HRow : Hid (wr.ownsRow w.heap.size 3 1 u3 (kindsFor l ks).length ((kindsFor l ks).map (Value.int .i64))) := by
        have := hown
        rw [List.take_of_length_le (by omega), show m = (kindsFor l ks).length by rw [kindsFor_len]; omega] at this
        exact this
      obtain ⟨ar, cr, rfl⟩ := row_shape hown
      clear hk hown
      go_wp2_with fail
      go_ret
      exact ⟨_, rfl, HRow.out, hbr⟩

set_option maxHeartbeats 1000000 in
set_option maxRecDepth 100000 in
theorem implKidsOf_any (n₀ : Nat) (d : PDoc) (s : Value) (id : Int) (w : World) (hN : NodesAt n₀ w s d.nodes) (hn : n₀ ≤ w.heap.size) (hl : d.nodes.length ≤ 1048576) (hwf : WfDoc d) (c : Int) (ks : List Int) (hc : c = askOf d id) (hks : ks = kidsAns d id) :
    Calls Try.prog 7 #[.agg #[.int .i64 d.root, .int .i64 d.next, s], .int .i64 id] w (ListPost w ks c) := by
  have hW := (Below.refl w.heap.size w).alloc (Nat.le_refl _) (.cells #[.int .i64 d.root, .int .i64 d.next, s] 31)
  have HA : Hid (Calls Try.prog 18 #[.agg #[.int .i64 d.root, .int .i64 d.next, s], .int .i64 id] (w.alloc (.cells #[.int .i64 d.root, .int .i64 d.next, s] 31)) (AtPost (w.alloc (.cells #[.int .i64 d.root, .int .i64 d.next, s] 31)) d id)) :=
    branchAt_any n₀ d s id _ (hN.below (Nat.le_refl _) (hW.mono hn)) (by simp; omega) hl hwf
  have HC := hide hc
  have HK := hide hks
  obtain ⟨a, cap, rfl, -⟩ := hN
  clear hc hks hwf
  go_enter Try.func7, Try.ntmps7
  go_wp2_with fail
  refine HA.out.mono ?_
  rintro e w1 (⟨rfl, hno, hb1⟩ | ⟨rfl, ⟨hg, hin⟩, hb1⟩ | ⟨tb, ad, up, kv, rfl, ⟨hg, hin⟩, hgr, hb1⟩)
  · simp only [World.size_alloc] at hb1
    have h1 : Hid (c = 1) := HC.out.trans (askOf_bad hno)
    have h2 : Hid (ks = []) := HK.out.trans (kidsAns_no (by rw [← HC.out, h1.out]; decide))
    clear hno
    go_wp2_with fail
    go_ret2
    exact ⟨.slice none 0 0, ret_vc h1.out.symm, by rw [h2.out]; exact World.ownsRow_nil _ _ _ _, hW.trans (hb1.mono (by omega))⟩
  · simp only [World.size_alloc] at hb1
    have h1 : Hid (c = 5) := HC.out.trans (askOf_none hg hin)
    have h2 : Hid (ks = []) := HK.out.trans (kidsAns_no (by rw [← HC.out, h1.out]; decide))
    clear hg hin
    go_wp2_with fail
    go_ret2
    exact ⟨.slice none 0 0, ret_vc h1.out.symm, by rw [h2.out]; exact World.ownsRow_nil _ _ _ _, hW.trans (hb1.mono (by omega))⟩
  · simp only [World.size_alloc] at hb1
    have hs1 := hb1.size
    simp only [World.size_alloc] at hs1
    have h1 : Hid (c = 0) := HC.out.trans (askOf_ok hg hin)
    have h2 : Hid (ks = kindsFor d.nodes (kidsAt d.nodes id)) := HK.out.trans (kidsAns_ok (by rw [← HC.out, h1.out]))
    have hT := hgr.tree hg
    have h12 := hg.kidsLen id
    have HSub : Hid (∀ k ∈ kidsAt d.nodes id, k ∈ idsOf d.nodes) := fun k hk => hg.there k (kidsAt_all hk)
    obtain ⟨x, hx, rfl⟩ := node_of hin
    obtain ⟨pv, c5, hP⟩ := (hT x hx).ptrs
    rw [← kidsAt_of hg.rise hx] at hP
    have HKi : Hid (Calls Try.prog 19 #[pv] w1 (IdsPost w1 ks)) := by
      rw [h2.out]
      exact kindsOf_any d.nodes ad up w1.heap.size _ HSub.out pv w1 hg.rise hT hP (Nat.le_refl _) (by omega)
    obtain ⟨gp, cp, rfl, -⟩ := hP
    clear hg hin hgr hT hx HSub
    go_wp2_with fail
    refine HKi.out.mono ?_
    rintro e w2 ⟨v2, rfl, hrow2, hb2⟩
    have HRow := hide hrow2
    obtain ⟨ar2, cr2, rfl⟩ := row_shape hrow2
    clear hrow2
    go_wp2_with fail
    go_ret2
    exact ⟨_, ret_vc h1.out.symm, ownsRow_base HRow.out (by omega), hW.trans ((hb1.trans (hb2.mono (by omega))).mono (by omega))⟩
end Go.Proofs.Ytpmilcddoohlgaa
