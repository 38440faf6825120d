/-
  What may be inserted: the program's search for a place, and its list of kinds.
  What may be inserted: what the program answers.
  MayInsert: what the program answers.
  The law on MayInsert answers true at every list of rules, document and number that a program can hold.
-/
import Derived.Test.YtpkblnponeonkaaDoorJoinH
import Derived.Test.YtpkblnponeonkaaDoorMatchTopJ
import Derived.Test.YtpkblnponeonkaaDoorMaySpecJ
import Derived.Test.YtpkblnponeonkaaDoorJoinE
import Derived.Test.YtpkblnponeonkaaDoorJoinF
import Derived.Deep.RegionHeld3
namespace Go.Proofs.YtpkblnponeonkaaDoor
open Go.RowKit Go.Shelf

set_option maxHeartbeats 1000000 in
/-- slices.Clone of a list of numbers. -/
theorem cloneInts_any (n₀ : Nat) (v : Value) (ks : List Int) (w : World) (h : IntsAt n₀ w v ks) (hl : ks.length ≤ 1048576) :
    Calls Tryd.prog 114 #[v] w fun e w' => ∃ v', e = .returned v' ∧ w'.ownsRow w.heap.size 3 1 v' ks.length (ks.map (Value.int .i64)) ∧ Below w.heap.size w w' := by
  obtain ⟨a, cap, rfl, hk⟩ := h
  cases ks with
  | nil =>
    cases a with
    | none =>
      refine (Any.slices_Clone_int_nil Tryd.laysNm215 0 cap w).mono ?_
      rintro e w' ⟨rfl, hw⟩
      have hw2 := hw.symm
      subst hw2
      exact ⟨_, rfl, World.ownsRow_nil _ _ _ _, Below.refl _ _⟩
    | some a =>
      refine (Any.slices_Clone_int_zero Tryd.laysNm215 a cap w).mono ?_
      rintro e w' ⟨v', rfl, hr, -, hb⟩
      exact ⟨v', rfl, hr, hb⟩
  | cons k r =>
    obtain ⟨b, off, rfl, hb, hc⟩ := hk.resolve_left (by simp)
    refine (Any.slices_Clone_int Tryd.laysNm215 b off (k :: r).length cap (k :: r) w (Nat.le_refl _) (by omega) (fun j hj => by rw [hc j hj]; rw [List.getD_eq_getElem?_getD])).mono ?_
    rintro e w' ⟨v', rfl, hr, -, hb⟩
    rw [List.take_length] at hr
    exact ⟨v', rfl, hr, hb⟩

theorem own_ne {w : World} {B : Nat} {e : TypeId} {v : Value} {n : Nat} {xs : List Value} (h : w.ownsRow B e 1 v n xs) : v.ownBlock ≠ some w.heap.size := fun he => by
  have := (h.lt _ he).2
  omega

set_option maxHeartbeats 4000000 in
set_option maxRecDepth 100000 in
theorem fitsSomewhere_any (n₀ : Nat) (tv kv : Value) (ts : List PTerm) (ks : List Int) (x : Int) (w : World) (hT : TermsAt n₀ w tv ts) (hK : IntsAt n₀ w kv ks) (hn : n₀ ≤ w.heap.size) (hP : TermsP 8 ts) (hkk : ∀ t ∈ ts, t.kinds.length ≤ 1048576) (hkl : ks.length ≤ 11) (hA : AmtAt w) (r : Bool) (hr : r = fitsTo ts ks x (ks.length + 1)) :
    Calls Tryd.prog 87 #[tv, kv, .int .i64 x] w fun e w' => e = .returned (.bool r) ∧ Below w.heap.size w w' := by
  have HCl : Hid (∀ wx, Below w.heap.size w wx → Calls Tryd.prog 114 #[kv] wx fun e w' => ∃ a c, e = .returned (.slice a ks.length c) ∧ Hid (w'.ownsRow w.heap.size 3 1 (.slice a ks.length c) ks.length (ks.map (Value.int .i64))) ∧ Below w.heap.size w w') := fun wx hb =>
    (cloneInts_any n₀ kv ks wx (hK.below (Nat.le_refl _) (hb.mono hn)) (by omega)).mono fun e w' ⟨v', he, hrow, hb'⟩ => by
      obtain ⟨a, c, rfl⟩ := row_shape hrow
      exact ⟨a, c, he, ownsRow_base hrow hb.size, hb.trans (hb'.mono hb.size)⟩
  have HIn : Hid (∀ (k : Nat) a c wx, k ≤ ks.length → Below w.heap.size w wx → Hid (wx.ownsRow w.heap.size 3 1 (.slice a ks.length c) ks.length (ks.map (Value.int .i64))) → Calls Tryd.prog 113 #[.slice a ks.length c, .int .i64 (k : Int), .slice (some ⟨wx.heap.size, 0, none⟩) 1 1] (wx.alloc (.cells #[.int .i64 x] 3)) fun e w' => ∃ a' c', e = .returned (.slice a' (ks.length + 1) c') ∧ Hid (IntsAt w'.heap.size w' (.slice a' (ks.length + 1) c') (insAt ks k x) ∧ Roomy (.slice a' (ks.length + 1) c') (insAt ks k x).length) ∧ Below w.heap.size w w') := fun k a c wx hk hb hrow =>
    (insInt_any w.heap.size wx.heap.size k _ ks x _ (hrow.out.alloc _) (alloc_new _ _) (own_ne hrow.out) hk (by omega) (by have := hb.size; simp; omega)).mono fun e w' ⟨v', he, hI, hb'⟩ => by
      have hform := hI.1
      obtain ⟨a', c', rfl, -⟩ := hform
      rw [insAt_len ks k x hk] at he hI
      exact ⟨a', c', he, ⟨hI.1, by rw [insAt_len ks k x hk]; exact hI.2⟩, (hb.alloc hb.size _).trans hb'⟩
  have HM : Hid (∀ (k : Nat) a c wx m, k ≤ ks.length → (m = true ↔ MatchP ts (insAt ks k x)) → Below w.heap.size w wx → Hid (IntsAt wx.heap.size wx (.slice a (ks.length + 1) c) (insAt ks k x) ∧ Roomy (.slice a (ks.length + 1) c) (insAt ks k x).length) → Calls Tryd.prog 112 #[tv, .slice a (ks.length + 1) c] wx fun e w' => e = .returned (.bool m) ∧ Below w.heap.size w w') := fun k a c wx m hk hm hb hI =>
    (matchKids_any wx.heap.size tv _ ts (insAt ks k x) wx (hT.below (Nat.le_trans hn hb.size) (hb.mono hn)) hI.out.1 hI.out.2 (Nat.le_refl _) hP hkk (by rw [insAt_len ks k x hk]; omega) (hA.below hb) m hm).mono fun e w' ⟨he, hb'⟩ => ⟨he, hb.trans (hb'.mono hb.size)⟩
  have HR := hide hr
  obtain ⟨at_, ct, rfl, -⟩ := hT
  obtain ⟨ak, ck, rfl, -⟩ := hK
  clear hP hkk hA hr
  go_enter Tryd.func87, Tryd.ntmps87
  go_wp2_with fail
  go_loopw [11] (fun i wr => ∃ k : Nat, k ≤ ks.length + 1 ∧ i = .int .i64 k ∧ Hid (fitsTo ts ks x k = false) ∧ Below w.heap.size w wr) (fun i _ => ks.length + 1 - (intOf i).toNat)
  case atStart => exact ⟨0, Nat.zero_le _, rfl, fitsTo_zero ts ks x, Below.refl _ _⟩
  case round =>
    obtain ⟨k, hk1, rfl, hno, hbr⟩ := hrel
    by_cases hlt : k < ks.length + 1
    · obtain ⟨m, hm⟩ : ∃ m : Bool, m = true ↔ MatchP ts (insAt ks k x) := ⟨dec _, dec_iff _⟩
      have hkn : k ≤ ks.length := by omega
      have HF : Hid (fitsTo ts ks x (k + 1) = m) := by rw [Hid, fitsTo_succ hm, hno.out, Bool.false_or]
      have HMm := hide hm
      have hlt1 : (k : Int) < (ks.length : Int) + 1 := by omega
      clear hm hno
      go_wp2_with (first
        | (go_at_call 114; refine (HCl.out _ hbr).mono ?_; rintro e w1 ⟨a1, c1, rfl, hrow, hb1⟩)
        | (go_at_call 113; refine (HIn.out k _ _ _ hkn hb1 hrow).mono ?_; rintro e w2 ⟨a2, c2, rfl, hI2, hb2⟩)
        | (go_at_call 112; refine (HM.out k _ _ _ m hkn HMm.out hb2 hI2).mono ?_; rintro e w3 ⟨rfl, hb3⟩))
      · have HT : Hid (r = true) := by
          rw [Hid, HR.out, fitsTo_iff]
          exact ⟨k, hlt, HMm.out.1 (by first | rfl | assumption)⟩
        go_ret
        exact ⟨by rw [HT.out]; rfl, hb3⟩
      · refine ⟨⟨k + 1, by omega, by go_num, ?_, hb3⟩, by simp [intOf]; omega⟩
        have := HF.out
        first | exact this | simp_all [Hid]
    · obtain rfl : k = ks.length + 1 := by omega
      have HT : Hid (r = false) := HR.out.trans hno.out
      clear hno
      go_wp2_with fail
      go_ret
      exact ⟨by rw [HT.out]; rfl, hbr⟩
end Go.Proofs.YtpkblnponeonkaaDoor

namespace Go.Proofs.YtpkblnponeonkaaDoor
open Go.RowKit Go.Shelf

set_option maxHeartbeats 4000000 in
set_option maxRecDepth 100000 in
theorem mayInsert_any (l : List PNode) (ad : Int → Nat) (up : Int → Option Int) (x : PNode) (hx : x ∈ l) (n₀ : Nat) (R : List PRule) (v : Value) (w : World) (hr : (idsOf l).Pairwise (· < ·)) (hks : ∀ k ∈ x.kids, k ∈ idsOf l) (hT : TreeAt w.heap.size w l ad up) (h12 : x.kids.length ≤ 12) (h1 : 1 ≤ x.kind) (hle : x.kind ≤ R.length)
    (hV : RulesAt n₀ w v R) (hn : n₀ ≤ w.heap.size) (hP : SchemaP R) (hS : SmallRules R) (hA : AmtAt w) (ks : List Int) (hk : ks = mayIn R l x) :
    Calls Tryd.prog 53 #[.pointer (some ⟨ad x.id, 0, none⟩), v] w (IdsPost w ks) := by
  obtain ⟨i0, hi, hz0, hz1, hz2⟩ := info_parts specInfoInt
  have hB := hT x hx
  have c1 := hB.c1
  have hlt := hB.lt
  have hfew := hP.few
  obtain ⟨pv, c5, hPt⟩ := hB.ptrs
  obtain ⟨a, cap, rfl, hV'⟩ := hV
  obtain ⟨m, hm⟩ : ∃ m : Nat, x.kind = (m : Int) + 1 := ⟨(x.kind - 1).toNat, by omega⟩
  have hmR : m < R.length := by omega
  have hmi : (m : Int) < (R.length : Int) := by omega
  obtain ⟨b, off, rfl, hb, hcc⟩ := hV'.resolve_left (by intro e; simp [e] at hmR)
  have hAt := hcc m hmR
  have r0 := hAt.c0
  have r1 := hAt.c1
  obtain ⟨tv, r2, hTv⟩ := hAt.c2
  have hTerms := hTv
  obtain ⟨ta, tc, rfl, -⟩ := hTv
  have hbw : b < w.heap.size := by omega
  have hwr : IntKind.i64.wrap ((m : Int) + 1 - 1) = (m : Int) := by rw [IntKind.wrap_i64]; omega
  have HKi : Hid (∀ wx, Below w.heap.size w wx → Calls Tryd.prog 86 #[pv] wx (IdsPost wx (kindsFor l x.kids))) := fun wx hbx =>
    kindsOf_any l ad up wx.heap.size x.kids hks pv wx hr (hT.below hbx.size hbx) (hPt.below hbx.size hbx) (Nat.le_refl _) (by omega)
  have hkl : (kindsFor l x.kids).length = x.kids.length := kindsFor_len _ _
  have HN := hide (fun h => @mayIn_none' R l x m hm h)
  have HY := hide (fun h h' => @mayIn_some' R l x m hm h h')
  have HF : Hid (∀ (kv : Value) (y : Int) (wx : World) (r : Bool), x.kids.length ≤ 11 → Below w.heap.size w wx → IntsAt wx.heap.size wx kv (kindsFor l x.kids) → r = fitsTo (R[m]?.getD ruleNil).terms (kindsFor l x.kids) y ((kindsFor l x.kids).length + 1) → Calls Tryd.prog 87 #[.slice ta (R[m]?.getD ruleNil).terms.length tc, kv, .int .i64 y] wx fun e w' => e = .returned (.bool r) ∧ Below wx.heap.size wx w') := fun kv y wx r h11 hbx hI hr' =>
    fitsSomewhere_any wx.heap.size _ kv _ _ y wx (hTerms.below (Nat.le_trans hn hbx.size) (hbx.mono hn)) hI (Nat.le_refl _) ((hP.rule' hmR).terms.eight (by omega)) (hS.rule' hmR).terms.kinds (by omega) (hA.below hbx) r hr'
  have HKs := hide hk
  have HTt : Hid (∀ n, mayTo (R[m]?.getD ruleNil).terms (kindsFor l x.kids) (n + 1) = mayTo (R[m]?.getD ruleNil).terms (kindsFor l x.kids) n ++ if fitsTo (R[m]?.getD ruleNil).terms (kindsFor l x.kids) ((n : Int) + 1) ((kindsFor l x.kids).length + 1) = true then [(n : Int) + 1] else []) := fun n => rfl
  have HTl := hide (mayTo_len (R[m]?.getD ruleNil).terms (kindsFor l x.kids))
  obtain ⟨gp, cp, rfl, -⟩ := hPt
  rw [hm] at c1
  clear hB hT hks hr hP hS hA hV' hcc hAt hTerms hk hm hle h1
  generalize R[m]?.getD ruleNil = ru at *
  generalize kindsFor l x.kids = kk at *
  obtain ⟨W1, hW1e⟩ : ∃ W1, W1 = w.alloc (.cells #[.string ru.name, .bool ru.leaf, .slice ta ru.terms.length tc] 87) := ⟨_, rfl⟩
  have hW : Below w.heap.size w W1 := by rw [hW1e]; exact (Below.refl _ _).alloc (Nat.le_refl _) _
  have hs1 : W1.heap.size = w.heap.size + 1 := by rw [hW1e]; simp
  have hh1 : W1.heap[w.heap.size]? = some (.cells #[.string ru.name, .bool ru.leaf, .slice ta ru.terms.length tc] 87 (0, 0)) := by rw [hW1e]; exact alloc_new w _
  by_cases hno : ru.leaf = true ∨ x.kids.length = 12
  · have HE : Hid (ks = []) := HKs.out.trans (HN.out hno)
    clear HF HKi HY HN HTt HTl HKs hs1 hh1
    rw [hW1e] at hW
    clear hW1e
    cases hlf : ru.leaf
    · have h12' : x.kids.length = 12 := by rcases hno with h | h; rw [hlf] at h; cases h; exact h
      rw [hlf] at r1 hW
      rw [h12'] at c5
      clear hno h12 h12' hkl
      go_enter Tryd.func53, Tryd.ntmps53
      go_wp2_with fail
      go_ret
      refine ⟨_, rfl, ?_, hW⟩
      rw [HE.out]
      exact World.ownsRow_nil _ _ _ _
    · rw [hlf] at r1 hW
      clear hno
      go_enter Tryd.func53, Tryd.ntmps53
      go_wp2_with fail
      go_ret
      refine ⟨_, rfl, ?_, hW⟩
      rw [HE.out]
      exact World.ownsRow_nil _ _ _ _
  · have hlf : ru.leaf = false := by
      cases h : ru.leaf
      · rfl
      · exact absurd (.inl h) hno
    have h11 : x.kids.length ≤ 11 := by
      have : x.kids.length ≠ 12 := fun h => hno (.inr h)
      omega
    have HE : Hid (ks = mayTo ru.terms kk R.length) := HKs.out.trans (HY.out hlf (fun h => hno (.inr h)))
    have hne : ¬ x.kids.length = 12 := fun h => hno (.inr h)
    have hnei : ¬ (x.kids.length : Int) = 12 := by omega
    have HF11 := hide (fun kv y wx r => HF.out kv y wx r h11)
    rw [hlf] at r1
    rw [hlf] at hW1e hh1
    clear HF HN HY HKs hno h12 h11 hlf
    go_enter Tryd.func53, Tryd.ntmps53
    go_wp2_with fail
    rw [← hW1e]
    clear hW1e
    refine (HKi.out _ hW).mono ?_
    rintro e w2 ⟨v2, rfl, hrow2, hb2⟩
    have hs2 := hb2.size
    have HI2 := hide (ints_of_row hrow2)
    obtain ⟨a2, c2, rfl⟩ := row_shape hrow2
    rw [hkl] at HI2
    have hb2' := hW.trans (hb2.mono (by omega))
    have x2 := cell_of_heap ((hb2.block w.heap.size (by omega)).trans hh1) 2
    have hz : w.heap.size < w2.heap.size := by omega
    have x2' : w2.cell? ⟨w.heap.size, 2, none⟩ = some (.slice ta ru.terms.length tc) := by rw [x2]; rfl
    clear x2 hrow2 hh1 HKi c1 c5 r0 r1 r2
    go_wp2_with fail
    go_loopw [7, 34] (fun sv i wr => ∃ k : Nat, k ≤ R.length ∧ i = .int .i64 k ∧ Hid (wr.ownsRow w2.heap.size 3 1 sv (mayTo ru.terms kk k).length ((mayTo ru.terms kk k).map (Value.int .i64))) ∧ Below w2.heap.size w2 wr) (fun _ i _ => R.length - (intOf i).toNat)
    case atStart => exact ⟨0, Nat.zero_le _, rfl, World.ownsRow_nil _ _ _ _, Below.refl _ _⟩
    case round =>
      obtain ⟨k, hk1, rfl, hown, hbr⟩ := hrel
      have hsr := hbr.size
      by_cases hlt : k < R.length
      · obtain ⟨r, hr⟩ : ∃ r, r = fitsTo ru.terms kk ((k : Int) + 1) (kk.length + 1) := ⟨_, rfl⟩
        have HN1 : Hid (mayTo ru.terms kk (k + 1) = mayTo ru.terms kk k ++ if r = true then [(k : Int) + 1] else []) := by rw [Hid, HTt.out, hr]
        have x2r := (hbr.cell (p := ⟨w.heap.size, 2, none⟩) hz).trans x2'
        have HC := hide (HF11.out _ ((k : Int) + 1) wr r (hb2'.trans (hbr.mono (by omega))) (HI2.out.below hsr hbr) hr)
        have hlt1 : (k : Int) < (R.length : Int) := by omega
        have hwk : IntKind.i64.wrap ((k : Int) + 1) = (k : Int) + 1 := by rw [IntKind.wrap_i64]; omega
        have hml := HTl.out k
        have hfew' := hfew
        obtain ⟨ax, cx, rfl⟩ := row_shape hown.out
        clear hr
        generalize mayTo ru.terms kk k = pk at *
        go_wp2_with (first
          | (go_at_call 87; with_reducible refine HC.out.mono ?_; rintro e w3 ⟨rfl, hb3⟩; have hown3 := ownsRow_below hown.out hb3; have hs3 := hb3.size)
          | (at_builtin; refine wpList_append_own _ rfl _ _ 41 rfl w2.heap.size 3 i0 (.int .i64 0) 1 8 Tryd.underlying41 hi hz0 hz1 hz2 rfl (by decide) _ _ _ rfl (hown3.alloc _) ⟨w3.heap.size, 0, none⟩ 1 1 [Value.int .i64 ((k : Int) + 1)] rfl rfl (cell_one_new _ _ _) (one_int _) (by unfold maxLen; omega) (by omega) (by simp; omega) ?_; intro v' w4 hown' hgrow _; have hb4 := ((hbr.trans (hb3.mono hsr)).alloc (by omega) (.cells #[.int .i64 ((k : Int) + 1)] 3)).grown hgrow (by simp; omega) (fun g hg => (hown3.lt g hg).1)))
        · refine ⟨⟨k + 1, by omega, by go_num, ?_, hb4⟩, by simp [intOf]; omega⟩
          have he : mayTo ru.terms kk (k + 1) = pk ++ [(k : Int) + 1] := by rw [HN1.out, if_pos (by first | rfl | assumption)]
          rw [Hid, he]
          simpa using hown'
        · refine ⟨⟨k + 1, by omega, by go_num, ?_, hbr.trans (hb3.mono hsr)⟩, by simp [intOf]; omega⟩
          have he : mayTo ru.terms kk (k + 1) = pk := by rw [HN1.out, if_neg (by simp_all), List.append_nil]
          rw [Hid, he]
          exact hown3
      · obtain rfl : k = R.length := by omega
        have HOwn : Hid (wr.ownsRow w.heap.size 3 1 u7 ks.length (ks.map (Value.int .i64))) := by
          rw [Hid, HE.out]
          exact ownsRow_base hown.out (by omega)
        clear hown HTt HF11 HE
        go_wp2_with fail
        go_ret
        exact ⟨_, rfl, HOwn.out, hb2'.trans (hbr.mono (by omega))⟩
end Go.Proofs.YtpkblnponeonkaaDoor

namespace Go.Proofs.YtpkblnponeonkaaDoor
open Go.RowKit Go.Shelf

set_option maxHeartbeats 1000000 in
set_option maxRecDepth 100000 in
theorem implMayInsert_any (n₀ : Nat) (v : Value) (R : List PRule) (d : PDoc) (s : Value) (id : Int) (w : World) (hV : RulesAt n₀ w v R) (hroom : Roomy v R.length) (hR : SmallRules R) (hN : NodesAt n₀ w s d.nodes) (hn : n₀ ≤ w.heap.size) (hl : d.nodes.length ≤ 1048576) (hwf : WfDoc d) (hA : AmtAt w) (c : Int) (ks : List Int) (hc : c = mayCode R d id) (hks : ks = mayAns R d id) :
    Calls Tryd.prog 21 #[v, .agg #[.int .i64 d.root, .int .i64 d.next, s], .int .i64 id] w (ListPost w ks c) := by
  have hW := (Below.refl w.heap.size w).alloc (Nat.le_refl _) (.cells #[.int .i64 d.root, .int .i64 d.next, s] 48)
  have HU := hide (branchUnder_any n₀ v R d s id (w.alloc (.cells #[.int .i64 d.root, .int .i64 d.next, s] 48)) (hV.below (Nat.le_refl _) (hW.mono hn)) hroom hR (hN.below (Nat.le_refl _) (hW.mono hn)) (by simp; omega) hl hwf)
  have HC := hide hc
  have HK := hide hks
  have HV := hide hV
  have HAm := hide hA
  have HRs := hide hR
  obtain ⟨a, cap, rfl, -⟩ := hN
  obtain ⟨ra, rc, rfl, -⟩ := hV
  clear hc hks hwf hA hR
  go_enter Tryd.func21, Tryd.ntmps21
  go_wp2_with fail
  refine HU.out.mono ?_
  rintro e w1 (⟨c1, rfl, hx, h00, hb1⟩ | ⟨tb, ad, up, kv, rfl, hx, hgr, hb1⟩)
  · simp only [World.size_alloc] at hb1
    have HX : Hid (c1 = c) := by rw [Hid, HC.out, mayCode_no (by rw [← hx.out.2]; exact hx.out.1)]; exact hx.out.2
    have HE : Hid (ks = []) := HK.out.trans (mayAns_no (by rw [← HC.out, ← HX.out]; exact hx.out.1))
    clear hx
    go_wp2_with fail
    go_ret2
    exact ⟨.slice none 0 0, ret_vc HX.out, by rw [HE.out]; exact World.ownsRow_nil _ _ _ _, hW.trans (hb1.mono (by omega))⟩
  · simp only [World.size_alloc] at hb1
    have hs1 := hb1.size
    simp only [World.size_alloc] at hs1
    obtain ⟨hS, hg, hin⟩ := hx.out
    have HX : Hid (c = if (R.length : Int) < (nodeOf d.nodes id).kind then 10 else 0) := HC.out.trans (mayCode_ok (underOf_ok hS hg hin))
    obtain ⟨x, hxm, rfl⟩ := node_of hin
    rw [nodeOf_of hg.rise hxm] at HX
    have hw1 := hW.trans (hb1.mono (by omega))
    have hfine := hg.fine x hxm
    have hT := hgr.tree hg
    have c1 := (hT x hxm).c1
    have hadl := (hT x hxm).lt
    by_cases hk : (R.length : Int) < x.kind
    · have H10 : Hid (c = 10) := by rw [Hid, HX.out, if_pos hk]
      have HE : Hid (ks = []) := HK.out.trans (mayAns_no (by rw [← HC.out, H10.out]; decide))
      clear hx hS hg hin hgr hxm hfine HU hT
      go_wp2_with fail
      go_ret2
      exact ⟨.slice none 0 0, ret_vc H10.out.symm, by rw [HE.out]; exact World.ownsRow_nil _ _ _ _, hw1⟩
    · have H0 : Hid (c = 0) := by rw [Hid, HX.out, if_neg hk]
      have HE : Hid (ks = mayIn R d.nodes x) := by
        rw [Hid, HK.out, mayAns_ok (by rw [← HC.out, H0.out]), nodeOf_of hg.rise hxm]
      have HM : Hid (Calls Tryd.prog 53 #[.pointer (some ⟨ad x.id, 0, none⟩), .slice ra R.length rc] w1 (IdsPost w1 ks)) :=
        mayInsert_any d.nodes ad up x hxm n₀ R _ w1 hg.rise (fun k hk => hg.there k (List.mem_flatMap.2 ⟨x, hxm, hk⟩)) hT hfine.2.2.2.2.2.2.2 hfine.2.2.1 (by omega) (HV.out.below (Nat.le_refl _) (hw1.mono hn)) (by omega) hS HRs.out (HAm.out.below hw1) ks HE.out
      clear hx hS hg hin hgr hxm hfine HU hT HX
      go_wp2_with fail
      refine HM.out.mono ?_
      rintro e w2 ⟨v2, rfl, hrow2, hb2⟩
      have HRow := hide hrow2
      obtain ⟨ar2, cr2, rfl⟩ := row_shape hrow2
      clear hrow2
      go_wp2_with fail
      go_ret2
      exact ⟨_, ret_vc H0.out.symm, ownsRow_base HRow.out (by omega), hw1.trans (hb2.mono (by omega))⟩
end Go.Proofs.YtpkblnponeonkaaDoor

namespace Go.Proofs.YtpkblnponeonkaaDoor
open Go.RowKit

theorem DocOwn.keep {lo hi : Nat} {w w' : World} {v : Value} {d : PDoc} (h : DocOwn lo hi w v d) (hb : ∀ b, lo ≤ b → b < hi → w'.heap[b]? = w.heap[b]?) : DocOwn lo hi w' v d := by
  obtain ⟨s, rfl, h⟩ := h
  exact ⟨s, rfl, h.heap (Nat.le_refl _) (Nat.le_refl _) hb⟩

set_option maxHeartbeats 8000000 in
set_option maxRecDepth 100000 in
theorem mayInsertLaw (n₀ : Nat) (v dv : Value) (R : List PRule) (d : PDoc) (id : Int) (w : World) (h : RulesAt n₀ w v R) (hd : DocAt n₀ w dv d) (hn : n₀ ≤ w.heap.size) (hf : FitsRules R) (hfd : Fits d) (hwf : WfDoc d) (hA : AmtAt w) :
    Calls Tryd.prog 6 #[v, dv, .int .i64 id] w fun e w' => e = .returned (.bool true) ∧ Below w.heap.size w w' := by
  have HD := hide h
  have HDd := hide hd
  have HWf := hide hwf
  have HAm := hide hA
  obtain ⟨a, cap, rfl, -⟩ := h
  obtain ⟨sa, sc, rfl, -⟩ := hd.form
  obtain ⟨W0, hW0⟩ : ∃ W0, W0 = w.alloc (.cells #[.int .i64 d.root, .int .i64 d.next, .slice sa d.nodes.length sc] 38) := ⟨_, rfl⟩
  have hs0 : W0.heap.size = w.heap.size + 1 := by rw [hW0]; simp
  have hw0 : Below w.heap.size w W0 := by rw [hW0]; exact (Below.refl w.heap.size w).alloc (Nat.le_refl _) _
  have hh0 : W0.heap[w.heap.size]? = some (.cells #[.int .i64 d.root, .int .i64 d.next, .slice sa d.nodes.length sc] 38 (0, 0)) := by rw [hW0]; exact alloc_new w _
  have HOld : Hid (∀ wx, Below (w.heap.size + 1) W0 wx → Below w.heap.size w wx ∧ w.heap.size + 1 ≤ wx.heap.size) := fun wx hb => ⟨hw0.trans (hb.mono (by omega)), by have := hb.size; omega⟩
  have HB : Hid (∀ wx, Below (w.heap.size + 1) W0 wx → wx.cell? ⟨w.heap.size, 0, none⟩ = some (.int .i64 d.root) ∧ wx.cell? ⟨w.heap.size, 1, none⟩ = some (.int .i64 d.next) ∧ wx.cell? ⟨w.heap.size, 2, none⟩ = some (.slice sa d.nodes.length sc)) := fun wx hb => by
    have j1 := (hb.block w.heap.size (by omega)).trans hh0
    exact ⟨cell_of_heap j1 0, cell_of_heap j1 1, cell_of_heap j1 2⟩
  have HSz : Hid (∀ wx, Below (w.heap.size + 1) W0 wx → Calls Tryd.prog 16 #[.slice a R.length cap, .int .i64 1048576] wx fun e w' => ∃ r, e = .returned (.int .i64 r) ∧ -1 ≤ r ∧ r ≤ 1048576 ∧ Hid (0 ≤ r → SmallRules R) ∧ Below (w.heap.size + 1) W0 w') := fun wx hb =>
    (szRules_any n₀ _ R 1048576 wx (HD.out.below (Nat.le_refl _) ((HOld.out wx hb).1.mono hn)) (by have := (HOld.out wx hb).2; omega) (by omega) (by omega) hf).mono fun e w' ⟨r, he, h1, h2, h3, hb'⟩ => ⟨r, he, h1, h2, h3, hb.trans (hb'.mono (HOld.out wx hb).2)⟩
  have HSzD : Hid (∀ wx q, 0 ≤ q → q ≤ 1048576 → Below (w.heap.size + 1) W0 wx → Calls Tryd.prog 17 #[.agg #[.int .i64 d.root, .int .i64 d.next, .slice sa d.nodes.length sc], .int .i64 q] wx fun e w' => ∃ r, e = .returned (.int .i64 r) ∧ -1 ≤ r ∧ r ≤ q ∧ Hid (0 ≤ r → Small d) ∧ Below (w.heap.size + 1) W0 w') := fun wx q hq0 hq1 hb =>
    (szDoc_any n₀ _ d q wx (HDd.out.below (Nat.le_refl _) ((HOld.out wx hb).1.mono hn)) (by have := (HOld.out wx hb).2; omega) hq0 hq1 hfd).mono fun e w' ⟨r, he, h1, h2, h3, hb'⟩ => ⟨r, he, h1, h2, h3, hb.trans (hb'.mono (HOld.out wx hb).2)⟩
  obtain ⟨c, hc⟩ : ∃ c, c = mayCode R d id := ⟨_, rfl⟩
  obtain ⟨ks, hks⟩ : ∃ ks, ks = mayAns R d id := ⟨_, rfl⟩
  have HC := hide hc
  have HKs := hide hks
  have hb00 : Below (w.heap.size + 1) W0 W0 := Below.refl _ _
  clear hf hfd hwf hA hd hc hks hh0 hs0 hw0
  go_enter Tryd.func6, Tryd.ntmps6
  go_wp2_with fail
  rw [← hW0]
  clear hW0
  refine (HSz.out _ hb00).mono ?_
  rintro e w1 ⟨q, rfl, hq1, hq2, hq3, hb1⟩
  by_cases hq : q < 0
  · go_wp2_with fail
    go_ret
    exact ⟨rfl, (HOld.out _ hb1).1⟩
  have HS := hide (hq3.out (by omega))
  obtain ⟨x0, x1, x2⟩ := HB.out _ hb1
  have hz1 : w.heap.size < w1.heap.size := (HOld.out _ hb1).2
  clear hq3 HSz hb00
  go_wp2_with fail
  refine (HSzD.out _ q (by omega) hq2 hb1).mono ?_
  rintro e w2 ⟨q', rfl, hq1', hq2', hq3', hb2⟩
  clear x0 x1 x2
  by_cases hq' : q' < 0
  · go_wp2_with fail
    go_ret
    exact ⟨rfl, (HOld.out _ hb2).1⟩
  have HSd := hide (hq3'.out (by omega))
  clear hq3' HSzD hb1 hz1
  have HTo : Hid (∀ wx, Below (w.heap.size + 1) W0 wx → Calls Tryd.prog 19 #[.slice a R.length cap] wx fun e w' => ∃ ua uc, e = .returned (.slice ua R.length uc) ∧ Hid (RulesOwn wx.heap.size w'.heap.size w' (.slice ua R.length uc) R) ∧ Below (w.heap.size + 1) W0 w' ∧ Below wx.heap.size wx w') := fun wx hb =>
    (toRules_any n₀ _ R wx (HD.out.below (Nat.le_refl _) ((HOld.out wx hb).1.mono hn)) (by have := (HOld.out wx hb).2; omega) HS.out).mono fun e w' ⟨u, he, ho, hb', _⟩ => by
      obtain ⟨ua, uc, rfl, -⟩ := ho.at.form
      exact ⟨ua, uc, he, ho, hb.trans (hb'.mono (HOld.out wx hb).2), hb'⟩
  have HToD : Hid (∀ wx, Below (w.heap.size + 1) W0 wx → Calls Tryd.prog 20 #[.agg #[.int .i64 d.root, .int .i64 d.next, .slice sa d.nodes.length sc]] wx fun e w' => ∃ ua uc, e = .returned (.agg #[.int .i64 d.root, .int .i64 d.next, .slice ua d.nodes.length uc]) ∧ Hid (DocOwn wx.heap.size w'.heap.size w' (.agg #[.int .i64 d.root, .int .i64 d.next, .slice ua d.nodes.length uc]) d) ∧ Below (w.heap.size + 1) W0 w' ∧ Below wx.heap.size wx w') := fun wx hb =>
    (toDoc_any n₀ _ d wx (HDd.out.below (Nat.le_refl _) ((HOld.out wx hb).1.mono hn)) (by have := (HOld.out wx hb).2; omega) HSd.out).mono fun e w' ⟨u, he, ho, hb'⟩ => by
      obtain ⟨ua, uc, rfl, -⟩ := ho.at.form
      exact ⟨ua, uc, he, ho, hb.trans (hb'.mono (HOld.out wx hb).2), hb'⟩
  have HSp : Hid (∀ wx va vc ua uc lo hi lo' hi', Hid (RulesOwn lo hi wx (.slice va R.length vc) R) → hi ≤ wx.heap.size → Hid (DocOwn lo' hi' wx (.agg #[.int .i64 d.root, .int .i64 d.next, .slice ua d.nodes.length uc]) d) → hi' ≤ wx.heap.size → Below (w.heap.size + 1) W0 wx → Calls Tryd.prog 18 #[.slice va R.length vc, .agg #[.int .i64 d.root, .int .i64 d.next, .slice ua d.nodes.length uc], .int .i64 id] wx fun e w' => ∃ a q, e = .returned (.tuple #[.slice a ks.length q, .int .i64 c]) ∧ Hid (ListIn wx.heap.size w'.heap.size w' (.slice a ks.length q) ks) ∧ Below (w.heap.size + 1) W0 w' ∧ Below wx.heap.size wx w') := fun wx va vc ua uc lo hi lo' hi' ho hh ho' hh' hb => by
    obtain ⟨s, e1, hN⟩ := ho'.out.at
    simp only [Value.agg.injEq, Array.mk.injEq, List.cons.injEq, and_true, true_and] at e1
    subst e1
    exact (specMayInsert_any wx.heap.size _ R d _ id wx (ho.out.at.below hh (Below.refl _ _)) (ho.out.rooms.below ho.out.at (Below.refl _ _)) HS.out (hN.below hh' (Below.refl _ _)) (Nat.le_refl _) HSd.out.len HSd.out.kids c ks HC.out HKs.out).mono fun e w' ⟨v', he, hrow, hb'⟩ => by
      have hL := ListIn.of_row hrow
      obtain ⟨a', q', rfl⟩ := row_shape hrow
      exact ⟨a', q', he, hL, hb.trans (hb'.mono (HOld.out wx hb).2), hb'⟩
  have HIm : Hid (∀ wx va vc ua uc lo hi lo' hi', Hid (RulesOwn lo hi wx (.slice va R.length vc) R) → hi ≤ wx.heap.size → Hid (DocOwn lo' hi' wx (.agg #[.int .i64 d.root, .int .i64 d.next, .slice ua d.nodes.length uc]) d) → hi' ≤ wx.heap.size → Below (w.heap.size + 1) W0 wx → Calls Tryd.prog 21 #[.slice va R.length vc, .agg #[.int .i64 d.root, .int .i64 d.next, .slice ua d.nodes.length uc], .int .i64 id] wx fun e w' => ∃ a q, e = .returned (.tuple #[.slice a ks.length q, .int .i64 c]) ∧ Hid (ListIn wx.heap.size w'.heap.size w' (.slice a ks.length q) ks) ∧ Below (w.heap.size + 1) W0 w' ∧ Below wx.heap.size wx w') := fun wx va vc ua uc lo hi lo' hi' ho hh ho' hh' hb => by
    obtain ⟨s, e1, hN⟩ := ho'.out.at
    simp only [Value.agg.injEq, Array.mk.injEq, List.cons.injEq, and_true, true_and] at e1
    subst e1
    exact (implMayInsert_any wx.heap.size _ R d _ id wx (ho.out.at.below hh (Below.refl _ _)) ho.out.room HS.out (hN.below hh' (Below.refl _ _)) (Nat.le_refl _) HSd.out.len HWf.out (HAm.out.below (HOld.out wx hb).1) c ks HC.out HKs.out).mono fun e w' ⟨v', he, hrow, hb'⟩ => by
      have hL := ListIn.of_row hrow
      obtain ⟨a', q', rfl⟩ := row_shape hrow
      exact ⟨a', q', he, hL, hb.trans (hb'.mono (HOld.out wx hb).2), hb'⟩
  have hkl : ks.length ≤ 1048576 := by rw [HKs.out]; exact mayAns_len HS.out d id
  have hb2d := hb2.drew
  have HS3 : Hid (∀ wx, Below (w.heap.size + 1) W0 wx → wx.cell? ⟨w.heap.size, 0, none⟩ = some (.int .i64 d.root) ∧ wx.cell? ⟨w.heap.size, 1, none⟩ = some (.int .i64 d.next) ∧ wx.cell? ⟨w.heap.size, 2, none⟩ = some (.slice sa d.nodes.length sc)) := HB
  go_wp2_with fail
  go_cut [8, 9] (fun v8 v9 wc => ∃ a3 c3 lo, v8 = .slice a3 ks.length c3 ∧ v9 = .int .i64 c ∧ Hid (ListIn lo wc.heap.size wc (.slice a3 ks.length c3) ks) ∧ Below (w.heap.size + 1) W0 wc)
  case first =>
    go_region_held3 (fun wx => wx.cell? ⟨w.heap.size, 0, none⟩ = some (.int .i64 d.root) ∧ wx.cell? ⟨w.heap.size, 1, none⟩ = some (.int .i64 d.next) ∧ wx.cell? ⟨w.heap.size, 2, none⟩ = some (.slice sa d.nodes.length sc)) (first | exact HS3.out _ (by assumption) | go_keep)
      (first
        | (go_at_call 19; refine (HTo.out _ (by assumption)).mono ?_; rintro e wa ⟨aa, ca, rfl, hoa, hba, hca⟩)
        | (go_at_call 20; refine (HToD.out _ (by assumption)).mono ?_; rintro e wb ⟨ab, cb, rfl, hob, hbb, hcb⟩; have hoa' := hide (hoa.out.below hcb); have hsb := hcb.size)
        | (go_at_call 18; refine (HSp.out _ _ _ _ _ _ _ _ _ hoa' hsb hob (Nat.le_refl _) (by assumption)).mono ?_; rintro e wc ⟨a3, c3, rfl, hl3, hbc, hcc⟩))
    all_goals
      go_wp2_with fail
      go_meet
      exact ⟨_, _, _, rfl, rfl, hl3, hbc⟩
  case rest =>
    obtain ⟨ws, rfl⟩ : ∃ x, x = wc := ⟨_, rfl⟩
    obtain ⟨a3, c3, lo3, rfl, rfl, HL3, hbc⟩ := hcut
    clear hb2d hb2 HSp
    go_wp2_with fail
    refine (HTo.out _ hbc).mono ?_
    rintro e w4 ⟨a4, c4, rfl, ho4, hb4, hc4⟩
    have hz4' := hc4.size
    obtain ⟨x0, x1, x2⟩ := HB.out _ hb4
    have hz4 : w.heap.size < w4.heap.size := (HOld.out _ hb4).2
    go_wp2_with fail
    refine (HToD.out _ hb4).mono ?_
    rintro e w5 ⟨a5, c5, rfl, ho5, hb5, hc5⟩
    have hz5 := hc5.size
    have hl5 := hb5.alloc (HOld.out _ hb5).2 (.cells #[.int .i64 d.root, .int .i64 d.next, .slice a5 d.nodes.length c5] 48)
    have hl5' := (Below.refl w5.heap.size w5).alloc (Nat.le_refl _) (.cells #[.int .i64 d.root, .int .i64 d.next, .slice a5 d.nodes.length c5] 48)
    have HO4 := hide ((ho4.out.below hc5).below (hl5'.mono hz5))
    have HO5 := hide (ho5.out.below hl5')
    have HIm5 := hide (HIm.out _ _ _ _ _ _ _ _ _ HO4 (by simp; omega) HO5 (by simp) hl5)
    clear x0 x1 x2 ho4 ho5
    go_wp2_with fail
    refine HIm5.out.mono ?_
    rintro e w6 ⟨a6, c6, rfl, hL6, hb6, hc6⟩
    have hz6 := hc6.size
    simp only [World.size_alloc] at hc6 hz6 hL6
    have h56 : Below w5.heap.size w5 w6 := hl5'.trans (hc6.mono (by omega))
    have h36 : Below ws.heap.size ws w6 := hc4.trans ((hc5.mono (by omega)).trans (h56.mono (by omega)))
    have HO4' := hide (HO4.out.below (hc6.mono (by omega)))
    have HO5' := hide (HO5.out.below (hc6.mono (by omega)))
    have HL36 := hide (HL3.out.below h36)
    have HE6 := hide (eqInts_any w6.heap.size _ _ ks w6 hL6.out.at (HL36.out.at.below (by omega) (Below.refl _ _)) hkl)
    clear HIm5 HO4 HO5
    go_wp2_with (go_at_call 22; refine HE6.out.mono ?_; rintro e w6b ⟨rfl, hc6b⟩)
    have hz6b := hc6b.size
    have hb6b := hb6.trans (hc6b.mono (HOld.out _ hb6).2)
    clear HE6
    refine (HTo.out _ hb6b).mono ?_
    rintro e w7 ⟨a7, c7, rfl, ho7, hb7, hc7⟩
    have hz7 := hc7.size
    have HE7 := hide (eqRules_any w7.heap.size _ _ R w7 ((HO4'.out.below ((hc6b.mono (by omega)).trans (hc7.mono (by omega)))).at.below (by omega) (Below.refl _ _)) ho7.out.at (Nat.le_refl _) HS.out)
    clear ho7
    go_wp2_with fail
    refine HE7.out.mono ?_
    rintro e w8 ⟨rfl, hb8⟩
    have hz8 := hb8.size
    have hb8' := hb7.trans (hb8.mono (HOld.out _ hb7).2)
    have h68 : Below w6.heap.size w6 w8 := hc6b.trans ((hc7.mono (by omega)).trans (hb8.mono (by omega)))
    have h58 := hc6.trans (h68.mono (by omega))
    have HO5n := hide (HO5'.out.below (h68.mono (by omega)))
    have HS5 : Hid (∀ wx, Below w8.heap.size w8 wx → (wx.cell? ⟨w.heap.size, 0, none⟩ = some (.int .i64 d.root) ∧ wx.cell? ⟨w.heap.size, 1, none⟩ = some (.int .i64 d.next) ∧ wx.cell? ⟨w.heap.size, 2, none⟩ = some (.slice sa d.nodes.length sc)) ∧ (wx.cell? ⟨w5.heap.size, 0, none⟩ = some (.int .i64 d.root) ∧ wx.cell? ⟨w5.heap.size, 1, none⟩ = some (.int .i64 d.next) ∧ wx.cell? ⟨w5.heap.size, 2, none⟩ = some (.slice a5 d.nodes.length c5))) := fun wx hb =>
      ⟨HB.out _ (hb8'.trans (hb.mono (HOld.out _ hb8').2)), box_doc' (h58.trans (hb.mono (by omega)))⟩
    have HT8 : Hid (∀ wx, Below w8.heap.size w8 wx → Calls Tryd.prog 20 #[.agg #[.int .i64 d.root, .int .i64 d.next, .slice sa d.nodes.length sc]] wx fun e w' => ∃ ua uc, e = .returned (.agg #[.int .i64 d.root, .int .i64 d.next, .slice ua d.nodes.length uc]) ∧ Hid (DocAt w'.heap.size w' (.agg #[.int .i64 d.root, .int .i64 d.next, .slice ua d.nodes.length uc]) d) ∧ Below w8.heap.size w8 w') := fun wx hb =>
      (HToD.out wx (hb8'.trans (hb.mono (HOld.out _ hb8').2))).mono fun e w' ⟨ua, uc, he, ho, _, hc⟩ => ⟨ua, uc, he, ho.out.at, hb.trans (hc.mono hb.size)⟩
    have HE8 : Hid (∀ wx ua uc, Below w8.heap.size w8 wx → Hid (DocAt wx.heap.size wx (.agg #[.int .i64 d.root, .int .i64 d.next, .slice ua d.nodes.length uc]) d) → Calls Tryd.prog 24 #[.agg #[.int .i64 d.root, .int .i64 d.next, .slice a5 d.nodes.length c5], .agg #[.int .i64 d.root, .int .i64 d.next, .slice ua d.nodes.length uc]] wx fun e w' => e = .returned (.bool true) ∧ Below w8.heap.size w8 w') := fun wx ua uc hb ho => by
      have hsx := hb.size
      exact (eqDoc_any wx.heap.size _ _ d wx ((HO5n.out.below (hb.mono (by omega))).at.below (by omega) (Below.refl _ _)) ho.out (Nat.le_refl _) HSd.out.len HSd.out.kids).mono fun e w' ⟨he, hb'⟩ => ⟨he, hb.trans (hb'.mono hsx)⟩
    have hd8 : Below w8.heap.size w8 w8.drew := (Below.refl _ _).drew
    clear HE7
    go_wp2_with fail
    go_cut [67] (fun v67 wd => v67 = .bool false ∧ Below w8.heap.size w8 wd)
    case first =>
      clear HB HTo HToD HS3 HOld HIm
      go_region_held3 (fun wx => (wx.cell? ⟨w.heap.size, 0, none⟩ = some (.int .i64 d.root) ∧ wx.cell? ⟨w.heap.size, 1, none⟩ = some (.int .i64 d.next) ∧ wx.cell? ⟨w.heap.size, 2, none⟩ = some (.slice sa d.nodes.length sc)) ∧ (wx.cell? ⟨w5.heap.size, 0, none⟩ = some (.int .i64 d.root) ∧ wx.cell? ⟨w5.heap.size, 1, none⟩ = some (.int .i64 d.next) ∧ wx.cell? ⟨w5.heap.size, 2, none⟩ = some (.slice a5 d.nodes.length c5))) (first | exact HS5.out _ (by assumption) | go_keep)
        (first
          | (go_at_call 20; refine (HT8.out _ (by assumption)).mono ?_; rintro e w9 ⟨a9, c9, rfl, ho9, hb9⟩)
          | (go_at_call 24; refine (HE8.out _ _ _ (by assumption) (by assumption)).mono ?_; rintro e w10 ⟨rfl, hb10⟩))
      all_goals
        go_wp2_with fail
        go_meet
        exact ⟨rfl, hb10⟩
    case rest =>
      obtain ⟨rfl, hbd⟩ := hcut
      have hzd := hbd.size
      have hbd' : Below (w.heap.size + 1) W0 wc := hb8'.trans (hbd.mono (HOld.out _ hb8').2)
      have h6d : Below w6.heap.size w6 wc := h68.trans (hbd.mono (by omega))
      have h5d := hc6.trans (h6d.mono (by omega))
      have HMk := hide (markRules_upto ws.heap.size w4.heap.size _ R wc (HO4'.out.below (h6d.mono (by omega))) (by omega) HS.out)
      clear HS5 HT8 HE8 HO5n
      go_wp2_with fail
      refine HMk.out.mono ?_
      rintro e w9 ⟨rk, rfl, hrk0, hrk1, hwi⟩
      have hz9 := hwi.below.size
      have hbox9 := (hwi.above w5.heap.size (by omega) (by omega)).trans ((h5d.block w5.heap.size (by omega)).trans (alloc_new w5 _))
      have x0 := cell_of_heap hbox9 0
      have x1 := cell_of_heap hbox9 1
      have x2 := cell_of_heap hbox9 2
      simp only [List.getElem?_toArray, List.getElem?_cons_succ, List.getElem?_cons_zero] at x0 x1 x2
      have HMd := hide (markDoc_from rk hrk0 (by omega) w4.heap.size w5.heap.size _ d w9 ((HO5'.out.below (h6d.mono (by omega))).keep fun b h1 h2 => hwi.above b (by omega) (by omega)) (by omega) HSd.out.len HSd.out.kids)
      have hz59 : w5.heap.size < w9.heap.size := by omega
      clear HMk hbox9
      go_wp2_with fail
      refine HMd.out.mono ?_
      rintro e w10 ⟨rk2, rfl, hrk2, hwi2⟩
      have hz10 := hwi2.below.size
      have h3x : Below ws.heap.size ws w10 := (h36.trans (h6d.mono (by omega))).trans (hwi.below.trans (hwi2.below.mono (by omega)))
      have HL3x : Hid (ListIn lo3 ws.heap.size w10 (.slice a3 ks.length c3) ks) := HL3.out.below h3x
      have HL6x : Hid (ListIn (w5.heap.size + 1) w6.heap.size w10 (.slice a6 ks.length c6) ks) := (hL6.out.below h6d).heap fun g h1 h2 => (hwi2.above g (by omega) (by omega)).trans (hwi.above g (by omega) (by omega))
      have hb10 : Below (w.heap.size + 1) W0 w10 := hbd'.trans ((hwi.below.mono (HOld.out _ hbc).2).trans (hwi2.below.mono (HOld.out _ hb4).2))
      have HE10 := hide (eqInts_any w10.heap.size _ _ ks w10 (HL6x.out.at.below (by omega) (Below.refl _ _)) (HL3x.out.at.below (by omega) (Below.refl _ _)) hkl)
      have hrk3 : decide (rk2 < 0) = false := by simp; omega
      clear HMd x0 x1 x2
      go_wp2_with (go_at_call 22; refine HE10.out.mono ?_; rintro e w11 ⟨rfl, hc11⟩)
      have hz11 := hc11.size
      have HL3y : Hid (ListIn lo3 ws.heap.size w11 (.slice a3 ks.length c3) ks) := HL3x.out.below (hc11.mono (by omega))
      have HL6y : Hid (ListIn (w5.heap.size + 1) w6.heap.size w11 (.slice a6 ks.length c6) ks) := HL6x.out.below (hc11.mono (by omega))
      have hb11 : Below (w.heap.size + 1) W0 w11 := hb10.trans (hc11.mono (HOld.out _ hb10).2)
      obtain ⟨a6', c6', e6, hrow6, hlo6⟩ := HL6y.out.row
      obtain ⟨rfl, -, rfl⟩ : a6 = a6' ∧ ks.length = ks.length ∧ c6 = c6' := by simpa using e6
      have HMi := hide (markInts_any a6 ks.length c6 1 w11 hrow6 hkl (by omega) (by omega))
      clear HE10 e6 hrow6
      refine HMi.out.mono ?_
      rintro e w12 ⟨rfl, hor, hmk⟩
      have h12b := hor.below (w5.heap.size + 1) (fun b hb => (hlo6 b hb).1)
      have hz12 := hor.size
      have HL3z : Hid (ListIn lo3 ws.heap.size w12 (.slice a3 ks.length c3) ks) := HL3y.out.below (h12b.mono (by omega))
      have hb12 : Below (w.heap.size + 1) W0 w12 := hb11.trans (h12b.mono (by have := (HOld.out _ hb5).2; omega))
      have HMkA := hide hmk
      have HHe := hide (heldInts_any a6 ks.length c6 1 w12 hmk hkl (by omega) (by omega))
      have hm0 : (0 : Int) ≤ 1 + (ks.length : Int) := by omega
      have hm1 : decide (1 + (ks.length : Int) < 0) = false := by simp; omega
      clear hor hmk HMi hlo6
      go_wp2_with fail
      refine HHe.out.mono ?_
      rintro e w13 ⟨rfl, hw13⟩
      have hw13' := hw13.symm
      subst hw13'
      clear hw13 HHe
      have hb12d := hb12.drew
      have HIm12 : Hid (∀ wx va vc ua uc lo hi lo' hi', Hid (RulesOwn lo hi wx (.slice va R.length vc) R) → hi ≤ wx.heap.size → Hid (DocOwn lo' hi' wx (.agg #[.int .i64 d.root, .int .i64 d.next, .slice ua d.nodes.length uc]) d) → hi' ≤ wx.heap.size → Below w12.heap.size w12 wx → Calls Tryd.prog 21 #[.slice va R.length vc, .agg #[.int .i64 d.root, .int .i64 d.next, .slice ua d.nodes.length uc], .int .i64 id] wx fun e w' => ∃ a q, e = .returned (.tuple #[.slice a ks.length q, .int .i64 c]) ∧ Hid (ListIn wx.heap.size w'.heap.size w' (.slice a ks.length q) ks) ∧ Below w12.heap.size w12 w') := fun wx va vc ua uc lo hi lo' hi' h1 h2 h3 h4 hb =>
        (HIm.out wx va vc ua uc lo hi lo' hi' h1 h2 h3 h4 (hb12.trans (hb.mono (HOld.out _ hb12).2))).mono fun e w' ⟨a, q, he, hL, _, hb'⟩ => ⟨a, q, he, hL, hb.trans (hb'.mono hb.size)⟩
      have HTo12 : Hid (∀ wx, Below w12.heap.size w12 wx → Calls Tryd.prog 19 #[.slice a R.length cap] wx fun e w' => ∃ ua uc, e = .returned (.slice ua R.length uc) ∧ Hid (RulesOwn wx.heap.size w'.heap.size w' (.slice ua R.length uc) R) ∧ Below w12.heap.size w12 w' ∧ Below wx.heap.size wx w') := fun wx hb =>
        (HTo.out wx (hb12.trans (hb.mono (HOld.out _ hb12).2))).mono fun e w' ⟨ua, uc, he, ho, _, hb'⟩ => ⟨ua, uc, he, ho, hb.trans (hb'.mono hb.size), hb'⟩
      have HToD12 : Hid (∀ wx, Below w12.heap.size w12 wx → Calls Tryd.prog 20 #[.agg #[.int .i64 d.root, .int .i64 d.next, .slice sa d.nodes.length sc]] wx fun e w' => ∃ ua uc, e = .returned (.agg #[.int .i64 d.root, .int .i64 d.next, .slice ua d.nodes.length uc]) ∧ Hid (DocOwn wx.heap.size w'.heap.size w' (.agg #[.int .i64 d.root, .int .i64 d.next, .slice ua d.nodes.length uc]) d) ∧ Below w12.heap.size w12 w' ∧ Below wx.heap.size wx w') := fun wx hb =>
        (HToD.out wx (hb12.trans (hb.mono (HOld.out _ hb12).2))).mono fun e w' ⟨ua, uc, he, ho, _, hb'⟩ => ⟨ua, uc, he, ho, hb.trans (hb'.mono hb.size), hb'⟩
      have HS12 : Hid (∀ wx, Below w12.heap.size w12 wx → wx.cell? ⟨w.heap.size, 0, none⟩ = some (.int .i64 d.root) ∧ wx.cell? ⟨w.heap.size, 1, none⟩ = some (.int .i64 d.next) ∧ wx.cell? ⟨w.heap.size, 2, none⟩ = some (.slice sa d.nodes.length sc)) := fun wx hb => HB.out _ (hb12.trans (hb.mono (HOld.out _ hb12).2))
      have hd12 : Below w12.heap.size w12 w12.drew := (Below.refl _ _).drew
      go_wp2_with fail
      obtain ⟨wt, rfl⟩ : ∃ x, x = wc := ⟨_, rfl⟩
      go_cut [17, 18] (fun v17 v18 we => ∃ a14 c14 lo, v17 = .slice a14 ks.length c14 ∧ v18 = .int .i64 c ∧ Hid (ListIn lo we.heap.size we (.slice a14 ks.length c14) ks) ∧ Below w12.heap.size w12 we)
      case first =>
        clear HB HTo HToD HS3 HOld HIm
        go_region_held3 (fun wx => wx.cell? ⟨w.heap.size, 0, none⟩ = some (.int .i64 d.root) ∧ wx.cell? ⟨w.heap.size, 1, none⟩ = some (.int .i64 d.next) ∧ wx.cell? ⟨w.heap.size, 2, none⟩ = some (.slice sa d.nodes.length sc)) (first | exact HS12.out _ (by assumption) | go_keep)
          (first
            | (go_at_call 19; refine (HTo12.out _ (by assumption)).mono ?_; rintro e wa ⟨aa, ca, rfl, hoa, hba, hca⟩)
            | (go_at_call 20; refine (HToD12.out _ (by assumption)).mono ?_; rintro e wb ⟨ab, cb, rfl, hob, hbb, hcb⟩; have hoa' := hide (hoa.out.below hcb); have hsb := hcb.size)
            | (go_at_call 21; refine (HIm12.out _ _ _ _ _ _ _ _ _ hoa' hsb hob (Nat.le_refl _) (by assumption)).mono ?_; rintro e wd ⟨a14, c14, rfl, hl14, hb14⟩))
        all_goals
          go_wp2_with fail
          go_meet
          exact ⟨_, _, _, rfl, rfl, hl14, hb14⟩
      case rest =>
        obtain ⟨a14, c14, lo14, rfl, rfl, HL14, hb14⟩ := hcut
        have hz14 := hb14.size
        have HE14 := hide (eqInts_any wc.heap.size _ _ ks wc HL14.out.at ((HL3z.out.below (hb14.mono (by omega))).at.below (by omega) (Below.refl _ _)) hkl)
        go_wp2_with (go_at_call 22; refine HE14.out.mono ?_; rintro e w15 ⟨rfl, hb15⟩)
        have h1215 : Below w12.heap.size w12 w15 := hb14.trans (hb15.mono (by omega))
        have HHe := hide (heldInts_any a6 ks.length c6 1 w15 (HMkA.out.below h1215) hkl (by omega) (by omega))
        clear HE14
        refine HHe.out.mono ?_
        rintro e w16 ⟨rfl, hw16⟩
        have hw16' := hw16.symm
        subst hw16'
        clear hw16 HHe
        go_wp2_with fail
        go_ret
        exact ⟨rfl, (HOld.out _ (hb12.trans (h1215.mono (HOld.out _ hb12).2))).1⟩
end Go.Proofs.YtpkblnponeonkaaDoor
