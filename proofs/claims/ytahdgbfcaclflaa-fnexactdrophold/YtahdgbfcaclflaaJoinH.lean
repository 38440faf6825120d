/-
  A list of holds without a session's lock on a node, as the specification makes it.
  DropHold: what the specification and the program answer.
-/
import Derived.Test.YtahdgbfcaclflaaJoinK
import Derived.Test.YtahdgbfcaclflaaHoldToJ
import Derived.Test.YtahdgbfcaclflaaJoinG
import Derived.Test.YtahdgbfcaclflaaSpecOwnJ
import Derived.Test.YtahdgbfcaclflaaJoinJ
import Derived.Test.YtahdgbfcaclflaaJoinA
import Derived.Test.YtahdgbfcaclflaaLocksAtImplJ
namespace Go.Proofs.Ytahdgbfcaclflaa
open Go.RowKit

set_option maxHeartbeats 4000000 in
set_option maxRecDepth 100000 in
theorem specDrop_any (n₀ : Nat) (v : Value) (L : List PHold) (s i : Int) (w : World) (hV : HoldsAt n₀ w v L) (hn : n₀ ≤ w.heap.size) (hL : L.length ≤ 1048576) :
    Calls Try.prog 43 #[v, .int .i64 s, .int .i64 i] w fun e w' => ∃ u, e = .returned u ∧ w'.ownsRow w.heap.size 45 3 u (dropL L s i).length (holdVals (dropL L s i)) ∧ Below w.heap.size w w' := by
  obtain ⟨i0, hinf, hq0, hq1, hq2⟩ := info_parts holdInfo
  obtain ⟨We, hWe⟩ : ∃ We, We = w.alloc (.cells #[] 45) := ⟨_, rfl⟩
  have hse : We.heap.size = w.heap.size + 1 := by rw [hWe]; simp
  have hbe : Below w.heap.size w We := by rw [hWe]; exact (Below.refl _ _).alloc (Nat.le_refl _) _
  have HNone : Hid (We.ownsRow w.heap.size 45 3 (.slice (some ⟨w.heap.size, 0, none⟩) 0 0) 0 []) := by rw [hWe]; exact hrow_none w w.heap.size (Nat.le_refl _)
  have HHit := hide (fun k h => @dropL_hit L s i k h)
  have HMiss := hide (fun k h => @dropL_miss L s i k h)
  have HLen := hide (fun k => dropL_len (L.take k) s i)
  obtain ⟨a, cap, rfl, hk⟩ := hV
  clear hse
  go_enter Try.func43, Try.ntmps43
  go_wp2_with fail
  rw [← hWe]
  clear hWe
  go_loopw [7, 8] (fun ov idx wr => ∃ (k : Nat) (out : List PHold), k ≤ L.length ∧ idx = .int .i64 k ∧ Hid (out = dropL (L.take k) s i) ∧ out.length ≤ k ∧ Hid (wr.ownsRow w.heap.size 45 3 ov out.length (holdVals out)) ∧ Below w.heap.size w wr) (fun _ idx _ => L.length - (intOf idx).toNat)
  case atStart => exact ⟨0, [], Nat.zero_le _, rfl, by simp [Hid, dropL], by simp, HNone, hbe⟩
  case round =>
    obtain ⟨k, out, hkn, rfl, hout, hol, hrow, hbr⟩ := hrel
    rename_i ov _
    have hsz := hbr.size
    by_cases hlt : k < L.length
    · have hlt1 : (k : Int) < (L.length : Int) := by omega
      obtain ⟨b, off, rfl, hb, hc⟩ := hk.resolve_left (by intro e; simp [e] at hlt)
      have hA := (hc k hlt).below hb (hbr.mono hn)
      have g0 := hA.c0
      have g1 := hA.c1
      have g2 := hA.c2
      have hbz : b < wr.heap.size := by omega
      have HH1 := hide (HHit.out k hlt)
      have HM1 := hide (HMiss.out k hlt)
      clear hc hk hA
      generalize L[k]?.getD holdNil = x at *
      by_cases hat : isAt s i x = true
      · have HE := hide (HM1.out hat)
        obtain ⟨e1, e2⟩ := isAt_iff.1 hat
        have h1 : (x.session != s) = false := by simp [e1]
        have h2 : (x.node != i) = false := by simp [e2]
        clear hat e1 e2
        go_wp2_with fail
        exact ⟨⟨k + 1, out, by omega, by go_num, by rw [Hid, HE.out]; exact hout.out, by omega, hrow, hbr⟩, by simp [intOf]; omega⟩
      · have HE := hide (HH1.out (by simpa using hat))
        have hns : (x.session != s) = true ∨ ((x.session != s) = false ∧ (x.node != i) = true) := by
          rw [isAt_iff] at hat
          by_cases e1 : x.session = s
          · exact .inr ⟨by simp [e1], by simp; exact fun e2 => hat ⟨e1, e2⟩⟩
          · exact .inl (by simp [e1])
        clear hat
        rcases hns with h1 | ⟨h1, h2⟩
        all_goals
          go_wp2_with (at_builtin; refine wpList_append_own _ rfl _ _ 36 rfl w.heap.size 45 i0 (.agg #[.int .i64 0, .int .i64 0, .int .i64 0]) 3 24 Try.underlying36 hinf hq0 hq1 hq2 rfl (by decide) _ _ _ rfl (hrow.out.alloc _) ⟨wr.heap.size, 0, none⟩ 1 1 (holdCells x) rfl rfl (World.news_of_block (alloc_new wr _)) (holdCells_one x) (by unfold maxLen; omega) (by omega) (by simp; omega) ?_)
          intro v' w3 hown' hgrow _
          have hb3 := (hbr.alloc (by omega) (.cells #[.int .i64 x.session, .int .i64 x.node, .int .i64 x.mode] 45)).grown hgrow (by simp; omega) (fun g' hg' => by have := (hrow.out.lt g' hg').1; omega)
          have HRow3 : Hid (w3.ownsRow w.heap.size 45 3 v' (out ++ [x]).length (holdVals (out ++ [x]))) := by
            rw [Hid, holdVals_snoc, List.length_append]; exact hown'
          clear hown' hgrow
          go_wp2_with fail
          exact ⟨⟨k + 1, out ++ [x], by omega, by go_num, by rw [Hid, HE.out, ← hout.out], by simp; omega, HRow3, hb3⟩, by simp [intOf]; omega⟩
    · have hlt1 : ¬ (k : Int) < (L.length : Int) := by omega
      have hkk : k = L.length := by omega
      have HE : Hid (out = dropL L s i) := by rw [Hid, hout.out, hkk, List.take_length]
      clear hkk hk
      go_wp2_with fail
      go_ret
      have hr := hrow.out
      have he := HE.out
      subst he
      exact ⟨_, rfl, hr, hbr⟩
end Go.Proofs.Ytahdgbfcaclflaa

namespace Go.Proofs.Ytahdgbfcaclflaa
open Go.RowKit

def HasAt (L : List PHold) (s i : Int) : Prop := ∃ x ∈ L, isAt s i x = true
noncomputable def dropCode (d : PDoc) (L : List PHold) (s i : Int) : Int := by
  classical exact if lockAsk d L s i = 0 then if HasAt L s i then 0 else 17 else lockAsk d L s i
noncomputable def dropAns (d : PDoc) (L : List PHold) (s i : Int) : List PHold := by
  classical exact if lockAsk d L s i = 0 ∧ HasAt L s i then dropL L s i else []
theorem drop_bad {d : PDoc} {L : List PHold} {s i : Int} (h : lockAsk d L s i ≠ 0) : dropCode d L s i = lockAsk d L s i ∧ dropAns d L s i = [] := by
  unfold dropCode dropAns; rw [if_neg h, if_neg (fun k => h k.1)]; exact ⟨rfl, rfl⟩
theorem drop_no {d : PDoc} {L : List PHold} {s i : Int} (h : lockAsk d L s i = 0) (k : ¬ HasAt L s i) : dropCode d L s i = 17 ∧ dropAns d L s i = [] := by
  unfold dropCode dropAns; rw [if_pos h, if_neg k, if_neg (fun m => k m.2)]; exact ⟨rfl, rfl⟩
theorem drop_ok {d : PDoc} {L : List PHold} {s i : Int} (h : lockAsk d L s i = 0) (k : HasAt L s i) : dropCode d L s i = 0 ∧ dropAns d L s i = dropL L s i := by
  unfold dropCode dropAns; rw [if_pos h, if_pos k, if_pos ⟨h, k⟩]; exact ⟨rfl, rfl⟩
theorem dropAns_len (d : PDoc) (L : List PHold) (s i : Int) : (dropAns d L s i).length ≤ L.length := by
  unfold dropAns; split
  · exact dropL_len L s i
  · simp

theorem own_has {d : PDoc} {L : List PHold} (h : HoldsP d L) {s i : Int} : ownI L s i = 0 ↔ ¬ HasAt L s i := by
  constructor
  · rintro h0 ⟨x, hx, hat⟩
    obtain ⟨rfl, rfl⟩ := isAt_iff.1 hat
    have h1 := h.own hx
    have h2 := (h.mode x hx).2.2.1
    omega
  · intro hn
    exact ownI_none fun x hx => by
      cases hat : isAt s i x with
      | false => rfl
      | true => exact absurd ⟨x, hx, hat⟩ hn

/-- A list of holds of its own, and a code. -/
def HoldsPost (w : World) (K : List PHold) (c : Int) (e : Ending) (w' : World) : Prop :=
  ∃ v, e = .returned (.tuple #[v, .int .i64 c]) ∧ w'.ownsRow w.heap.size 45 3 v K.length (holdVals K) ∧ Below w.heap.size w w'

set_option maxHeartbeats 2000000 in
theorem specDropHold_any (n₀ : Nat) (d : PDoc) (s v : Value) (L : List PHold) (ss id : Int) (w : World) (hN : NodesAt n₀ w s d.nodes) (hV : HoldsAt n₀ w v L) (hn : n₀ ≤ w.heap.size) (hl : d.nodes.length ≤ 1048576) (hkl : ∀ x ∈ d.nodes, x.kids.length ≤ 1048576) (hL : L.length ≤ 1048576) (c : Int) (K : List PHold) (hc : c = dropCode d L ss id) (hK : K = dropAns d L ss id) :
    Calls Try.prog 23 #[.agg #[.int .i64 d.root, .int .i64 d.next, s], v, .int .i64 ss, .int .i64 id] w (HoldsPost w K c) := by
  have hW := (Below.refl w.heap.size w).alloc (Nat.le_refl _) (.cells #[.int .i64 d.root, .int .i64 d.next, s] 34)
  obtain ⟨c1, hc1⟩ : ∃ c1, c1 = lockAsk d L ss id := ⟨_, rfl⟩
  have HAs := hide (specLockAsk_any n₀ d s v L ss id (w.alloc (.cells #[.int .i64 d.root, .int .i64 d.next, s] 34)) (hN.below (Nat.le_refl _) (hW.mono hn)) (hV.below (Nat.le_refl _) (hW.mono hn)) (by simp; omega) hl hkl hL c1 hc1)
  have HOw : Hid (∀ wx, Below w.heap.size w wx → Calls Try.prog 42 #[v, .int .i64 ss, .int .i64 id] wx fun e w' => e = .returned (.int .i64 (ownI L ss id)) ∧ w' = wx) := fun wx hb =>
    specOwn_any n₀ v L ss id wx (hV.below (Nat.le_refl _) (hb.mono hn)) (by have := hb.size; omega) hL
  have HDr : Hid (∀ wx, Below w.heap.size w wx → Calls Try.prog 43 #[v, .int .i64 ss, .int .i64 id] wx fun e w' => ∃ u, e = .returned u ∧ w'.ownsRow wx.heap.size 45 3 u (dropL L ss id).length (holdVals (dropL L ss id)) ∧ Below wx.heap.size wx w') := fun wx hb =>
    specDrop_any n₀ v L ss id wx (hV.below (Nat.le_refl _) (hb.mono hn)) (by have := hb.size; omega) hL
  have HC := hide hc
  have HK := hide hK
  have HC1 := hide hc1
  obtain ⟨a, cap, rfl⟩ := hV.form
  obtain ⟨sa, sc, rfl, -⟩ := hN
  clear hc hK hc1 hkl hV
  by_cases hlong : (4096 : Int) < (L.length : Int)
  · have h1 : lockAsk d L ss id = 2 := (lockAsk_bad (by rw [heldAsk_long (by omega)]; decide)).trans (heldAsk_long (by omega))
    obtain ⟨h2, h3⟩ := drop_bad (d := d) (L := L) (s := ss) (i := id) (by rw [h1]; decide)
    have HE : Hid (c = 2 ∧ K = []) := ⟨HC.out.trans (h2.trans h1), HK.out.trans h3⟩
    have HR : Hid (((w.alloc (.cells #[.int .i64 d.root, .int .i64 d.next, .slice sa d.nodes.length sc] 34)).alloc (.cells #[] 45)).ownsRow w.heap.size 45 3 (.slice (some ⟨w.heap.size + 1, 0, none⟩) 0 0) 0 []) := by
      have := hrow_none (w.alloc (.cells #[.int .i64 d.root, .int .i64 d.next, .slice sa d.nodes.length sc] 34)) w.heap.size (by simp)
      rw [Hid]; simpa using this
    clear h1 h2 h3
    go_enter Try.func23, Try.ntmps23
    go_wp2_with fail
    go_ret2
    exact ⟨_, ret_vc HE.out.1.symm, by rw [HE.out.2]; exact HR.out, hW.alloc (by simp) _⟩
  · by_cases h0 : c1 = 0
    · subst h0
      have HHo : Hid (HoldsP d L) := by
        have h1 := HC1.out.symm
        by_cases hh : heldAsk d L = 0
        · exact (heldAsk_zero hh).holds
        · exact absurd ((lockAsk_bad hh).symm.trans h1) hh
      by_cases hat : HasAt L ss id
      · obtain ⟨h2, h3⟩ := drop_ok HC1.out.symm hat
        have HE : Hid (c = 0 ∧ K = dropL L ss id) := ⟨HC.out.trans h2, HK.out.trans h3⟩
        have hne : (ownI L ss id == 0) = false := by
          have h : ¬ ownI L ss id = 0 := fun h0 => (own_has HHo.out).1 h0 hat
          simpa using h
        clear h2 h3 hat
        go_enter Try.func23, Try.ntmps23
        go_wp2_with fail
        refine HAs.out.mono ?_
        rintro e w1 ⟨rfl, hb1⟩
        simp only [World.size_alloc] at hb1
        have hs1 := hb1.size
        simp only [World.size_alloc] at hs1
        have hw1 := hW.trans (hb1.mono (by omega))
        have HO1 := hide (HOw.out _ hw1)
        have HD1 := hide (HDr.out _ hw1)
        go_wp2_with (first | (go_at_call 42; refine HO1.out.mono ?_; rintro e w' ⟨rfl, rfl⟩) | (go_at_call 43; refine HD1.out.mono ?_; rintro e w2 ⟨vv, rfl, hrow, hb2⟩))
        have HRow := hide hrow
        clear hrow
        go_wp2_with fail
        go_ret2
        exact ⟨_, ret_vc HE.out.1.symm, by rw [HE.out.2]; exact ownsRow_base3 HRow.out (by omega), hw1.trans (hb2.mono (by omega))⟩
      · obtain ⟨h2, h3⟩ := drop_no HC1.out.symm hat
        have HE : Hid (c = 17 ∧ K = []) := ⟨HC.out.trans h2, HK.out.trans h3⟩
        have hne : ownI L ss id = 0 := (own_has HHo.out).2 hat
        rw [hne] at HOw
        clear h2 h3 hat hne
        go_enter Try.func23, Try.ntmps23
        go_wp2_with fail
        refine HAs.out.mono ?_
        rintro e w1 ⟨rfl, hb1⟩
        simp only [World.size_alloc] at hb1
        have hs1 := hb1.size
        simp only [World.size_alloc] at hs1
        have hw1 := hW.trans (hb1.mono (by omega))
        have HO1 := hide (HOw.out _ hw1)
        have HR := hide (hrow_none w1 w.heap.size (by omega))
        go_wp2_with (go_at_call 42; refine HO1.out.mono ?_; rintro e w' ⟨rfl, rfl⟩)
        go_ret2
        exact ⟨_, ret_vc HE.out.1.symm, by rw [HE.out.2]; exact HR.out, hw1.alloc (by omega) _⟩
    · obtain ⟨h2, h3⟩ := drop_bad (d := d) (L := L) (s := ss) (i := id) (by rw [← HC1.out]; exact h0)
      have HE : Hid (c1 = c ∧ K = []) := ⟨by rw [HC.out, h2]; exact HC1.out, HK.out.trans h3⟩
      have h00 : (c1 != 0) = true := by simp [h0]
      clear h0 h2 h3
      go_enter Try.func23, Try.ntmps23
      go_wp2_with fail
      refine HAs.out.mono ?_
      rintro e w1 ⟨rfl, hb1⟩
      simp only [World.size_alloc] at hb1
      have hs1 := hb1.size
      simp only [World.size_alloc] at hs1
      have hw1 := hW.trans (hb1.mono (by omega))
      have HR := hide (hrow_none w1 w.heap.size (by omega))
      go_wp2_with fail
      go_ret2
      exact ⟨_, ret_vc HE.out.1, by rw [HE.out.2]; exact HR.out, hw1.alloc (by omega) _⟩

set_option maxHeartbeats 2000000 in
theorem implDropHold_any (n₀ : Nat) (d : PDoc) (s : Value) (p0 : Addr) (cap : Nat) (L : List PHold) (ss id : Int) (w : World) (hN : NodesAt n₀ w s d.nodes) (hV : HoldsAt n₀ w (.slice (some p0) L.length cap) L) (hn : n₀ ≤ w.heap.size) (hl : d.nodes.length ≤ 1048576) (hwf : WfDoc d) (hL : L.length ≤ 1048576) (c : Int) (K : List PHold) (hc : c = dropCode d L ss id) (hK : K = dropAns d L ss id) :
    Calls Try.prog 24 #[.agg #[.int .i64 d.root, .int .i64 d.next, s], .slice (some p0) L.length cap, .int .i64 ss, .int .i64 id] w (HoldsPost w K c) := by
  have hW := (Below.refl w.heap.size w).alloc (Nat.le_refl _) (.cells #[.int .i64 d.root, .int .i64 d.next, s] 34)
  have HLa := hide (locksAt_any n₀ d s _ L ss id (w.alloc (.cells #[.int .i64 d.root, .int .i64 d.next, s] 34)) (hN.below (Nat.le_refl _) (hW.mono hn)) (hV.below (Nat.le_refl _) (hW.mono hn)) (by simp; omega) hl hwf hL)
  have HDr : Hid (SortedH L → ∀ wx, Below w.heap.size w wx → Calls Try.prog 45 #[.slice (some p0) L.length cap, .int .i64 ss, .int .i64 id] wx fun e w' => ∃ (u : Value) (c : Int) (K : List PHold), e = .returned (.tuple #[u, .int .i64 c]) ∧ Hid (((∃ x ∈ L, isAt ss id x = true) ∧ c = 0 ∧ K = dropL L ss id) ∨ ((∀ x ∈ L, isAt ss id x = false) ∧ c = 17 ∧ K = [])) ∧ w'.ownsRow wx.heap.size 45 3 u K.length (holdVals K) ∧ Below wx.heap.size wx w') := fun hs wx hb =>
    dropHold_any n₀ p0 cap L ss id wx (hV.below (Nat.le_refl _) (hb.mono hn)) (by have := hb.size; omega) hL hs
  have HC := hide hc
  have HK := hide hK
  obtain ⟨sa, sc, rfl, -⟩ := hN
  clear hc hK hV hwf
  go_enter Try.func24, Try.ntmps24
  go_wp2_with fail
  refine HLa.out.mono ?_
  rintro e w1 (⟨p, q, c2, rfl, hc2, hc1, hb1⟩ | ⟨lb, tb, ad, up, kv, rfl, hok, hgr, hlk, hb1⟩)
  · obtain ⟨h2, h3⟩ := drop_bad (d := d) (L := L) (s := ss) (i := id) (by rw [← hc2.out.2]; exact hc2.out.1)
    have HE : Hid (c2 = c ∧ K = []) := ⟨by rw [HC.out, h2]; exact hc2.out.2, HK.out.trans h3⟩
    simp only [World.size_alloc] at hb1
    have hw1 := hW.trans (hb1.mono (by omega))
    clear h2 h3
    go_wp2_with fail
    go_ret2
    exact ⟨.slice none 0 0, ret_vc HE.out.1, by rw [HE.out.2]; exact World.ownsRow_nil _ _ _ _, hw1⟩
  · simp only [World.size_alloc] at hb1
    have hs1 := hb1.size
    simp only [World.size_alloc] at hs1
    have hw1 := hW.trans (hb1.mono (by omega))
    have HHo : Hid (HoldsP d L) := by
      have h1 := hok.out
      by_cases hh : heldAsk d L = 0
      · exact (heldAsk_zero hh).holds
      · exact absurd ((lockAsk_bad hh).symm.trans h1) hh
    have HD1 := hide (HDr.out (fun i j h1 h2 => HHo.out.less h1 h2) _ hw1)
    clear hgr hlk
    go_wp2_with (go_at_call 45; refine HD1.out.mono ?_; rintro e w2 ⟨u, c3, K3, rfl, hk3, hrow, hb2⟩)
    have HRow := hide hrow
    have HE : Hid (c3 = c ∧ K3 = K) := by
      rcases hk3.out with ⟨ha, rfl, rfl⟩ | ⟨ha, rfl, rfl⟩
      · obtain ⟨h2, h3⟩ := drop_ok hok.out ha
        exact ⟨(HC.out.trans h2).symm, (HK.out.trans h3).symm⟩
      · obtain ⟨h2, h3⟩ := drop_no hok.out (fun ⟨x, hx, hat⟩ => by rw [ha x hx] at hat; cases hat)
        exact ⟨(HC.out.trans h2).symm, (HK.out.trans h3).symm⟩
    clear hrow
    go_wp2_with fail
    go_ret2
    exact ⟨_, ret_vc HE.out.1, by rw [← HE.out.2]; exact ownsRow_base3 HRow.out (by omega), hw1.trans (hb2.mono (by omega))⟩
end Go.Proofs.Ytahdgbfcaclflaa
