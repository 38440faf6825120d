/-
  DropHold: what the specification and the program answer.
-/
import Derived.Test.YtfjhpfgffbghdaaSpecDropJ
import Derived.Test.YtfjhpfgffbghdaaDropImplJ
import Derived.Test.YtfjhpfgffbghdaaSpecOwnJ
import Derived.Test.YtfjhpfgffbghdaaJoinG
import Derived.Test.YtfjhpfgffbghdaaJoinC
import Derived.Test.YtfjhpfgffbghdaaLocksAtImplJ
import Derived.Test.YtfjhpfgffbghdaaHoldsOfJ
namespace Go.Proofs.Ytfjhpfgffbghdaa
open Go.RowKit

noncomputable def dropCode (d : PDoc) (L : List PHold) (s i : Int) : Int := by
  classical exact if lockAsk d L s i = 0 then if HasAt L s i then 0 else 17 else lockAsk d L s i
noncomputable def dropAns (d : PDoc) (L : List PHold) (s i : Int) : List PHold := by
  classical exact if lockAsk d L s i = 0 ∧ HasAt L s i then dropL L s i else []
theorem drop_bad {d : PDoc} {L : List PHold} {s i : Int} (h : lockAsk d L s i ≠ 0) : dropCode d L s i = lockAsk d L s i ∧ dropAns d L s i = [] := by
  unfold dropCode dropAns; rw [if_neg h, if_neg (fun k => h k.1)]; exact ⟨rfl, rfl⟩
theorem drop_no {d : PDoc} {L : List PHold} {s i : Int} (h : lockAsk d L s i = 0) (k : ¬ HasAt L s i) : dropCode d L s i = 17 ∧ dropAns d L s i = [] := by
  unfold dropCode dropAns; rw [if_pos h, if_neg k, if_neg (fun m => k m.2)]; exact ⟨rfl, rfl⟩
theorem drop_ok {d : PDoc} {L : List PHold} {s i : Int} (h : lockAsk d L s i = 0) (k : HasAt L s i) : dropCode d L s i = 0 ∧ dropAns d L s i = dropL L s i := by
  unfold dropCode dropAns; rw [if_pos h, if_pos k, if_pos ⟨h, k⟩]; exact ⟨rfl, rfl⟩
theorem dropAns_len (d : PDoc) (L : List PHold) (s i : Int) : (dropAns d L s i).length ≤ L.length := by
  unfold dropAns; split
  · exact dropL_len L s i
  · simp

theorem own_has {d : PDoc} {L : List PHold} (h : HoldsP d L) {s i : Int} : ownI L s i = 0 ↔ ¬ HasAt L s i := by
  constructor
  · rintro h0 ⟨x, hx, hat⟩
    obtain ⟨rfl, rfl⟩ := isAt_iff.1 hat
    have h1 := h.own hx
    have h2 := (h.mode x hx).2.2.1
    omega
  · intro hn
    exact ownI_none fun x hx => by
      cases hat : isAt s i x with
      | false => rfl
      | true => exact absurd ⟨x, hx, hat⟩ hn

theorem ownsRow_base3 {w : World} {b b' : Nat} {e : TypeId} {size : Nat} {v : Value} {n : Nat} {xs : List Value} (h : w.ownsRow b e size v n xs) (hb : b' ≤ b) : w.ownsRow b' e size v n xs := by
  obtain ⟨hl, h | ⟨g, cap, cur, rfl, hg, hh, h1⟩⟩ := h
  · exact ⟨hl, .inl h⟩
  · exact ⟨hl, .inr ⟨g, cap, cur, rfl, by omega, hh, h1⟩⟩

/-- A list of holds of its own, and a code. -/
def HoldsPost (w : World) (K : List PHold) (c : Int) (e : Ending) (w' : World) : Prop :=
  ∃ v, e = .returned (.tuple #[v, .int .i64 c]) ∧ w'.ownsRow w.heap.size 42 3 v K.length (holdVals K) ∧ Below w.heap.size w w'

set_option maxHeartbeats 2000000 in
theorem specDropHold_any (n₀ : Nat) (d : PDoc) (s v : Value) (L : List PHold) (ss id : Int) (w : World) (hN : NodesAt n₀ w s d.nodes) (hV : HoldsAt n₀ w v L) (hn : n₀ ≤ w.heap.size) (hl : d.nodes.length ≤ 1048576) (hkl : ∀ x ∈ d.nodes, x.kids.length ≤ 1048576) (hL : L.length ≤ 1048576) (c : Int) (K : List PHold) (hc : c = dropCode d L ss id) (hK : K = dropAns d L ss id) :
    Calls Try.prog 22 #[.agg #[.int .i64 d.root, .int .i64 d.next, s], v, .int .i64 ss, .int .i64 id] w (HoldsPost w K c) := by
  have hW := (Below.refl w.heap.size w).alloc (Nat.le_refl _) (.cells #[.int .i64 d.root, .int .i64 d.next, s] 31)
  obtain ⟨c1, hc1⟩ : ∃ c1, c1 = lockAsk d L ss id := ⟨_, rfl⟩
  have HAs := hide (specLockAsk_any n₀ d s v L ss id (w.alloc (.cells #[.int .i64 d.root, .int .i64 d.next, s] 31)) (hN.below (Nat.le_refl _) (hW.mono hn)) (hV.below (Nat.le_refl _) (hW.mono hn)) (by simp; omega) hl hkl hL c1 hc1)
  have HOw : Hid (∀ wx, Below w.heap.size w wx → Calls Try.prog 46 #[v, .int .i64 ss, .int .i64 id] wx fun e w' => e = .returned (.int .i64 (ownI L ss id)) ∧ w' = wx) := fun wx hb =>
    specOwn_any n₀ v L ss id wx (hV.below (Nat.le_refl _) (hb.mono hn)) (by have := hb.size; omega) hL
  have HDr : Hid (∀ wx, Below w.heap.size w wx → Calls Try.prog 47 #[v, .int .i64 ss, .int .i64 id] wx fun e w' => ∃ u, e = .returned u ∧ w'.ownsRow wx.heap.size 42 3 u (dropL L ss id).length (holdVals (dropL L ss id)) ∧ Below wx.heap.size wx w') := fun wx hb =>
    specDrop_any n₀ v L ss id wx (hV.below (Nat.le_refl _) (hb.mono hn)) (by have := hb.size; omega) hL
  have HC := hide hc
  have HK := hide hK
  have HC1 := hide hc1
  obtain ⟨a, cap, rfl⟩ := hV.form
  obtain ⟨sa, sc, rfl, -⟩ := hN
  clear hc hK hc1 hkl hV
  by_cases hlong : (4096 : Int) < (L.length : Int)
  · have h1 : lockAsk d L ss id = 2 := (lockAsk_bad (by rw [heldAsk_long (by omega)]; decide)).trans (heldAsk_long (by omega))
    obtain ⟨h2, h3⟩ := drop_bad (d := d) (L := L) (s := ss) (i := id) (by rw [h1]; decide)
    have HE : Hid (c = 2 ∧ K = []) := ⟨HC.out.trans (h2.trans h1), HK.out.trans h3⟩
    have HR : Hid (((w.alloc (.cells #[.int .i64 d.root, .int .i64 d.next, .slice sa d.nodes.length sc] 31)).alloc (.cells #[] 42)).ownsRow w.heap.size 42 3 (.slice (some ⟨w.heap.size + 1, 0, none⟩) 0 0) 0 []) := by
      have := hrow_none (w.alloc (.cells #[.int .i64 d.root, .int .i64 d.next, .slice sa d.nodes.length sc] 31)) w.heap.size (by simp)
      rw [Hid]; simpa using this
    clear h1 h2 h3
    go_enter Try.func22, Try.ntmps22
    go_wp2_with fail
    go_ret2
    exact ⟨_, ret_vc HE.out.1.symm, by rw [HE.out.2]; exact HR.out, hW.alloc (by simp) _⟩
  · by_cases h0 : c1 = 0
    · subst h0
      have HHo : Hid (HoldsP d L) := by
        have h1 := HC1.out.symm
        by_cases hh : heldAsk d L = 0
        · exact (heldAsk_zero hh).holds
        · exact absurd ((lockAsk_bad hh).symm.trans h1) hh
      by_cases hat : HasAt L ss id
      · obtain ⟨h2, h3⟩ := drop_ok HC1.out.symm hat
        have HE : Hid (c = 0 ∧ K = dropL L ss id) := ⟨HC.out.trans h2, HK.out.trans h3⟩
        have hne : (ownI L ss id == 0) = false := by
          have h : ¬ ownI L ss id = 0 := fun h0 => (own_has HHo.out).1 h0 hat
          simpa using h
        clear h2 h3 hat
        go_enter Try.func22, Try.ntmps22
        go_wp2_with fail
        refine HAs.out.mono ?_
        rintro e w1 ⟨rfl, hb1⟩
        simp only [World.size_alloc] at hb1
        have hs1 := hb1.size
        simp only [World.size_alloc] at hs1
        have hw1 := hW.trans (hb1.mono (by omega))
        have HO1 := hide (HOw.out _ hw1)
        have HD1 := hide (HDr.out _ hw1)
        go_wp2_with (first | (go_at_call 46; refine HO1.out.mono ?_; rintro e w' ⟨rfl, rfl⟩) | (go_at_call 47; refine HD1.out.mono ?_; rintro e w2 ⟨vv, rfl, hrow, hb2⟩))
        have HRow := hide hrow
        clear hrow
        go_wp2_with fail
        go_ret2
        exact ⟨_, ret_vc HE.out.1.symm, by rw [HE.out.2]; exact ownsRow_base3 HRow.out (by omega), hw1.trans (hb2.mono (by omega))⟩
      · obtain ⟨h2, h3⟩ := drop_no HC1.out.symm hat
        have HE : Hid (c = 17 ∧ K = []) := ⟨HC.out.trans h2, HK.out.trans h3⟩
        have hne : ownI L ss id = 0 := (own_has HHo.out).2 hat
        rw [hne] at HOw
        clear h2 h3 hat hne
        go_enter Try.func22, Try.ntmps22
        go_wp2_with fail
        refine HAs.out.mono ?_
        rintro e w1 ⟨rfl, hb1⟩
        simp only [World.size_alloc] at hb1
        have hs1 := hb1.size
        simp only [World.size_alloc] at hs1
        have hw1 := hW.trans (hb1.mono (by omega))
        have HO1 := hide (HOw.out _ hw1)
        have HR := hide (hrow_none w1 w.heap.size (by omega))
        go_wp2_with (go_at_call 46; refine HO1.out.mono ?_; rintro e w' ⟨rfl, rfl⟩)
        go_ret2
        exact ⟨_, ret_vc HE.out.1.symm, by rw [HE.out.2]; exact HR.out, hw1.alloc (by omega) _⟩
    · obtain ⟨h2, h3⟩ := drop_bad (d := d) (L := L) (s := ss) (i := id) (by rw [← HC1.out]; exact h0)
      have HE : Hid (c1 = c ∧ K = []) := ⟨by rw [HC.out, h2]; exact HC1.out, HK.out.trans h3⟩
      have h00 : (c1 != 0) = true := by simp [h0]
      clear h0 h2 h3
      go_enter Try.func22, Try.ntmps22
      go_wp2_with fail
      refine HAs.out.mono ?_
      rintro e w1 ⟨rfl, hb1⟩
      simp only [World.size_alloc] at hb1
      have hs1 := hb1.size
      simp only [World.size_alloc] at hs1
      have hw1 := hW.trans (hb1.mono (by omega))
      have HR := hide (hrow_none w1 w.heap.size (by omega))
      go_wp2_with fail
      go_ret2
      exact ⟨_, ret_vc HE.out.1, by rw [HE.out.2]; exact HR.out, hw1.alloc (by omega) _⟩

set_option maxHeartbeats 2000000 in
theorem implDropHold_any (n₀ : Nat) (d : PDoc) (s v : Value) (L : List PHold) (ss id : Int) (w : World) (hN : NodesAt n₀ w s d.nodes) (hV : HoldsAt n₀ w v L) (hn : n₀ ≤ w.heap.size) (hl : d.nodes.length ≤ 1048576) (hwf : WfDoc d) (hL : L.length ≤ 1048576) (c : Int) (K : List PHold) (hc : c = dropCode d L ss id) (hK : K = dropAns d L ss id) :
    Calls Try.prog 23 #[.agg #[.int .i64 d.root, .int .i64 d.next, s], v, .int .i64 ss, .int .i64 id] w (HoldsPost w K c) := by
  have hW := (Below.refl w.heap.size w).alloc (Nat.le_refl _) (.cells #[.int .i64 d.root, .int .i64 d.next, s] 31)
  have HLa := hide (locksAt_any n₀ d s _ L ss id (w.alloc (.cells #[.int .i64 d.root, .int .i64 d.next, s] 31)) (hN.below (Nat.le_refl _) (hW.mono hn)) (hV.below (Nat.le_refl _) (hW.mono hn)) (by simp; omega) hl hwf hL)
  have HC := hide hc
  have HK := hide hK
  obtain ⟨a, cap, rfl⟩ := hV.form
  obtain ⟨sa, sc, rfl, -⟩ := hN
  clear hc hK hV hwf
  go_enter Try.func23, Try.ntmps23
  go_wp2_with fail
  refine HLa.out.mono ?_
  rintro e w1 (⟨p, q, c2, rfl, hc2, hc1, hb1⟩ | ⟨lb, tb, ad, up, kv, rfl, hok, hgr, hlk, hb1⟩)
  · obtain ⟨h2, h3⟩ := drop_bad (d := d) (L := L) (s := ss) (i := id) (by rw [← hc2.out.2]; exact hc2.out.1)
    have HE : Hid (c2 = c ∧ K = []) := ⟨by rw [HC.out, h2]; exact hc2.out.2, HK.out.trans h3⟩
    simp only [World.size_alloc] at hb1
    have hw1 := hW.trans (hb1.mono (by omega))
    clear h2 h3
    go_wp2_with fail
    go_ret2
    exact ⟨.slice none 0 0, ret_vc HE.out.1, by rw [HE.out.2]; exact World.ownsRow_nil _ _ _ _, hw1⟩
  · simp only [World.size_alloc] at hb1
    have hs1 := hb1.size
    simp only [World.size_alloc] at hs1
    have hw1 := hW.trans (hb1.mono (by omega))
    obtain ⟨hlp, _, hid⟩ := lockAsk_zero hok.out
    have HHo := hide hlp.holds
    have hlt := hlk.lt
    simp only [World.size_alloc] at hlt
    have hin : ∀ j, j < L.length → (L[j]?.getD holdNil).node ∈ idsOf d.nodes := fun j hj => (HHo.out.ok j hj).1.2.1
    have HDr := hide (drop_any _ lb tb d ad up kv L ss id w1 hlk hgr hin hid hL (fun i j h1 h2 => HHo.out.less h1 h2))
    have HGr := hide hgr
    have HIn := hide hin
    clear hgr hlk hlp hid hin
    go_wp2_with fail
    refine HDr.out.mono ?_
    rintro e w2 ⟨r, K2, rfl, hk2, hlk2, hb2⟩
    have hw2 : Below w.heap.size w w2 := hw1.trans (hb2.mono (by omega))
    cases r
    · have HE : Hid ((17 : Int) = c ∧ K = []) := by
        rcases hk2.out with ⟨_, h, _⟩ | ⟨hn, _, _⟩
        · cases h
        · obtain ⟨h2, h3⟩ := drop_no hok.out hn
          exact ⟨(HC.out.trans h2).symm, HK.out.trans h3⟩
      go_wp2_with fail
      go_ret2
      exact ⟨.slice none 0 0, ret_vc HE.out.1, by rw [HE.out.2]; exact World.ownsRow_nil _ _ _ _, hw2⟩
    · have HE : Hid ((0 : Int) = c ∧ K2 = K) := by
        rcases hk2.out with ⟨ha, _, rfl⟩ | ⟨_, h, _⟩
        · obtain ⟨h2, h3⟩ := drop_ok hok.out ha
          exact ⟨(HC.out.trans h2).symm, (HK.out.trans h3).symm⟩
        · cases h
      have HIn2 : Hid (∀ j, j < K2.length → (K2[j]?.getD holdNil).node ∈ idsOf d.nodes) := fun j hj => by
        have hm : K2[j]?.getD holdNil ∈ L := by
          rcases hk2.out with ⟨_, _, rfl⟩ | ⟨_, _, rfl⟩
          · exact (List.mem_filter.1 (at_memH hj)).1
          · exact at_memH hj
        obtain ⟨k, hk, e⟩ := mem_at hm
        rw [← e]; exact HIn.out k hk
      have HL2 : Hid (K2.length ≤ 1048576) := by
        rcases hk2.out with ⟨_, _, rfl⟩ | ⟨_, _, rfl⟩
        · have := dropL_len L ss id; exact Nat.le_trans this hL
        · exact hL
      obtain ⟨_, u, hbox, hrow⟩ := hlk2
      have hlb2 : lb < w2.heap.size := (Array.getElem?_eq_some_iff.1 hbox).1
      have HHs := hide (holdsOf_any (lb + 1) _ tb d ad up kv u K2 w2 hrow (HGr.out.below (Nat.le_refl _) hb2).out HIn2.out HL2.out)
      obtain ⟨ua, uc, rfl⟩ := slice_form hrow
      have b1 := cell_of_heap hbox 1
      simp only [List.getElem?_toArray, List.getElem?_cons_succ, List.getElem?_cons_zero] at b1
      clear hbox hrow
      go_wp2_with fail
      refine HHs.out.mono ?_
      rintro e w3 ⟨u3, rfl, hrow3, hb3⟩
      have HRow := hide hrow3
      have hs2 := hw2.size
      clear hrow3
      go_wp2_with fail
      go_ret2
      exact ⟨_, ret_vc HE.out.1, by rw [← HE.out.2]; exact ownsRow_base3 HRow.out (by omega), hw2.trans (hb3.mono (by omega))⟩
end Go.Proofs.Ytfjhpfgffbghdaa
