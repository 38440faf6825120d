/-
  What the program's calls on locks, a session and a node ask first.
-/
import Derived.Test.YtfjhpfgffbghdaaLocksOfJ
namespace Go.Proofs.Ytfjhpfgffbghdaa
open Go.RowKit

def AtLocksPost (w : World) (d : PDoc) (L : List PHold) (s i : Int) (e : Ending) (w' : World) : Prop :=
  (∃ (p q : Option Addr) (c : Int), e = .returned (.tuple #[.pointer p, .pointer q, .int .i64 c]) ∧ Hid (c ≠ 0 ∧ c = lockAsk d L s i) ∧ (c != 0) = true ∧ Below w.heap.size w w') ∨
  (∃ (lb tb : Nat) (ad : Int → Nat) (up : Int → Option Int) (kv : Int → Value), e = .returned (.tuple #[.pointer (some ⟨lb, 0, none⟩), .pointer (some ⟨ad i, 0, none⟩), .int .i64 0]) ∧ Hid (lockAsk d L s i = 0) ∧ GrownIn w.heap.size lb w' d tb ad up kv ∧ LocksOwn w.heap.size w' lb tb ad L ∧ Below w.heap.size w w')

set_option maxHeartbeats 1000000 in
set_option maxRecDepth 100000 in
theorem locksAt_any (n₀ : Nat) (d : PDoc) (s v : Value) (L : List PHold) (ss id : Int) (w : World) (hN : NodesAt n₀ w s d.nodes) (hV : HoldsAt n₀ w v L) (hn : n₀ ≤ w.heap.size) (hl : d.nodes.length ≤ 1048576) (hwf : WfDoc d) (hL : L.length ≤ 1048576) :
    Calls Try.prog 48 #[.agg #[.int .i64 d.root, .int .i64 d.next, s], v, .int .i64 ss, .int .i64 id] w (AtLocksPost w d L ss id) := by
  have hW := (Below.refl w.heap.size w).alloc (Nat.le_refl _) (.cells #[.int .i64 d.root, .int .i64 d.next, s] 31)
  have HLo := hide (locksOf_any n₀ d s v L _ (hN.below (Nat.le_refl _) (hW.mono hn)) (hV.below (Nat.le_refl _) (hW.mono hn)) (by simp; omega) hl hwf hL)
  obtain ⟨a, cap, rfl⟩ := hV.form
  obtain ⟨sa, sc, rfl, -⟩ := hN
  clear hwf hV
  go_enter Try.func48, Try.ntmps48
  go_wp2_with fail
  refine HLo.out.mono ?_
  rintro e w1 (⟨c, rfl, hc, hc1, hb1⟩ | ⟨lb, tb, ad, up, kv, rfl, hok, hgr, hlk, hb1⟩)
  · have HX : Hid (c ≠ 0 ∧ c = lockAsk d L ss id) := ⟨hc.out.1, by rw [lockAsk_bad (by rw [← hc.out.2]; exact hc.out.1)]; exact hc.out.2⟩
    simp only [World.size_alloc] at hb1
    go_wp2_with fail
    refine bodyPost_ret (v := .tuple #[.pointer none, .pointer none, .int .i64 c]) (by simp [results, Try.results48, go_sem]) rfl ?_
    exact .inl ⟨_, _, c, rfl, HX, hc1, hW.trans (hb1.mono (by omega))⟩
  · simp only [World.size_alloc] at hb1
    have HH := hide (heldAsk_ok hok.out)
    have hs1 := hb1.size
    simp only [World.size_alloc] at hs1
    have hw1 := hW.trans (hb1.mono (by omega))
    obtain ⟨c2, hc2⟩ : ∃ c2, c2 = forCode d ss id := ⟨_, rfl⟩
    obtain ⟨r, hr⟩ : ∃ r : Option Addr, r = if c2 = 0 then some ⟨ad id, 0, none⟩ else none := ⟨_, rfl⟩
    have HBf := hide (branchFor_any d hok.out.good _ tb ad up kv w1 hgr.out ss id c2 hc2 r hr)
    have HGr := hide hgr
    have HLk := hide hlk
    have HC2 := hide (hc2.trans (lockAsk_for HH.out).symm)
    obtain ⟨hlb, l0, -⟩ := hlk.at
    have HR := hide hr
    clear hgr hc2 hr
    by_cases h0 : c2 = 0
    · have hr1 : r = some ⟨ad id, 0, none⟩ := by have := HR.out; rwa [if_pos h0] at this
      subst h0 hr1
      go_wp2_with fail
      refine HBf.out.mono ?_
      rintro e w2 ⟨rfl, hb2⟩
      go_wp2_with fail
      refine bodyPost_ret (v := .tuple #[.pointer (some ⟨lb, 0, none⟩), .pointer (some ⟨ad id, 0, none⟩), .int .i64 0]) (by simp [results, Try.results48, go_sem]) rfl ?_
      exact .inr ⟨lb, tb, ad, up, kv, rfl, HC2.out.symm, HGr.out.below (by simp) (hb2.mono (Nat.le_of_lt HLk.out.lt.2)), HLk.out.below (by simp) hb2, hw1.trans (hb2.mono (by omega))⟩
    · have h1 : (c2 != 0) = true := by simp [h0]
      have HX : Hid (c2 ≠ 0 ∧ c2 = lockAsk d L ss id) := ⟨h0, HC2.out⟩
      clear h0
      go_wp2_with fail
      refine HBf.out.mono ?_
      rintro e w2 ⟨rfl, hb2⟩
      go_wp2_with fail
      refine bodyPost_ret (v := .tuple #[.pointer (some ⟨lb, 0, none⟩), .pointer r, .int .i64 c2]) (by simp [results, Try.results48, go_sem]) rfl ?_
      exact .inl ⟨_, _, c2, rfl, HX, h1, hw1.trans (hb2.mono (by omega))⟩
end Go.Proofs.Ytfjhpfgffbghdaa
