/-
  Where a lock stands in a list of them, or would: what the program's search answers.
-/
import Derived.Test.YtfjhpfgffbghdaaHoldCmpJ
import Derived.Test.YtfjhpfgffbghdaaJoinK
import Derived.Test.YtfjhpfgffbghdaaCalmJ
namespace Go.Proofs.Ytfjhpfgffbghdaa
open Go.RowKit

set_option maxHeartbeats 4000000 in
set_option maxRecDepth 100000 in
theorem searchLocks_any (B n₁ tb : Nat) (d : PDoc) (ad : Int → Nat) (up : Int → Option Int) (kv : Int → Value) (v : Value) (L : List PHold) (t : PHold) (w : World) (hrow : w.ownsRow B 72 3 v L.length (lockVals ad L)) (hgr : Grown n₁ w d tb ad up kv) (hin : ∀ j, j < L.length → (L[j]?.getD holdNil).node ∈ idsOf d.nodes) (htn : t.node ∈ idsOf d.nodes) (hL : L.length ≤ 1048576) (hs : SortedH L) :
    Calls Try.prog 91 #[v, lockVal ad t, .func (.func 64) #[] #[]] w fun e w' => ∃ (p : Nat) (r : Bool), e = .returned (.tuple #[.int .i64 p, .bool r]) ∧ Hid (PlaceP L t p ∧ (r = true ↔ p < L.length ∧ cmpH (L[p]?.getD holdNil) t = 0)) ∧ Below w.heap.size w w' := by
  obtain ⟨W0, hW0⟩ : ∃ W0, W0 = w.alloc (.cells #[.int .i64 t.session, .int .i64 t.mode, .pointer (some ⟨ad t.node, 0, none⟩)] 72) := ⟨_, rfl⟩
  have hw0 : Below w.heap.size w W0 := by rw [hW0]; exact (Below.refl w.heap.size w).alloc (Nat.le_refl _) _
  have hh0 : W0.heap[w.heap.size]? = some (.cells #[.int .i64 t.session, .int .i64 t.mode, .pointer (some ⟨ad t.node, 0, none⟩)] 72 (0, 0)) := by rw [hW0]; exact alloc_new w _
  have hz0 : w.heap.size < W0.heap.size := (Array.getElem?_eq_some_iff.1 hh0).1
  have HOld : Hid (∀ wx, Below W0.heap.size W0 wx → Below w.heap.size w wx ∧ w.heap.size < wx.heap.size) := fun wx hb => ⟨hw0.trans (hb.mono (by omega)), by have := hb.size; omega⟩
  have HB : Hid (∀ wx, Below W0.heap.size W0 wx → wx.cell? ⟨w.heap.size, 0, none⟩ = some (.int .i64 t.session) ∧ wx.cell? ⟨w.heap.size, 1, none⟩ = some (.int .i64 t.mode) ∧ wx.cell? ⟨w.heap.size, 2, none⟩ = some (.pointer (some ⟨ad t.node, 0, none⟩))) := fun wx hb => by
    have j := (hb.block w.heap.size (by omega)).trans hh0
    exact ⟨cell_of_heap j 0, cell_of_heap j 1, cell_of_heap j 2⟩
  have HS := hide hs
  have HIn := hide hin
  obtain ⟨a, cap, rfl⟩ := slice_form hrow
  have HCell : Hid (∀ k, k < L.length → ∃ b, a = some ⟨b, 0, none⟩ ∧ ∀ wx, Below W0.heap.size W0 wx → b < wx.heap.size ∧ LockAt wx ad b (k * 3) (L[k]?.getD holdNil)) := fun k hk => by
    obtain ⟨b, cap', e, hbz, _⟩ := row_block hrow (by omega)
    simp only [Value.slice.injEq, true_and] at e
    obtain ⟨rfl, rfl⟩ := e
    exact ⟨b, rfl, fun wx hb => ⟨by have := (HOld.out wx hb).2; omega, (row_lockAt hrow hk).below hbz (HOld.out wx hb).1⟩⟩
  have HCm : Hid (∀ wx x, Below W0.heap.size W0 wx → x.node ∈ idsOf d.nodes → Calls Try.prog 64 #[lockVal ad x, lockVal ad t] wx fun e w' => e = .returned (.int .i64 (cmpH x t)) ∧ Below wx.heap.size wx w') := fun wx x hb hx => by
    have hgt := hgr.below (HOld.out wx hb).1
    obtain ⟨k1, k2⟩ := hgt.idCell hx
    obtain ⟨k3, k4⟩ := hgt.idCell htn
    exact compareLocks_any ad x t wx k1 k3 k2 k4
  have hb00 : Below W0.heap.size W0 W0 := Below.refl _ _
  clear hs hrow hgr hin hh0 hw0
  go_enter Try.func91, Try.ntmps91
  go_wp2_with fail
  rw [← hW0]
  clear hW0
  go_wp2_with fail
  go_loopw [9, 10] (fun lv hv wr => ∃ lo hi : Nat, lv = .int .i64 lo ∧ hv = .int .i64 hi ∧ lo ≤ hi ∧ hi ≤ L.length ∧ Hid ((∀ j, j < lo → lessB (L[j]?.getD holdNil) t = true) ∧ (∀ j, hi ≤ j → j < L.length → lessB (L[j]?.getD holdNil) t = false)) ∧ Below W0.heap.size W0 wr) (fun lv hv _ => (intOf hv).toNat - (intOf lv).toNat)
  case atStart => exact ⟨0, L.length, rfl, rfl, Nat.zero_le _, Nat.le_refl _, ⟨fun j hj => absurd hj (by omega), fun j h1 h2 => absurd h1 (by omega)⟩, hb00⟩
  case round =>
    obtain ⟨lo, hi, rfl, rfl, hlh, hhl, hinv, hbr⟩ := hrel
    obtain ⟨y0, y1, y2⟩ := HB.out _ hbr
    obtain ⟨hbw, hzr⟩ := HOld.out _ hbr
    have hsr := hbr.size
    by_cases hlt : lo < hi
    · obtain ⟨mid, hmid⟩ : ∃ mid : Nat, mid = (lo + hi) / 2 := ⟨_, rfl⟩
      have hmi : ((lo : Int) + (hi : Int)) / 2 = (mid : Int) := by omega
      have hml : mid < L.length := by omega
      have hm1 : lo ≤ mid := by omega
      have hm2 : mid < hi := by omega
      have hlt1 : (lo : Int) < (hi : Int) := by omega
      clear hmid
      obtain ⟨b, rfl, hc⟩ := HCell.out mid hml
      obtain ⟨hbz, hA⟩ := hc wr hbr
      have g0 := hA.c0
      have g1 := hA.c1
      have g2 := hA.c2
      have HBf : Hid (lessB (L[mid]?.getD holdNil) t = true → ∀ j, j < mid + 1 → lessB (L[j]?.getD holdNil) t = true) := fun h => HS.out.before hml h
      have HBh : Hid (lessB (L[mid]?.getD holdNil) t = false → ∀ j, mid ≤ j → j < L.length → lessB (L[j]?.getD holdNil) t = false) := fun h => HS.out.behind h
      have HXn : Hid ((L[mid]?.getD holdNil).node ∈ idsOf d.nodes) := HIn.out mid hml
      clear hc hA
      generalize L[mid]?.getD holdNil = x at *
      have hcal := calm_cell wr
      have HC1 : Hid (∀ u : Calm wr, Calls Try.prog 64 #[lockVal ad x, lockVal ad t] u.out fun e w' => e = .returned (.int .i64 (cmpH x t)) ∧ Below u.out.heap.size u.out w') := fun u => HCm.out u.out x (hbr.trans (u.below.mono hsr)) HXn.out
      have hcr := cmpH_range x t
      have HCl : Hid (cmpH x t < 0 ↔ lessB x t = true) := cmpH_less
      generalize cmpH x t = c at *
      by_cases hcl : c < 0
      · have HE := hide (HBf.out (HCl.out.1 hcl))
        go_wp2_with fail
        refine wp_region_calm (by kernel_rfl) (by kernel_rfl) ?_
        repeat (go_big_quiet_step ((go_at_call 64; exact calm_of (HC1.out _))))
        refine wpQuiet_nil ?_
        rintro _ ⟨u, rfl⟩
        have ht := u.below
        go_wp2_with fail
        exact ⟨⟨mid + 1, hi, by go_num, rfl, by omega, hhl, ⟨HE.out, hinv.out.2⟩, hbr.trans (ht.mono hsr)⟩, by simp [intOf]; omega⟩
      · have HE : Hid (∀ j, mid ≤ j → j < L.length → lessB (L[j]?.getD holdNil) t = false) := HBh.out (by rw [← Bool.not_eq_true, ← HCl.out]; exact hcl)
        go_wp2_with fail
        refine wp_region_calm (by kernel_rfl) (by kernel_rfl) ?_
        repeat (go_big_quiet_step ((go_at_call 64; exact calm_of (HC1.out _))))
        refine wpQuiet_nil ?_
        rintro _ ⟨u, rfl⟩
        have ht := u.below
        go_wp2_with fail
        exact ⟨⟨lo, mid, rfl, rfl, by omega, by omega, ⟨hinv.out.1, HE.out⟩, hbr.trans (ht.mono hsr)⟩, by simp [intOf]; omega⟩
    · obtain rfl : lo = hi := by omega
      have HP : Hid (PlaceP L t lo) := ⟨hhl, hinv.out.1, hinv.out.2⟩
      by_cases hll : lo < L.length
      · have hll1 : (lo : Int) < (L.length : Int) := by omega
        obtain ⟨b, rfl, hc⟩ := HCell.out lo hll
        obtain ⟨hbz, hA⟩ := hc wr hbr
        have g0 := hA.c0
        have g1 := hA.c1
        have g2 := hA.c2
        clear hc hA
        have HX : Hid (∀ r : Bool, r = decide (cmpH (L[lo]?.getD holdNil) t = 0) → PlaceP L t lo ∧ (r = true ↔ lo < L.length ∧ cmpH (L[lo]?.getD holdNil) t = 0)) := fun r hr => ⟨HP.out, by rw [hr]; simp [hll]⟩
        obtain ⟨x, hx⟩ : ∃ x, x = L[lo]?.getD holdNil := ⟨_, rfl⟩
        have HXn : Hid (x.node ∈ idsOf d.nodes) := by rw [Hid, hx]; exact HIn.out lo hll
        rw [← hx] at g0 g1 g2
        have hcal := calm_cell wr
        have HC1 : Hid (∀ u : Calm wr, Calls Try.prog 64 #[lockVal ad x, lockVal ad t] u.out fun e w' => e = .returned (.int .i64 (cmpH x t)) ∧ Below u.out.heap.size u.out w') := fun u => HCm.out u.out x (hbr.trans (u.below.mono hsr)) HXn.out
        have hcr := cmpH_range x t
        obtain ⟨c, hc⟩ : ∃ c, c = cmpH x t := ⟨_, rfl⟩
        rw [← hc] at HC1 hcr
        have HCx : Hid (c = cmpH (L[lo]?.getD holdNil) t) := by rw [Hid, hc, hx]
        clear hc hx
        by_cases hc0 : c = 0
        · subst hc0
          have HE := hide (HX.out true (by rw [← HCx.out]; rfl))
          go_wp2_with fail
          refine wp_region_calm (by kernel_rfl) (by kernel_rfl) ?_
          repeat (go_big_quiet_step ((go_at_call 64; exact calm_of (HC1.out _))))
          refine wpQuiet_nil ?_
          rintro _ ⟨u, rfl⟩
          have ht := u.below
          go_wp2_with fail
          go_ret2
          exact ⟨lo, true, rfl, ⟨HE.out.1, fun _ => HE.out.2.1 (by trivial), fun _ => rfl⟩, hbw.trans (ht.mono (by omega))⟩
        · have hc1 : (c == 0) = false := by simp [hc0]
          have HE := hide (HX.out false (by rw [← HCx.out]; simp [hc0]))
          go_wp2_with fail
          refine wp_region_calm (by kernel_rfl) (by kernel_rfl) ?_
          repeat (go_big_quiet_step ((go_at_call 64; exact calm_of (HC1.out _))))
          refine wpQuiet_nil ?_
          rintro _ ⟨u, rfl⟩
          have ht := u.below
          go_wp2_with fail
          go_ret2
          exact ⟨lo, false, rfl, HE.out, hbw.trans (ht.mono (by omega))⟩
      · have hll1 : ¬ (lo : Int) < (L.length : Int) := by omega
        have HE : Hid (PlaceP L t lo ∧ ((false : Bool) = true ↔ lo < L.length ∧ cmpH (L[lo]?.getD holdNil) t = 0)) := ⟨HP.out, by simp [hll]⟩
        go_wp2_with fail
        refine wp_region_calm (by kernel_rfl) (by kernel_rfl) ?_
        repeat (go_big_quiet_step (fail))
        refine wpQuiet_nil ?_
        rintro _ ⟨u, rfl⟩
        have ht := u.below
        go_wp2_with fail
        go_ret2
        exact ⟨lo, false, rfl, HE.out, hbw.trans (ht.mono (by omega))⟩


set_option maxHeartbeats 1000000 in
set_option maxRecDepth 100000 in
theorem placeOf_any (lo n₁ lb tb : Nat) (d : PDoc) (ad : Int → Nat) (up : Int → Option Int) (kv : Int → Value) (L : List PHold) (s i : Int) (w : World) (hown : LocksOwn lo w lb tb ad L) (hgr : Grown n₁ w d tb ad up kv) (hin : ∀ j, j < L.length → (L[j]?.getD holdNil).node ∈ idsOf d.nodes) (hi : i ∈ idsOf d.nodes) (hL : L.length ≤ 1048576) (hs : SortedH L) :
    Calls Try.prog 68 #[.pointer (some ⟨lb, 0, none⟩), .int .i64 s, .pointer (some ⟨ad i, 0, none⟩)] w fun e w' => ∃ (p : Nat) (r : Bool), e = .returned (.tuple #[.int .i64 p, .bool r]) ∧ Hid (PlaceP L ⟨s, i, 0⟩ p ∧ (r = true ↔ p < L.length ∧ isAt s i (L[p]?.getD holdNil) = true)) ∧ Below w.heap.size w w' := by
  obtain ⟨_, u, hbox, hrow⟩ := hown
  have HSe := hide (searchLocks_any (lb + 1) n₁ tb d ad up kv u L ⟨s, i, 0⟩ w hrow hgr hin hi hL hs)
  obtain ⟨a, cap, rfl⟩ := slice_form hrow
  have b1 := cell_of_heap hbox 1
  simp only [List.getElem?_toArray, List.getElem?_cons_succ, List.getElem?_cons_zero] at b1
  have hlb : lb < w.heap.size := (Array.getElem?_eq_some_iff.1 hbox).1
  clear hrow hgr hin hi hs hbox
  go_enter Try.func68, Try.ntmps68
  go_wp2_with fail
  refine HSe.out.mono ?_
  rintro e w1 ⟨p, r, rfl, hp, hb⟩
  have HP : Hid (PlaceP L ⟨s, i, 0⟩ p ∧ (r = true ↔ p < L.length ∧ isAt s i (L[p]?.getD holdNil) = true)) := ⟨hp.out.1, hp.out.2.trans (and_congr_right fun _ => by rw [cmpH_zero, isAt_iff])⟩
  go_wp2_with fail
  go_ret2
  exact ⟨p, r, rfl, HP, hb⟩
end Go.Proofs.Ytfjhpfgffbghdaa
