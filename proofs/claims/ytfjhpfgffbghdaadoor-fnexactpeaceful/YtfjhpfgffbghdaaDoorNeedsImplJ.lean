/-
  What the program's locks need of a node, and the join of it: what a session has there.
-/
import Derived.Test.YtfjhpfgffbghdaaDoorJoinJ
import Derived.Test.YtfjhpfgffbghdaaDoorJoinK
import Derived.Test.YtfjhpfgffbghdaaDoorJoinI
import Derived.Test.YtfjhpfgffbghdaaDoorJoinH
namespace Go.Proofs.YtfjhpfgffbghdaaDoor
open Go.RowKit

theorem nat_modeN {m : Int} (h : ModeP m) : ∃ n : Nat, n < 6 ∧ m = n := ⟨m.toNat, by obtain ⟨a, b⟩ := h; omega, by obtain ⟨a, b⟩ := h; omega⟩

set_option maxHeartbeats 1000000 in
set_option maxRecDepth 100000 in
theorem needs_any (d : PDoc) (G : Good d) (n₀ tb : Nat) (ad : Int → Nat) (up : Int → Option Int) (kv : Int → Value) (x : PHold) (hx : HoldP d x) (i : Int) (hi : i ∈ idsOf d.nodes) (w : World) (hgr : Grown n₀ w d tb ad up kv) (hI : IntentsAt w) :
    Calls Tryd.prog 56 #[lockVal ad x, .pointer (some ⟨ad i, 0, none⟩)] w fun e w' => e = .returned (.int .i64 (partI d i x)) ∧ Below w.heap.size w w' := by
  obtain ⟨xs, xn, xm⟩ := x
  have hxn : xn ∈ idsOf d.nodes := hx.2.1
  have hW := (Below.refl w.heap.size w).alloc (Nat.le_refl _) (.cells #[.int .i64 xs, .int .i64 xm, .pointer (some ⟨ad xn, 0, none⟩)] 71)
  have hgr1 := hgr.below hW
  obtain ⟨r, hr⟩ : ∃ r, r = partI d i ⟨xs, xn, xm⟩ := ⟨_, rfl⟩
  rw [← hr]
  show Calls Tryd.prog 56 #[.agg #[.int .i64 xs, .int .i64 xm, .pointer (some ⟨ad xn, 0, none⟩)], .pointer (some ⟨ad i, 0, none⟩)] w fun e w' => e = .returned (.int .i64 r) ∧ Below w.heap.size w w'
  have HR := hide hr
  have hIlt := hI.lt
  by_cases hni : xn = i
  · have HE : Hid (r = xm) := HR.out.trans (partI_on hni)
    subst hni
    have hcmp := branch_same (ad xn) (w.alloc (.cells #[.int .i64 xs, .int .i64 xm, .pointer (some ⟨ad xn, 0, none⟩)] 71))
    clear hgr hgr1 hr hx
    go_enter Tryd.func56, Tryd.ntmps56
    go_wp2_with fail
    go_ret
    exact ⟨ret_int HE.out.symm, hW⟩
  · have hne : ad xn ≠ ad i := fun e => by
      obtain ⟨y, hy, rfl⟩ := node_of hxn
      obtain ⟨z, hz, rfl⟩ := node_of hi
      exact hni (hgr.hung.inj y hy z hz e)
    have hcmp := branch_other hgr1.hung hxn hi hne
    have HBl := hide (isBelow_any d G n₀ tb ad up kv xn i hxn hi _ hgr1)
    by_cases hab : i ∈ upsOf d xn
    · have HE : Hid (r = intentI xm) := HR.out.trans (partI_above hni hab)
      have hb1 : aboveB d xn i = true := (aboveB_iff G hxn hni).2 hab
      rw [hb1] at HBl
      obtain ⟨m, hm, rfl⟩ := nat_modeN (show ModeP xm from hx.modeP)
      have hc := hI m hm
      clear hni hgr hgr1 hr hx hab hI hb1
      generalize intentI (m : Int) = z at *
      go_enter Tryd.func56, Tryd.ntmps56
      go_wp2_with (go_at_call 79; refine HBl.out.mono ?_; rintro e w' ⟨rfl, rfl⟩)
      go_ret
      exact ⟨ret_int HE.out.symm, hW⟩
    · have HE : Hid (r = 0) := HR.out.trans (partI_off hni hab)
      have hb1 : aboveB d xn i = false := by rw [← Bool.not_eq_true, aboveB_iff G hxn hni]; exact hab
      rw [hb1] at HBl
      clear hni hgr hgr1 hr hx hab hI hb1
      go_enter Tryd.func56, Tryd.ntmps56
      go_wp2_with (go_at_call 79; refine HBl.out.mono ?_; rintro e w' ⟨rfl, rfl⟩)
      go_ret
      exact ⟨ret_int HE.out.symm, hW⟩

set_option maxHeartbeats 2000000 in
set_option maxRecDepth 100000 in
theorem joinedNeeds_any (d : PDoc) (G : Good d) (n₀ n₁ lb tb : Nat) (ad : Int → Nat) (up : Int → Option Int) (kv : Int → Value) (L : List PHold) (hL : HoldsP d L) (s i : Int) (hi : i ∈ idsOf d.nodes) (w : World) (hgr : Grown n₀ w d tb ad up kv) (hlk : LocksAt n₁ w lb tb ad L) (hn : n₁ ≤ w.heap.size) (hI : IntentsAt w) :
    Calls Tryd.prog 55 #[.pointer (some ⟨lb, 0, none⟩), .int .i64 s, .pointer (some ⟨ad i, 0, none⟩), .func (.func 56) #[] #[]] w fun e w' => e = .returned (.int .i64 (modeAtP d L s i)) ∧ Below w.heap.size w w' := by
  have HGr := hide hgr
  have HI := hide hI
  have hIlt := hI.lt
  have hl30 := hL.len
  obtain ⟨hlb, hc0, a, cap, hc1, hk⟩ := hlk
  have hlb2 : lb < w.heap.size := by omega
  clear hgr hI
  go_enter Tryd.func55, Tryd.ntmps55
  go_wp2_with fail
  go_loopw [9, 17] (fun m idx wr => ∃ k : Nat, k ≤ L.length ∧ m = .int .i64 (joinedOf (partI d i) (L.take k) s) ∧ idx = .int .i64 k ∧ Below w.heap.size w wr) (fun _ idx _ => L.length - (intOf idx).toNat)
  case atStart => exact ⟨0, Nat.zero_le _, rfl, rfl, Below.refl _ _⟩
  case round =>
    obtain ⟨k, hkl, rfl, rfl, hbr⟩ := hrel
    have hsz := hbr.size
    by_cases hlt : k < L.length
    · obtain ⟨b, rfl, hb, hc⟩ := hk.resolve_left (by intro e; simp [e] at hlt)
      have hA := (hc k hlt).below (by omega) hbr
      have g0 := hA.c0
      have g1 := hA.c1
      have g2 := hA.c2
      have hxm := at_mem hlt
      have hxh := hL.mode _ hxm
      have hlt1 : (k : Int) < (L.length : Int) := by omega
      have hbl : b < wr.heap.size := by omega
      have hM : ModeP (joinedOf (partI d i) (L.take k) s) := joinedOf_mode (take_mem fun y hy => partI_mode (hL.mode y hy).modeP)
      have HHit := hide (@joinedOf_hit (partI d i) L s k hlt)
      have HMiss := hide (@joinedOf_miss (partI d i) L s k hlt)
      generalize L[k]?.getD holdNil = x at *
      have hb1 : Below wr.heap.size wr (wr.alloc (.cells #[.int .i64 x.session, .int .i64 x.mode, .pointer (some ⟨ad x.node, 0, none⟩)] 71)) := (Below.refl _ _).alloc (Nat.le_refl _) _
      have hb2 : Below w.heap.size w (wr.alloc (.cells #[.int .i64 x.session, .int .i64 x.mode, .pointer (some ⟨ad x.node, 0, none⟩)] 71)) := hbr.trans (hb1.mono hsz)
      have HNd := hide (needs_any d G n₀ tb ad up kv x hxh i hi _ (HGr.out.below hb2) (HI.out.below hb2 hIlt))
      have hPm := partI_mode (d := d) (i := i) hxh.modeP
      have hJm := joinI_mode hM hPm
      have HJ := hide (fun wx => implJoin_any (joinedOf (partI d i) (L.take k) s) (partI d i x) hM hPm wx)
      clear hc hk hA
      by_cases hss : x.session = s
      · have HE := hide (HHit.out hss)
        have hse : (x.session == s) = true := by simp [hss]
        clear hss HHit HMiss
        generalize joinedOf (partI d i) (L.take k) s = m0 at *
        generalize partI d i x = p0 at *
        go_wp2_with fail
        refine HNd.out.mono ?_
        rintro e w3 ⟨rfl, hb3⟩
        simp only [World.size_alloc] at hb3
        have hs3 := hb3.size
        go_wp2_with (go_at_call 78; refine (HJ.out _).mono ?_; rintro e w' ⟨rfl, rfl⟩)
        exact ⟨⟨k + 1, by omega, by rw [HE.out], by go_num, hb2.trans (hb3.mono (by omega))⟩, by simp [intOf]; omega⟩
      · have HE := hide (HMiss.out hss)
        have hse : (x.session == s) = false := by simp [hss]
        clear hss HHit HMiss
        generalize joinedOf (partI d i) (L.take k) s = m0 at *
        go_wp2_with fail
        exact ⟨⟨k + 1, by omega, by rw [HE.out], by go_num, hb2⟩, by simp [intOf]; omega⟩
    · have HF : Hid (joinedOf (partI d i) (L.take k) s = modeAtP d L s i) := by rw [Hid, List.take_of_length_le (by omega)]; rfl
      clear hk
      generalize joinedOf (partI d i) (L.take k) s = m0 at *
      go_wp2_with fail
      go_ret
      exact ⟨ret_int HF.out, hbr⟩

set_option maxHeartbeats 400000 in
theorem modeAt_any (d : PDoc) (G : Good d) (n₀ n₁ lb tb : Nat) (ad : Int → Nat) (up : Int → Option Int) (kv : Int → Value) (L : List PHold) (hL : HoldsP d L) (s i : Int) (hi : i ∈ idsOf d.nodes) (w : World) (hgr : Grown n₀ w d tb ad up kv) (hlk : LocksAt n₁ w lb tb ad L) (hn : n₁ ≤ w.heap.size) (hI : IntentsAt w) :
    Calls Tryd.prog 32 #[.pointer (some ⟨lb, 0, none⟩), .int .i64 s, .pointer (some ⟨ad i, 0, none⟩)] w fun e w' => e = .returned (.int .i64 (modeAtP d L s i)) ∧ Below w.heap.size w w' := by
  have HJ := hide (joinedNeeds_any d G n₀ n₁ lb tb ad up kv L hL s i hi w hgr hlk hn hI)
  clear hgr hlk hI
  go_enter Tryd.func32, Tryd.ntmps32
  go_wp2_with (go_at_call 55; refine HJ.out.mono ?_; rintro e w' ⟨rfl, hb⟩)
  go_ret
  exact ⟨rfl, hb⟩
end Go.Proofs.YtfjhpfgffbghdaaDoor
