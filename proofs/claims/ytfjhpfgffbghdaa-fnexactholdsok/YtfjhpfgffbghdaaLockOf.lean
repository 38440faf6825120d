/-
  What the program asks of a session and a node, and of a hold, of a tree in memory.
-/
import Derived.Test.YtfjhpfgffbghdaaLocksRep
namespace Go.Proofs.Ytfjhpfgffbghdaa
open Go.RowKit Go.Shelf

theorem between_no {a lo hi : Int} (h : ¬ (lo ≤ a ∧ a ≤ hi)) : inB a lo hi = false := by rw [← Bool.not_eq_true, inB_iff]; exact h

set_option maxHeartbeats 1000000 in
set_option maxRecDepth 100000 in
theorem branchFor_any (d : PDoc) (hg : Good d) (n₁ tb : Nat) (ad : Int → Nat) (up : Int → Option Int) (kv : Int → Value) (W : World) (hgr : Grown n₁ W d tb ad up kv) (ss id c : Int) (hc : c = forCode d ss id) (r : Option Addr) (hr : r = if c = 0 then some ⟨ad id, 0, none⟩ else none) :
    Calls Try.prog 73 #[.pointer (some ⟨tb, 0, none⟩), .int .i64 ss, .int .i64 id] W fun e w' => e = .returned (.tuple #[.pointer r, .int .i64 c]) ∧ Below W.heap.size W w' := by
  have HC := hide hc
  have HRr := hide hr
  clear hc hr
  by_cases hs : 1 ≤ ss ∧ ss ≤ 999
  · have hs1 : inB ss 1 999 = true := inB_iff.2 hs
    have htop : W.cell? ⟨tb, 0, none⟩ = some (.pointer (some ⟨ad d.root, 0, none⟩)) := by simpa using cell_of_heap hgr.top 0
    have htb : tb < W.heap.size := (Array.getElem?_eq_some_iff.1 hgr.top).1
    have F := hg.toFlat
    obtain ⟨q, hq⟩ : ∃ q : Option Addr, q = if id ∈ order d.nodes d.nodes.length d.root then some ⟨ad id, 0, none⟩ else none := ⟨_, rfl⟩
    have HF : Hid (Calls Try.prog 94 #[.pointer (some ⟨ad d.root, 0, none⟩), .int .i64 id] W fun e W' => e = .returned (.pointer q) ∧ Below W.heap.size W W') :=
      find_any d.nodes ad up F.walkable W.heap.size d.nodes.length d.root F.rootIn F.low id W (Nat.le_refl _) (hgr.tree hg) q hq
    by_cases hin : id ∈ idsOf d.nodes
    · rw [if_pos ((hg.order_iff id).2 hin)] at hq
      subst hq
      have HE : Hid (c = 0) := HC.out.trans (forCode_ok hs hin)
      have HE2 : Hid (r = some ⟨ad id, 0, none⟩) := by have := HRr.out; rwa [if_pos HE.out] at this
      clear hgr hg F hin hs
      go_enter Try.func73, Try.ntmps73
      go_wp2_with (first | (go_at_call 87; refine (between_any _ _ _ _).mono ?_; rintro e w' ⟨rfl, rfl⟩) | (go_at_call 94; refine HF.out.mono ?_; rintro e w2 ⟨rfl, hb2⟩))
      go_ret2
      exact ⟨by rw [HE.out, HE2.out]; rfl, hb2⟩
    · rw [if_neg (fun h => hin ((hg.order_iff id).1 h))] at hq
      subst hq
      have HE : Hid (c = 5) := HC.out.trans (forCode_none hs hin)
      have HE2 : Hid (r = none) := by have := HRr.out; rwa [if_neg (by rw [HE.out]; decide)] at this
      clear hgr hg F hin hs
      go_enter Try.func73, Try.ntmps73
      go_wp2_with (first | (go_at_call 87; refine (between_any _ _ _ _).mono ?_; rintro e w' ⟨rfl, rfl⟩) | (go_at_call 94; refine HF.out.mono ?_; rintro e w2 ⟨rfl, hb2⟩))
      go_ret2
      exact ⟨by rw [HE.out, HE2.out]; rfl, hb2⟩
  · have hs1 := between_no hs
    have HE : Hid (c = 4) := HC.out.trans (forCode_range hs)
    have HE2 : Hid (r = none) := by have := HRr.out; rwa [if_neg (by rw [HE.out]; decide)] at this
    clear hgr hg hs
    go_enter Try.func73, Try.ntmps73
    go_wp2_with (go_at_call 87; refine (between_any _ _ _ _).mono ?_; rintro e w' ⟨rfl, rfl⟩)
    go_ret2
    exact ⟨by rw [HE.out, HE2.out]; rfl, Below.refl _ _⟩

/-- What the program makes of a hold: a lock, or nothing. -/
@[reducible] def lockRes (ad : Int → Nat) (x : PHold) : Bool → Value
  | true => lockVal ad x
  | false => .agg #[.int .i64 0, .int .i64 0, .pointer none]

set_option maxHeartbeats 1000000 in
set_option maxRecDepth 100000 in
theorem lockOf_any (d : PDoc) (hg : Good d) (n₁ tb : Nat) (ad : Int → Nat) (up : Int → Option Int) (kv : Int → Value) (W : World) (hgr : Grown n₁ W d tb ad up kv) (x : PHold) (c : Int) (hc : c = ofCode d x) (r : Bool) (hr : r = decide (c = 0)) :
    Calls Try.prog 63 #[.pointer (some ⟨tb, 0, none⟩), holdVal x] W fun e w' => e = .returned (.tuple #[lockRes ad x r, .int .i64 c]) ∧ Below W.heap.size W w' := by
  have hb0 := ((Below.refl W.heap.size W).alloc (Nat.le_refl _) (.cells #[.int .i64 x.session, .int .i64 x.node, .int .i64 x.mode] 42)).alloc (by simp) (.cells #[.int .i64 0, .int .i64 0, .pointer none] 72)
  obtain ⟨c1, hc1⟩ : ∃ c1, c1 = forCode d x.session x.node := ⟨_, rfl⟩
  obtain ⟨p, hp⟩ : ∃ p : Option Addr, p = if c1 = 0 then some ⟨ad x.node, 0, none⟩ else none := ⟨_, rfl⟩
  have HB := hide (branchFor_any d hg n₁ tb ad up kv _ (hgr.below hb0) x.session x.node c1 hc1 p hp)
  have HC := hide hc
  have HC1 := hide hc1
  have HP := hide hp
  have HRr := hide hr
  clear hc hc1 hp hr hgr hg
  by_cases h1 : c1 = 0
  · have HP1 : Hid (p = some ⟨ad x.node, 0, none⟩) := by have := HP.out; rwa [if_pos h1] at this
    have HZ := hide h1
    have hp := HP1.out
    subst h1 hp
    by_cases hm : 1 ≤ x.mode ∧ x.mode ≤ 5
    · have hm1 := inB_iff.2 hm
      have HE : Hid (c = 0) := by rw [Hid, HC.out]; unfold ofCode; rw [if_pos HC1.out.symm, if_pos hm]
      have HE2 : Hid (r = true) := by rw [Hid, HRr.out, HE.out]; rfl
      clear hm HP HP1 HZ
      go_enter Try.func63, Try.ntmps63
      go_wp2_with fail
      refine HB.out.mono ?_
      rintro e w1 ⟨rfl, hb1⟩
      simp only [World.size_alloc] at hb1
      have hs1 := hb1.size
      simp only [World.size_alloc] at hs1
      obtain ⟨hcx, hfx⟩ := bcell (W := (W.alloc (.cells #[.int .i64 x.session, .int .i64 x.node, .int .i64 x.mode] 42)).alloc (.cells #[.int .i64 0, .int .i64 0, .pointer none] 72)) (by simpa using hb1)
      have hz1 : W.heap.size < w1.heap.size := by omega
      have hz2 : W.heap.size + 1 < w1.heap.size := by omega
      go_wp2_with (go_at_call 87; refine (between_any _ _ _ _).mono ?_; rintro e w' ⟨rfl, rfl⟩)
      refine bodyPost_ret (v := .tuple #[lockVal ad x, .int .i64 0]) (by simp [results, Try.results63, go_sem, hcx]) rfl ⟨by rw [HE.out, HE2.out], ?_⟩
      exact ((((hb0.trans (hb1.mono (by omega))).setCell (p := ⟨W.heap.size + 1, 0, none⟩) (by simp) _).setCell (p := ⟨W.heap.size + 1, 1, none⟩) (by simp) _).setCell (p := ⟨W.heap.size + 1, 2, none⟩) (by simp) _)
    · have hm1 := between_no hm
      have HE : Hid (c = 19) := by rw [Hid, HC.out]; unfold ofCode; rw [if_pos HC1.out.symm, if_neg hm]
      have HE2 : Hid (r = false) := by rw [Hid, HRr.out, HE.out]; rfl
      clear hm HP HP1 HZ
      go_enter Try.func63, Try.ntmps63
      go_wp2_with fail
      refine HB.out.mono ?_
      rintro e w1 ⟨rfl, hb1⟩
      simp only [World.size_alloc] at hb1
      have hs1 := hb1.size
      simp only [World.size_alloc] at hs1
      obtain ⟨hcx, hfx⟩ := bcell (W := (W.alloc (.cells #[.int .i64 x.session, .int .i64 x.node, .int .i64 x.mode] 42)).alloc (.cells #[.int .i64 0, .int .i64 0, .pointer none] 72)) (by simpa using hb1)
      have hz1 : W.heap.size < w1.heap.size := by omega
      have hz2 : W.heap.size + 1 < w1.heap.size := by omega
      go_wp2_with (go_at_call 87; refine (between_any _ _ _ _).mono ?_; rintro e w' ⟨rfl, rfl⟩)
      refine bodyPost_ret (v := .tuple #[.agg #[.int .i64 0, .int .i64 0, .pointer none], .int .i64 19]) (by simp [results, Try.results63, go_sem, hcx]) rfl ⟨by rw [HE.out, HE2.out], ?_⟩
      exact ((((hb0.trans (hb1.mono (by omega))).setCell (p := ⟨W.heap.size + 1, 0, none⟩) (by simp) _).setCell (p := ⟨W.heap.size + 1, 1, none⟩) (by simp) _).setCell (p := ⟨W.heap.size + 1, 2, none⟩) (by simp) _)
  · have HP1 : Hid (p = none) := by have := HP.out; rwa [if_neg h1] at this
    have hp := HP1.out
    subst hp
    have HE : Hid (c = c1) := by rw [Hid, HC.out]; unfold ofCode; rw [if_neg (by rw [← HC1.out]; exact h1)]; exact HC1.out.symm
    have HE2 : Hid (r = false) := by rw [Hid, HRr.out, HE.out]; simp [h1]
    have h11 : (c1 != 0) = true := by simp [h1]
    clear h1 HP HP1
    go_enter Try.func63, Try.ntmps63
    go_wp2_with fail
    refine HB.out.mono ?_
    rintro e w1 ⟨rfl, hb1⟩
    simp only [World.size_alloc] at hb1
    have hs1 := hb1.size
    simp only [World.size_alloc] at hs1
    obtain ⟨hcx, hfx⟩ := bcell (W := (W.alloc (.cells #[.int .i64 x.session, .int .i64 x.node, .int .i64 x.mode] 42)).alloc (.cells #[.int .i64 0, .int .i64 0, .pointer none] 72)) (by simpa using hb1)
    have hz1 : W.heap.size < w1.heap.size := by omega
    have hz2 : W.heap.size + 1 < w1.heap.size := by omega
    go_wp2_with fail
    refine bodyPost_ret (v := .tuple #[.agg #[.int .i64 0, .int .i64 0, .pointer none], .int .i64 c1]) (by simp [results, Try.results63, go_sem, hcx]) rfl ⟨by rw [HE.out, HE2.out], ?_⟩
    exact ((((hb0.trans (hb1.mono (by omega))).setCell (p := ⟨W.heap.size + 1, 0, none⟩) (by simp) _).setCell (p := ⟨W.heap.size + 1, 1, none⟩) (by simp) _).setCell (p := ⟨W.heap.size + 1, 2, none⟩) (by simp) _)
end Go.Proofs.Ytfjhpfgffbghdaa
