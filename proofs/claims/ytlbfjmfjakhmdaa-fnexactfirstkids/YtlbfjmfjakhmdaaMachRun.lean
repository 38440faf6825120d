/-
  What a machine makes of kids: plainly, and what the program and the specification answer.
-/
import Derived.Test.YtlbfjmfjakhmdaaMachSpec
namespace Go.Proofs.Ytlbfjmfjakhmdaa
open Go.RowKit

/-- The state behind a kid. -/
def stepP (m : PMach) (s : Nat) (kind : Int) : Int := if 1 ≤ kind ∧ kind ≤ 8 then (m.next[s]?.getD [])[(kind - 1).toNat]?.getD 0 else -1

def runP (m : PMach) : Nat → List Int → Bool
  | s, [] => m.final[s]?.getD false
  | s, k :: ks => if stepP m s k < 0 then false else runP m (stepP m s k).toNat ks

theorem MachP.row {m : PMach} (h : MachP m) {s : Nat} (hs : s < m.next.length) : RowP m.next.length (m.next[s]?.getD []) := h.rows _ (by simp [hs])

theorem stepP_bounds {m : PMach} (h : MachP m) {s : Nat} (hs : s < m.next.length) (kind : Int) : -1 ≤ stepP m s kind ∧ stepP m s kind ≤ (m.next.length : Int) - 1 := by
  unfold stepP
  split
  · rename_i hk
    have hr := h.row hs
    have h8 := hr.len
    have hlt : (kind - 1).toNat < (m.next[s]?.getD []).length := by omega
    rw [List.getElem?_eq_getElem hlt]
    exact hr.all _ (List.getElem_mem hlt)
  · omega

theorem runP_drop {m : PMach} {s : Nat} {ks : List Int} {k : Nat} (hk : k < ks.length) : runP m s (ks.drop k) = if stepP m s (ks[k]?.getD 0) < 0 then false else runP m (stepP m s (ks[k]?.getD 0)).toNat (ks.drop (k + 1)) := by
  rw [List.drop_eq_getElem_cons hk, runP, List.getElem?_eq_getElem hk]; rfl

/-- Where a state's row lies. -/
theorem row_at {n₀ : Nat} {w : World} {a : Option Addr} {cap : Nat} {m : PMach} (h : RowsAt n₀ w (.slice a m.next.length cap) m.next) (hP : MachP m) {s : Nat} (hs : s < m.next.length) :
    ∃ b off bk ofk ck, a = some ⟨b, off, none⟩ ∧ b < n₀ ∧ w.cell? ⟨b, off + s, none⟩ = some (.slice (some ⟨bk, ofk, none⟩) 8 ck) ∧ bk < n₀ ∧ ∀ j, j < 8 → w.cell? ⟨bk, ofk + j, none⟩ = some (.int .i64 ((m.next[s]?.getD [])[j]?.getD 0)) := by
  obtain ⟨a1, cap1, he, hk⟩ := h
  cases he
  obtain ⟨b, off, rfl, hb, hc⟩ := hk.resolve_left (by intro e; simp [e] at hs)
  obtain ⟨kv, g0, ak, ck, rfl, hi⟩ := hc s hs
  have h8 := (hP.row hs).len
  obtain ⟨bk, ofk, rfl, hbk, hck⟩ := hi.resolve_left (by intro e; rw [e] at h8; simp at h8)
  rw [h8] at g0 hck
  exact ⟨b, off, bk, ofk, ck, rfl, hb, g0, hbk, hck⟩

theorem final_at {n₀ : Nat} {w : World} {a : Option Addr} {cap : Nat} {m : PMach} (h : BoolsAt n₀ w (.slice a m.final.length cap) m.final) (hP : MachP m) {s : Nat} (hs : s < m.next.length) :
    ∃ b off, a = some ⟨b, off, none⟩ ∧ b < n₀ ∧ w.cell? ⟨b, off + s, none⟩ = some (.bool (m.final[s]?.getD false)) := by
  have hf := hP.fin
  obtain ⟨a1, cap1, he, hk⟩ := h
  cases he
  obtain ⟨b, off, rfl, hb, hc⟩ := hk.resolve_left (by intro e; rw [e] at hf; simp at hf; omega)
  exact ⟨b, off, rfl, hb, hc s (by omega)⟩

set_option maxHeartbeats 1000000 in
theorem implBehind_any (n₀ : Nat) (v : Value) (m : PMach) (s : Nat) (kind : Int) (w : World) (h : MachVal n₀ w v m) (hn : n₀ ≤ w.heap.size) (hP : MachP m) (hs : s < m.next.length) (q : Int) (hq : q = stepP m s kind) :
    Calls Try.prog 33 #[v, .int .i64 s, .int .i64 kind] w fun e w' => e = .returned (.int .i64 q) ∧ Below w.heap.size w w' := by
  obtain ⟨a, cap, a', cap', rfl, -, hk, -⟩ := h.form
  have hW := (Below.refl w.heap.size w).alloc (Nat.le_refl _) (.cells #[.slice a m.next.length cap, .slice a' m.final.length cap'] 28)
  obtain ⟨b, off, bk, ofk, ck, rfl, hb, g0, hbk, hck⟩ := row_at hk hP hs
  have HQ := hide hq
  have hmost := hP.most
  clear hq h hk hP
  cases hin : inB kind 1 8 with
  | false =>
    have hf : Hid (q = -1) := by rw [Hid, HQ.out, stepP, if_neg fun h => by have := inB_iff.2 h; rw [hin] at this; cases this]
    have HI := hide hin
    clear hin hck g0
    go_enter Try.func33, Try.ntmps33
    go_wp2_with (go_at_call 28; refine (between_any _ _ _ _).mono ?_; rw [HI.out]; rintro e w' ⟨rfl, rfl⟩)
    go_ret
    exact ⟨ret_int hf.out.symm, hW⟩
  | true =>
    have HI := hide hin
    obtain ⟨h1, h8⟩ := inB_iff.1 hin
    have hf : Hid (q = (m.next[s]?.getD [])[(kind - 1).toNat]?.getD 0) := by rw [Hid, HQ.out, stepP, if_pos ⟨h1, h8⟩]
    have gk := hck (kind - 1).toNat (by omega)
    rw [show ofk + (kind - 1).toNat = ofk + (kind.toNat - 1) by omega] at gk
    clear hin hck
    generalize (m.next[s]?.getD [])[(kind - 1).toNat]?.getD 0 = y at *
    have hbw : b < w.heap.size := by omega
    have hbkw : bk < w.heap.size := by omega
    have hk0 : (0 : Int) ≤ kind - 1 := by omega
    have hk8 : kind - 1 < 8 := by omega
    have hwk : IntKind.i64.wrap (kind - 1) = kind - 1 := by rw [IntKind.wrap_i64]; omega
    go_enter Try.func33, Try.ntmps33
    go_wp2_with (go_at_call 28; refine (between_any _ _ _ _).mono ?_; rw [HI.out]; rintro e w' ⟨rfl, rfl⟩)
    go_ret
    exact ⟨ret_int hf.out.symm, hW⟩

/-- What a run answers. -/
def runAns (r : Bool) (n : Nat) (b : Bool) : Bool × Int := if 4096 < n then (false, 2) else if r = false then (false, 1) else (b, 0)

theorem ret_run {a b : Bool} {c d : Int} (h : a = b) (h' : c = d) : Ending.returned (.tuple #[.bool a, .int .i64 c]) = Ending.returned (.tuple #[.bool b, .int .i64 d]) := by rw [h, h']

set_option maxHeartbeats 1000000 in
set_option maxRecDepth 100000 in
theorem implRun_any (n₀ : Nat) (v kv : Value) (m : PMach) (ks : List Int) (w : World) (h : MachVal n₀ w v m) (hk : IntsAt n₀ w kv ks) (hn : n₀ ≤ w.heap.size) (hl : SmallMach m) (hkl : ks.length ≤ 1048576) (r : Bool) (hr : r = true ↔ MachP m) (p : Bool × Int) (hp : p = runAns r ks.length (runP m 0 ks)) :
    Calls Try.prog 14 #[v, kv] w fun e w' => e = .returned (.tuple #[.bool p.1, .int .i64 p.2]) ∧ Below w.heap.size w w' := by
  obtain ⟨a, cap, a', cap', rfl, hm, -, hfb⟩ := h.form
  obtain ⟨ak, ck, rfl, hk⟩ := hk
  have hW := (Below.refl w.heap.size w).alloc (Nat.le_refl _) (.cells #[.slice a m.next.length cap, .slice a' m.final.length cap'] 28)
  have HR := hide hr
  have HP := hide hp
  clear hr hp h
  by_cases hbig : 4096 < ks.length
  · have e : p = (false, 2) := by rw [HP.out, runAns, if_pos hbig]
    subst e
    clear hk hfb hl hm
    go_enter Try.func14, Try.ntmps14
    go_wp2_with fail
    go_ret2
    exact ⟨rfl, hW⟩
  · have HOK := hide (implMachineOK_any n₀ _ m _ (hm.below (Nat.le_refl _) (hW.mono hn)) (by simp; omega) hl r HR.out)
    clear hl
    cases r with
    | false =>
      have e : p = (false, 1) := by rw [HP.out, runAns, if_neg hbig, if_pos rfl]
      subst e
      clear hk hfb hm
      go_enter Try.func14, Try.ntmps14
      go_wp2_with fail
      refine HOK.out.mono ?_
      rintro e w1 ⟨rfl, hb1⟩
      go_wp2_with fail
      go_ret2
      exact ⟨rfl, hW.trans (hb1.mono (by simp))⟩
    | true =>
      have hMP := HR.out.1 rfl
      have HMP := hide hMP
      have e : Hid (p = (runP m 0 ks, 0)) := by rw [Hid, HP.out, runAns, if_neg hbig, if_neg (by simp)]
      have h1 := hMP.one
      have h5 := hMP.most
      have HM := hide hm
      have HFB := hide hfb
      have HK := hide hk
      clear hMP hm hfb HP HR hk
      go_enter Try.func14, Try.ntmps14
      go_wp2_with fail
      refine HOK.out.mono ?_
      rintro e1 w1 ⟨rfl, hb1⟩
      simp only [World.size_alloc] at hb1
      clear HOK
      have c0 : w1.cell? ⟨w.heap.size, 0, none⟩ = some (.slice a m.next.length cap) := by rw [hb1.cell (p := ⟨w.heap.size, 0, none⟩) (by simp)]; simp
      go_wp2_with fail
      go_loopw [6, 8, 17] (fun sv _ i wr => ∃ k s : Nat, k ≤ ks.length ∧ i = .int .i64 k ∧ sv = .int .i64 s ∧ s < m.next.length ∧ Hid (runP m s (ks.drop k) = runP m 0 ks) ∧ Below (w.heap.size + 1) (w.alloc (.cells #[.slice a m.next.length cap, .slice a' m.final.length cap'] 28)) wr) (fun _ _ i _ => ks.length - (intOf i).toNat)
      case atStart => exact ⟨0, 0, Nat.zero_le _, rfl, rfl, by omega, by simp [Hid], hb1⟩
      case round =>
        obtain ⟨k, s, hkl2, rfl, rfl, hs, hrun, hbr⟩ := hrel
        clear c0 hb1
        have hsz := hbr.size
        simp only [World.size_alloc] at hsz
        have hszl : w.heap.size < wr.heap.size := by omega
        have hw0 : Below w.heap.size w wr := hW.trans (hbr.mono (by omega))
        have c0 : wr.cell? ⟨w.heap.size, 0, none⟩ = some (.slice a m.next.length cap) := by rw [hbr.cell (p := ⟨w.heap.size, 0, none⟩) (by simp)]; simp
        have c1 : wr.cell? ⟨w.heap.size, 1, none⟩ = some (.slice a' m.final.length cap') := by rw [hbr.cell (p := ⟨w.heap.size, 1, none⟩) (by simp)]; simp
        by_cases hlt : k < ks.length
        · obtain ⟨b, off, rfl, hb, hc⟩ := HK.out.resolve_left (by intro e; simp [e] at hlt)
          have hck := (hw0.cell (p := ⟨b, off + k, none⟩) (show b < w.heap.size by omega)).trans (hc k hlt)
          have HD := hide (runP_drop (m := m) (s := s) hlt)
          clear hc HK
          generalize ks[k]?.getD 0 = y at *
          obtain ⟨q, hq⟩ : ∃ q, q = stepP m s y := ⟨_, rfl⟩
          have HCall := hide (implBehind_any n₀ _ m s y wr (HM.out.below (Nat.le_refl _) (hw0.mono hn)) (by omega) HMP.out hs q hq)
          have hqb := stepP_bounds HMP.out hs y
          rw [← hq] at hqb
          have HQ := hide hq
          clear hq
          go_wp2_with fail
          refine HCall.out.mono ?_
          rintro e1 w2 ⟨rfl, hb2⟩
          clear HCall
          by_cases hneg : q = -1
          · have hf : Hid (runP m 0 ks = false) := by rw [Hid, ← hrun.out, HD.out, ← HQ.out, if_pos (by omega)]
            subst hneg
            go_wp2_with fail
            go_ret2
            exact ⟨ret_run (by rw [e.out]; exact hf.out.symm) (by rw [e.out]), hw0.trans (hb2.mono (by omega))⟩
          · have hne : (q == -1) = false := by simpa using hneg
            have hr2 : Hid (runP m q.toNat (ks.drop (k + 1)) = runP m 0 ks) := by rw [Hid, ← hrun.out, HD.out, ← HQ.out, if_neg (by omega)]
            obtain ⟨q', rfl⟩ : ∃ q' : Nat, q = (q' : Int) := ⟨q.toNat, by omega⟩
            have hr3 : Hid (runP m q' (ks.drop (k + 1)) = runP m 0 ks) := by simpa using hr2
            clear hneg hrun hr2
            go_wp2_with fail
            exact ⟨⟨k + 1, q', by omega, by go_num, rfl, by omega, hr3, hbr.trans (hb2.mono hsz)⟩, by simp [intOf]; omega⟩
        · obtain ⟨bf, of, rfl, hbf, gf⟩ := final_at HFB.out HMP.out hs
          have gf := (hw0.cell (p := ⟨bf, of + s, none⟩) (show bf < w.heap.size by omega)).trans gf
          have hf : Hid (m.final[s]?.getD false = runP m 0 ks) := by
            have := hrun.out
            rw [List.drop_of_length_le (by omega), runP] at this
            exact this
          have hfn := HMP.out.fin
          have hsf : (s : Int) < (m.final.length : Int) := by omega
          clear HFB hrun hfn
          generalize m.final[s]?.getD false = y at *
          go_wp2_with fail
          go_ret2
          exact ⟨ret_run (by rw [e.out]; exact hf.out) (by rw [e.out]), hw0⟩

set_option maxHeartbeats 400000 in
theorem specKind_any (a : Int) (w : World) :
    Calls Try.prog 44 #[.int .i64 a] w fun e w' => e = .returned (.bool (inB a 1 8)) ∧ w' = w := by
  go_enter Try.func44, Try.ntmps44
  go_wp2_with (go_at_call 25; refine (specIn_any _ _ _ _).mono ?_; rintro e w' ⟨rfl, rfl⟩)
  go_ret
  exact ⟨rfl, rfl⟩

set_option maxHeartbeats 2000000 in
set_option maxRecDepth 100000 in
theorem specRun_any (n₀ : Nat) (v kv : Value) (m : PMach) (ks : List Int) (w : World) (h : MachVal n₀ w v m) (hk : IntsAt n₀ w kv ks) (hn : n₀ ≤ w.heap.size) (hkl : ks.length ≤ 1048576) (hMP : MachP m) (r : Bool) (hr : r = runP m 0 ks) :
    Calls Try.prog 32 #[v, kv] w fun e w' => e = .returned (.bool r) ∧ Below w.heap.size w w' := by
  obtain ⟨a, cap, a', cap', rfl, hm, hrw, hfb⟩ := h.form
  obtain ⟨ak, ck, rfl, hk⟩ := hk
  have hW := (Below.refl w.heap.size w).alloc (Nat.le_refl _) (.cells #[.slice a m.next.length cap, .slice a' m.final.length cap'] 28)
  have HR := hide hr
  have HMP := hide hMP
  have h1 := hMP.one
  have h5 := hMP.most
  have HRW := hide hrw
  have HFB := hide hfb
  have HK := hide hk
  clear hMP hm hfb hr hk hrw h
  go_enter Try.func32, Try.ntmps32
  go_wp2_with fail
  go_loopw [5, 6] (fun sv i wr => ∃ k s : Nat, k ≤ ks.length ∧ i = .int .i64 k ∧ sv = .int .i64 s ∧ s < m.next.length ∧ Hid (runP m s (ks.drop k) = runP m 0 ks) ∧ Below (w.heap.size + 1) (w.alloc (.cells #[.slice a m.next.length cap, .slice a' m.final.length cap'] 28)) wr) (fun _ i _ => ks.length - (intOf i).toNat)
  case atStart => exact ⟨0, 0, Nat.zero_le _, rfl, rfl, by omega, by simp [Hid], Below.refl _ _⟩
  case round =>
    obtain ⟨k, s, hkl2, rfl, rfl, hs, hrun, hbr⟩ := hrel
    have hsz := hbr.size
    simp only [World.size_alloc] at hsz
    have hszl : w.heap.size < wr.heap.size := by omega
    have hw0 : Below w.heap.size w wr := hW.trans (hbr.mono (by omega))
    have c1 : wr.cell? ⟨w.heap.size, 1, none⟩ = some (.slice a' m.final.length cap') := by rw [hbr.cell (p := ⟨w.heap.size, 1, none⟩) (by simp)]; simp
    by_cases hlt : k < ks.length
    · obtain ⟨b, off, rfl, hb, hc⟩ := HK.out.resolve_left (by intro e; simp [e] at hlt)
      have hck := (hw0.cell (p := ⟨b, off + k, none⟩) (show b < w.heap.size by omega)).trans (hc k hlt)
      have HD := hide (runP_drop (m := m) (s := s) hlt)
      obtain ⟨b2, of2, bk, ofk, ck2, rfl, hb2, g0, hbk, hrow⟩ := row_at HRW.out HMP.out hs
      have c0 : wr.cell? ⟨w.heap.size, 0, none⟩ = some (.slice (some ⟨b2, of2, none⟩) m.next.length cap) := by rw [hbr.cell (p := ⟨w.heap.size, 0, none⟩) (by simp)]; simp
      have g0 := (hw0.cell (p := ⟨b2, of2 + s, none⟩) (show b2 < w.heap.size by omega)).trans g0
      clear hc HK
      generalize ks[k]?.getD 0 = y at *
      obtain ⟨q, hq⟩ : ∃ q, q = stepP m s y := ⟨_, rfl⟩
      have hqb := stepP_bounds HMP.out hs y
      rw [← hq] at hqb
      have HQ := hide hq
      clear hq
      have hlt1 : (k : Int) < (ks.length : Int) := by omega
      cases hin : inB y 1 8 with
      | false =>
        have hq1 : q = -1 := by rw [HQ.out, stepP, if_neg fun h => by have := inB_iff.2 h; rw [hin] at this; cases this]
        have hf : Hid (r = false) := by rw [Hid, HR.out, ← hrun.out, HD.out, ← HQ.out, if_pos (by omega)]
        have HI := hide hin
        clear hin g0 hrow hq1
        go_wp2_with (go_at_call 44; refine (specKind_any _ _).mono ?_; rw [HI.out]; rintro e w' ⟨rfl, rfl⟩)
        go_ret
        exact ⟨ret_bool hf.out.symm, hw0⟩
      | true =>
        have HI := hide hin
        obtain ⟨hy1, hy8⟩ := inB_iff.1 hin
        have gk := (hw0.cell (p := ⟨bk, ofk + (y - 1).toNat, none⟩) (show bk < w.heap.size by omega)).trans (hrow (y - 1).toNat (by omega))
        have hqe : (m.next[s]?.getD [])[(y - 1).toNat]?.getD 0 = q := by rw [HQ.out, stepP, if_pos ⟨hy1, hy8⟩]
        rw [show ofk + (y - 1).toNat = ofk + (y.toNat - 1) by omega, hqe] at gk
        have hk0 : (0 : Int) ≤ y - 1 := by omega
        have hk8 : y - 1 < 8 := by omega
        have hwk : IntKind.i64.wrap (y - 1) = y - 1 := by rw [IntKind.wrap_i64]; omega
        have hbw2 : b2 < wr.heap.size := by omega
        have hbkw : bk < wr.heap.size := by omega
        have hbw : b < wr.heap.size := by omega
        have hcal := calm_cell wr
        clear hin hrow hqe
        by_cases hneg : q < 0
        · have hf : Hid (r = false) := by rw [Hid, HR.out, ← hrun.out, HD.out, ← HQ.out, if_pos (by omega)]
          go_wp2_with (go_at_call 44; refine (specKind_any _ _).mono ?_; rw [HI.out]; rintro e w' ⟨rfl, rfl⟩)
          go_quiet (fail)
          go_wp2_with fail
          go_ret
          exact ⟨ret_bool hf.out.symm, below_drewN hw0 _⟩
        · have hr2 : Hid (runP m q.toNat (ks.drop (k + 1)) = runP m 0 ks) := by rw [Hid, ← hrun.out, HD.out, ← HQ.out, if_neg (by omega)]
          obtain ⟨q', rfl⟩ : ∃ q' : Nat, q = (q' : Int) := ⟨q.toNat, by omega⟩
          have hr3 : Hid (runP m q' (ks.drop (k + 1)) = runP m 0 ks) := by simpa using hr2
          clear hneg hrun hr2
          go_wp2_with (go_at_call 44; refine (specKind_any _ _).mono ?_; rw [HI.out]; rintro e w' ⟨rfl, rfl⟩)
          go_quiet (fail)
          go_wp2_with fail
          exact ⟨⟨k + 1, q', by omega, by go_num, rfl, by omega, hr3, below_drewN hbr _⟩, by simp [intOf]; omega⟩
    · obtain ⟨bf, of, rfl, hbf, gf⟩ := final_at HFB.out HMP.out hs
      have gf := (hw0.cell (p := ⟨bf, of + s, none⟩) (show bf < w.heap.size by omega)).trans gf
      have hf : Hid (m.final[s]?.getD false = r) := by
        have := hrun.out
        rw [List.drop_of_length_le (by omega), runP, ← HR.out] at this
        exact this
      have hfn := HMP.out.fin
      have hsf : (s : Int) < (m.final.length : Int) := by omega
      clear HFB hrun hfn
      generalize m.final[s]?.getD false = y at *
      go_wp2_with fail
      go_ret
      exact ⟨ret_bool hf.out, hw0⟩

set_option maxHeartbeats 400000 in
theorem specRunMachine_any (n₀ : Nat) (v kv : Value) (m : PMach) (ks : List Int) (w : World) (h : MachVal n₀ w v m) (hk : IntsAt n₀ w kv ks) (hn : n₀ ≤ w.heap.size) (hl : SmallMach m) (hkl : ks.length ≤ 1048576) (r : Bool) (hr : r = true ↔ MachP m) (p : Bool × Int) (hp : p = runAns r ks.length (runP m 0 ks)) :
    Calls Try.prog 12 #[v, kv] w fun e w' => e = .returned (.tuple #[.bool p.1, .int .i64 p.2]) ∧ Below w.heap.size w w' := by
  obtain ⟨a, cap, a', cap', rfl, hm, -, -⟩ := h.form
  have HK := hide hk
  obtain ⟨ak, ck, rfl, -⟩ := hk
  have hW := (Below.refl w.heap.size w).alloc (Nat.le_refl _) (.cells #[.slice a m.next.length cap, .slice a' m.final.length cap'] 28)
  have HR := hide hr
  have HP := hide hp
  have HM := hide hm
  clear hr hp h hm
  by_cases hbig : 4096 < ks.length
  · have e : p = (false, 2) := by rw [HP.out, runAns, if_pos hbig]
    subst e
    clear hl
    go_enter Try.func12, Try.ntmps12
    go_wp2_with fail
    go_ret2
    exact ⟨rfl, hW⟩
  · have HOK := hide (specMachineOK_any n₀ _ m _ (HM.out.below (Nat.le_refl _) (hW.mono hn)) (by simp; omega) hl r HR.out)
    clear hl
    cases r with
    | false =>
      have e : p = (false, 1) := by rw [HP.out, runAns, if_neg hbig, if_pos rfl]
      subst e
      go_enter Try.func12, Try.ntmps12
      go_wp2_with fail
      refine HOK.out.mono ?_
      rintro e w1 ⟨rfl, hb1⟩
      go_wp2_with fail
      go_ret2
      exact ⟨rfl, hW.trans (hb1.mono (by simp))⟩
    | true =>
      have HMP := hide (HR.out.1 rfl)
      have e : Hid (p = (runP m 0 ks, 0)) := by rw [Hid, HP.out, runAns, if_neg hbig, if_neg (by simp)]
      go_enter Try.func12, Try.ntmps12
      go_wp2_with fail
      refine HOK.out.mono ?_
      rintro e1 w1 ⟨rfl, hb1⟩
      simp only [World.size_alloc] at hb1
      have hs1 := hb1.size
      simp only [World.size_alloc] at hs1
      have hb1' := hW.trans (hb1.mono (by omega))
      have c0 : w1.cell? ⟨w.heap.size, 0, none⟩ = some (.slice a m.next.length cap) := by rw [hb1.cell (p := ⟨w.heap.size, 0, none⟩) (by simp)]; simp
      have c1 : w1.cell? ⟨w.heap.size, 1, none⟩ = some (.slice a' m.final.length cap') := by rw [hb1.cell (p := ⟨w.heap.size, 1, none⟩) (by simp)]; simp
      have HRn := hide (specRun_any n₀ _ _ m ks w1 (HM.out.below (Nat.le_refl _) (hb1'.mono hn)) (HK.out.below (Nat.le_refl _) (hb1'.mono hn)) (by omega) hkl HMP.out _ rfl)
      clear HOK
      go_wp2_with fail
      refine HRn.out.mono ?_
      rintro e2 w2 ⟨rfl, hb2⟩
      go_wp2_with fail
      go_ret2
      exact ⟨ret_run (by rw [e.out]) (by rw [e.out]), hb1'.trans (hb2.mono (by omega))⟩
end Go.Proofs.Ytlbfjmfjakhmdaa
