/-
  Whether a machine is right: what the specification answers.
-/
import Derived.Test.YtlbfjmfjakhmdaaMachOK
namespace Go.Proofs.Ytlbfjmfjakhmdaa
open Go.RowKit

set_option maxHeartbeats 2000000 in
set_option maxRecDepth 100000 in
theorem specMachineOK_any (n₀ : Nat) (v : Value) (m : PMach) (w : World) (h : MachVal n₀ w v m) (hn : n₀ ≤ w.heap.size) (hl : SmallMach m) (r : Bool) (hr : r = true ↔ MachP m) :
    Calls Try.prog 8 #[v] w fun e w' => e = .returned (.bool r) ∧ Below w.heap.size w w' := by
  obtain ⟨a, cap, a', cap', rfl, -, hk, -⟩ := h.form
  have HR := hide hr
  have hl1 := hl.next
  have hl2 := hl.final
  have HKL := hide hl.rows
  clear hr hl h
  have hW := (Below.refl w.heap.size w).alloc (Nat.le_refl _) (.cells #[.slice a m.next.length cap, .slice a' m.final.length cap'] 28)
  cases hin : inB (m.next.length : Int) 1 512 with
  | false =>
    have hf : Hid (r = false) := no_of HR.out fun T => by have h2 : inB (m.next.length : Int) 1 512 = true := inB_iff.2 ⟨by have := T.one; omega, by have := T.most; omega⟩; rw [hin] at h2; cases h2
    have HI := hide hin
    clear hk hin
    go_enter Try.func8, Try.ntmps8
    go_wp2_with (go_at_call 25; refine (specIn_any _ _ _ _).mono ?_; rw [HI.out]; rintro e w' ⟨rfl, rfl⟩)
    go_ret
    exact ⟨ret_bool hf.out.symm, hW⟩
  | true =>
    have HI := hide hin
    obtain ⟨h1, h5⟩ := inB_iff.1 hin
    clear hin
    by_cases hfn : m.final.length = m.next.length
    · have hfn1 : ((m.final.length : Int) != (m.next.length : Int)) = false := by simp [hfn]
      have HFn := hide hfn
      clear hfn
      obtain ⟨a1, cap1, he, hk⟩ := hk
      cases he
      go_enter Try.func8, Try.ntmps8
      go_wp2_with (go_at_call 25; refine (specIn_any _ _ _ _).mono ?_; rw [HI.out]; rintro e w' ⟨rfl, rfl⟩)
      go_loopw [3, 4] (fun i _ wr => ∃ k : Nat, k ≤ m.next.length ∧ i = .int .i64 k ∧ Hid (∀ t ∈ m.next.take k, RowP m.next.length t) ∧ Below (w.heap.size + 1) (w.alloc (.cells #[.slice a m.next.length cap, .slice a' m.final.length cap'] 28)) wr) (fun i _ _ => m.next.length - (intOf i).toNat)
      case atStart => exact ⟨0, Nat.zero_le _, rfl, by simp [Hid], Below.refl _ _⟩
      case round =>
        obtain ⟨k, hkl, rfl, hall, hbr⟩ := hrel
        have hsz := hbr.size
        simp only [World.size_alloc] at hsz
        have hszl : w.heap.size < wr.heap.size := by omega
        have c0 : wr.cell? ⟨w.heap.size, 0, none⟩ = some (.slice a m.next.length cap) := by rw [hbr.cell (p := ⟨w.heap.size, 0, none⟩) (by simp)]; simp
        have hw0 : Below w.heap.size w wr := hW.trans (hbr.mono (by omega))
        by_cases hlt : k < m.next.length
        · obtain ⟨b, off, rfl, hb, hc⟩ := hk.resolve_left (by intro e; simp [e] at hlt)
          obtain ⟨kv, g0, hi⟩ := hc k hlt
          have hbw : b < w.heap.size := by omega
          have hlt1 : (k : Int) < (m.next.length : Int) := by omega
          have G0 := g0
          have g0 : wr.cell? ⟨b, off + k, none⟩ = some kv := (hw0.cell (p := ⟨b, off + k, none⟩) hbw).trans g0
          have HMem : Hid (m.next[k]?.getD [] ∈ m.next) := by simp [Hid, hlt]
          have HSn := hide (take_snoc_all (d := []) hlt hall.out)
          clear hc hk hall
          generalize m.next[k]?.getD [] = x at *
          obtain ⟨ak, ck, rfl, hi⟩ := hi
          by_cases h8 : x.length = 8
          · have h80 : ((x.length : Int) != 8) = false := by simp [h8]
            have H8 := hide h8
            have hx8 : (x.length : Int) = 8 := by omega
            obtain ⟨bk, ofk, rfl, hbk, hck⟩ := hi.resolve_left (by intro e; simp [e] at h8)
            have HCK := hide hck
            have G0' := hide G0
            clear h8 hi hck c0 g0 G0
            have c0 : wr.cell? ⟨w.heap.size, 0, none⟩ = some (.slice (some ⟨b, off, none⟩) m.next.length cap) := by rw [hbr.cell (p := ⟨w.heap.size, 0, none⟩) (by simp)]; simp
            have g0 := (hw0.cell (p := ⟨b, off + k, none⟩) hbw).trans G0'.out
            go_wp2_with fail
            go_loopw [4] (fun i wq => ∃ q : Nat, q ≤ 8 ∧ i = .int .i64 q ∧ Hid (∀ y ∈ x.take q, -1 ≤ y ∧ y ≤ (m.next.length : Int) - 1) ∧ Below (w.heap.size + 1) (w.alloc (.cells #[.slice (some ⟨b, off, none⟩) m.next.length cap, .slice a' m.final.length cap'] 28)) wq) (fun i _ => 8 - (intOf i).toNat)
            case atStart => exact ⟨0, Nat.zero_le _, rfl, by simp [Hid], hbr⟩
            case round =>
              obtain ⟨q, hql, rfl, hall, hbq⟩ := hrel
              clear c0 g0 hsz hszl
              have hsz := hbq.size
              simp only [World.size_alloc] at hsz
              have hszl : w.heap.size < wr.heap.size := by omega
              have hw1 : Below w.heap.size w wr := hW.trans (hbq.mono (by omega))
              have c0 : wr.cell? ⟨w.heap.size, 0, none⟩ = some (.slice (some ⟨b, off, none⟩) m.next.length cap) := by rw [hbq.cell (p := ⟨w.heap.size, 0, none⟩) (by simp)]; simp
              by_cases hq : q < 8
              · have g0 := (hw1.cell (p := ⟨b, off + k, none⟩) hbw).trans G0'.out
                have gk : wr.cell? ⟨bk, ofk + q, none⟩ = some (.int .i64 (x[q]?.getD 0)) := (hw1.cell (p := ⟨bk, ofk + q, none⟩) (show bk < w.heap.size by omega)).trans (HCK.out q (by omega))
                have hbw1 : b < wr.heap.size := by omega
                have hbk1 : bk < wr.heap.size := by omega
                have hcal := calm_cell wr
                have hq8 : (q : Int) < 8 := by omega
                have hqx : (q : Int) < (x.length : Int) := by omega
                have HSn2 := hide (take_snoc_all (d := 0) (show q < x.length by omega) hall.out)
                have HMem2 : Hid (x[q]?.getD 0 ∈ x) := by have : q < x.length := by omega
                                                          simp [Hid, this]
                have hwn : IntKind.i64.wrap ((m.next.length : Int) - 1) = (m.next.length : Int) - 1 := by rw [IntKind.wrap_i64]; omega
                clear hall
                generalize x[q]?.getD 0 = y at *
                have HE : Hid (∀ t : Calm wr, Calls Try.prog 25 #[.int .i64 y, .int .i64 (-1), .int .i64 ((m.next.length : Int) - 1)] t.out fun e w'' => e = .returned (.bool (inB y (-1) ((m.next.length : Int) - 1))) ∧ w'' = t.out) := fun t => specIn_any _ _ _ t.out
                cases hin : inB y (-1) ((m.next.length : Int) - 1) with
                | false =>
                  have hf : Hid (r = false) := no_of HR.out fun T => by have := inB_iff.2 ((T.rows _ HMem.out).all _ HMem2.out); rw [hin] at this; cases this
                  rw [hin] at HE
                  clear hin
                  go_wp2_with fail
                  refine wp_region_calm (by kernel_rfl) (by kernel_rfl) ?_
                  repeat (go_big_quiet_step ((go_at_call 25; exact calm_of_same (HE.out _))))
                  refine wpQuiet_nil ?_
                  rintro _ ⟨t, rfl⟩
                  have ht := t.below
                  go_wp2_with fail
                  go_ret
                  exact ⟨ret_bool hf.out.symm, hw1.trans (ht.mono (by omega))⟩
                | true =>
                  have HA2 := hide (HSn2.out (inB_iff.1 hin))
                  rw [hin] at HE
                  clear hin
                  go_wp2_with fail
                  refine wp_region_calm (by kernel_rfl) (by kernel_rfl) ?_
                  repeat (go_big_quiet_step ((go_at_call 25; exact calm_of_same (HE.out _))))
                  refine wpQuiet_nil ?_
                  rintro _ ⟨t, rfl⟩
                  have ht := t.below
                  go_wp2_with fail
                  exact ⟨⟨q + 1, by omega, by go_num, HA2, hbq.trans (ht.mono hsz)⟩, by simp [intOf]; omega⟩
              · have HRow : Hid (RowP m.next.length x) := ⟨H8.out, by have := hall.out; rwa [List.take_of_length_le (by omega)] at this⟩
                have HA2 := hide (HSn.out HRow.out)
                clear hall
                go_wp2_with fail
                exact ⟨⟨k + 1, by omega, by go_num, HA2, hbq⟩, by simp [intOf]; omega⟩
          · have h80 : ((x.length : Int) != 8) = true := by simp; omega
            have hf : Hid (r = false) := no_of HR.out fun T => h8 (T.rows _ HMem.out).len
            clear h8 hi G0
            go_wp2_with fail
            go_ret
            exact ⟨ret_bool hf.out.symm, hw0⟩
        · have hy : Hid (r = true) := HR.out.2 ⟨by omega, by omega, HFn.out, by have := hall.out; rwa [List.take_of_length_le (by omega)] at this⟩
          clear hk hall
          go_wp2_with fail
          go_ret
          exact ⟨ret_bool hy.out.symm, hw0⟩
    · have hfn1 : ((m.final.length : Int) != (m.next.length : Int)) = true := by simp; omega
      have hf : Hid (r = false) := no_of HR.out fun T => hfn T.fin
      clear hk hfn
      go_enter Try.func8, Try.ntmps8
      go_wp2_with (go_at_call 25; refine (specIn_any _ _ _ _).mono ?_; rw [HI.out]; rintro e w' ⟨rfl, rfl⟩)
      go_ret
      exact ⟨ret_bool hf.out.symm, hW⟩
end Go.Proofs.Ytlbfjmfjakhmdaa
