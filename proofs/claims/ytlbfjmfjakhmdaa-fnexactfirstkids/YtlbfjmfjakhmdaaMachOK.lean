/-
  Whether a machine is right: what the program and the specification answer.
-/
import Derived.Test.YtlbfjmfjakhmdaaMachSz
import Derived.Test.YtlbfjmfjakhmdaaBasicIn
namespace Go.Proofs.Ytlbfjmfjakhmdaa
open Go.RowKit

/-- A row of eight states, or none, of n. -/
structure RowP (n : Nat) (row : List Int) : Prop where
  len : row.length = 8
  all : ∀ x ∈ row, -1 ≤ x ∧ x ≤ (n : Int) - 1

structure MachP (m : PMach) : Prop where
  one : 1 ≤ m.next.length
  most : m.next.length ≤ 512
  fin : m.final.length = m.next.length
  rows : ∀ row ∈ m.next, RowP m.next.length row

set_option maxHeartbeats 1000000 in
set_option maxRecDepth 100000 in
theorem implRowOK_any (n₀ : Nat) (v : Value) (row : List Int) (n : Nat) (w : World) (h : IntsAt n₀ w v row) (h1 : 1 ≤ n) (h5 : n ≤ 512) (r : Bool) (hr : r = true ↔ RowP n row) :
    Calls Try.prog 29 #[v, .int .i64 n] w fun e w' => e = .returned (.bool r) ∧ w' = w := by
  obtain ⟨a, cap, rfl, hk⟩ := h
  have HR := hide hr
  clear hr
  by_cases h8 : row.length = 8
  · have h80 : ((row.length : Int) == 8) = true := by simp [h8]
    obtain ⟨b, off, rfl, hb, hc⟩ := hk.resolve_left (by intro e; simp [e] at h8)
    have H8 := hide h8
    have hl8 : (row.length : Int) = 8 := by omega
    clear h8 hk
    go_enter Try.func29, Try.ntmps29
    go_wp2_with fail
    go_loopw [12] (fun i wr => ∃ k : Nat, k ≤ row.length ∧ i = .int .i64 k ∧ Hid (∀ x ∈ row.take k, -1 ≤ x ∧ x ≤ (n : Int) - 1) ∧ wr = w) (fun i _ => row.length - (intOf i).toNat)
    case atStart => exact ⟨0, Nat.zero_le _, rfl, by simp [Hid], rfl⟩
    case round =>
      obtain ⟨k, hkl, rfl, hall, rfl⟩ := hrel
      by_cases hlt : k < row.length
      · have ck := hc k hlt
        have HSn := hide (take_snoc_all (d := 0) hlt hall.out)
        have HMem : Hid (row[k]?.getD 0 ∈ row) := by simp [Hid, hlt]
        clear hall hc
        generalize row[k]?.getD 0 = y at *
        have hwn : IntKind.i64.wrap ((n : Int) - 1) = (n : Int) - 1 := by rw [IntKind.wrap_i64]; omega
        cases hin : inB y (-1) ((n : Int) - 1) with
        | false =>
          have hf : Hid (r = false) := no_of HR.out fun T => by have := inB_iff.2 (T.all _ HMem.out); rw [hin] at this; cases this
          have HI := hide hin
          clear hin
          go_wp2_with (go_at_call 28; refine (between_any _ _ _ _).mono ?_; rw [HI.out]; rintro e w' ⟨rfl, rfl⟩)
          go_ret
          exact ⟨ret_bool hf.out.symm, rfl⟩
        | true =>
          have HA2 := hide (HSn.out (inB_iff.1 hin))
          have HI := hide hin
          clear hin
          go_wp2_with (go_at_call 28; refine (between_any _ _ _ _).mono ?_; rw [HI.out]; rintro e w' ⟨rfl, rfl⟩)
          exact ⟨⟨k + 1, by omega, by go_num, HA2, by trivial⟩, by simp [intOf]; omega⟩
      · have hy : Hid (r = true) := HR.out.2 ⟨H8.out, by have := hall.out; rwa [List.take_of_length_le (by omega)] at this⟩
        clear hall hc
        go_wp2_with fail
        go_ret
        exact ⟨ret_bool hy.out.symm, rfl⟩
  · have h80 : ((row.length : Int) == 8) = false := by simp; omega
    have hf : Hid (r = false) := no_of HR.out fun T => h8 T.len
    clear hk h8
    go_enter Try.func29, Try.ntmps29
    go_wp2_with fail
    go_ret
    exact ⟨ret_bool hf.out.symm, rfl⟩

set_option maxHeartbeats 1000000 in
set_option maxRecDepth 100000 in
theorem implMachineOK_any (n₀ : Nat) (v : Value) (m : PMach) (w : World) (h : MachVal n₀ w v m) (hn : n₀ ≤ w.heap.size) (hl : SmallMach m) (r : Bool) (hr : r = true ↔ MachP m) :
    Calls Try.prog 10 #[v] w fun e w' => e = .returned (.bool r) ∧ Below w.heap.size w w' := by
  obtain ⟨a, cap, a', cap', rfl, -, hk, -⟩ := h.form
  have HR := hide hr
  have hl1 := hl.next
  have hl2 := hl.final
  have HKL := hide hl.rows
  clear hr hl h
  have hW := (Below.refl w.heap.size w).alloc (Nat.le_refl _) (.cells #[.slice a m.next.length cap, .slice a' m.final.length cap'] 28)
  cases hin : inB (m.next.length : Int) 1 512 with
  | false =>
    have hf : Hid (r = false) := no_of HR.out fun T => by have h2 : inB (m.next.length : Int) 1 512 = true := inB_iff.2 ⟨by have := T.one; omega, by have := T.most; omega⟩; rw [hin] at h2; cases h2
    have HI := hide hin
    clear hk hin
    go_enter Try.func10, Try.ntmps10
    go_wp2_with (go_at_call 28; refine (between_any _ _ _ _).mono ?_; rw [HI.out]; rintro e w' ⟨rfl, rfl⟩)
    go_ret
    exact ⟨ret_bool hf.out.symm, hW⟩
  | true =>
    have HI := hide hin
    obtain ⟨h1, h5⟩ := inB_iff.1 hin
    clear hin
    by_cases hfn : m.final.length = m.next.length
    · have hfn1 : ((m.final.length : Int) != (m.next.length : Int)) = false := by simp [hfn]
      have HFn := hide hfn
      clear hfn
      obtain ⟨a1, cap1, he, hk⟩ := hk
      cases he
      go_enter Try.func10, Try.ntmps10
      go_wp2_with (go_at_call 28; refine (between_any _ _ _ _).mono ?_; rw [HI.out]; rintro e w' ⟨rfl, rfl⟩)
      go_loopw [5, 22] (fun _ i wr => ∃ k : Nat, k ≤ m.next.length ∧ i = .int .i64 k ∧ Hid (∀ t ∈ m.next.take k, RowP m.next.length t) ∧ wr = w.alloc (.cells #[.slice a m.next.length cap, .slice a' m.final.length cap'] 28)) (fun _ i _ => m.next.length - (intOf i).toNat)
      case atStart => exact ⟨0, Nat.zero_le _, rfl, by simp [Hid], rfl⟩
      case round =>
        obtain ⟨k, hkl, rfl, hall, rfl⟩ := hrel
        by_cases hlt : k < m.next.length
        · obtain ⟨b, off, rfl, hb, hc⟩ := hk.resolve_left (by intro e; simp [e] at hlt)
          obtain ⟨kv, g0, hi⟩ := hc k hlt
          have hbw : b < w.heap.size := by omega
          have HMem : Hid (m.next[k]?.getD [] ∈ m.next) := by simp [Hid, hlt]
          have HSn := hide (take_snoc_all (d := []) hlt hall.out)
          have HCall := hide (implRowOK_any n₀ kv (m.next[k]?.getD []) m.next.length _ (hi.below (Nat.le_refl _) (hW.mono hn)) (by omega) (by omega) _ (dec_iff _))
          obtain ⟨ak, ck, rfl, -⟩ := hi
          clear hc hk hall
          generalize m.next[k]?.getD [] = x at *
          have HD := hide (dec_iff (RowP m.next.length x))
          generalize dec (RowP m.next.length x) = q at *
          go_wp2_with fail
          refine HCall.out.mono ?_
          rintro e w1 ⟨rfl, rfl⟩
          cases q with
          | false =>
            have hf : Hid (r = false) := no_of HR.out fun T => by have := HD.out.2 (T.rows _ HMem.out); cases this
            go_wp2_with fail
            go_ret
            exact ⟨ret_bool hf.out.symm, hW⟩
          | true =>
            have HA2 := hide (HSn.out (HD.out.1 rfl))
            go_wp2_with fail
            exact ⟨⟨k + 1, by omega, by go_num, HA2, by trivial⟩, by simp [intOf]; omega⟩
        · have hy : Hid (r = true) := HR.out.2 ⟨by omega, by omega, HFn.out, by have := hall.out; rwa [List.take_of_length_le (by omega)] at this⟩
          clear hk hall
          go_wp2_with fail
          go_ret
          exact ⟨ret_bool hy.out.symm, hW⟩
    · have hfn1 : ((m.final.length : Int) != (m.next.length : Int)) = true := by simp; omega
      have hf : Hid (r = false) := no_of HR.out fun T => hfn T.fin
      clear hk hfn
      go_enter Try.func10, Try.ntmps10
      go_wp2_with (go_at_call 28; refine (between_any _ _ _ _).mono ?_; rw [HI.out]; rintro e w' ⟨rfl, rfl⟩)
      go_ret
      exact ⟨ret_bool hf.out.symm, hW⟩
end Go.Proofs.Ytlbfjmfjakhmdaa
