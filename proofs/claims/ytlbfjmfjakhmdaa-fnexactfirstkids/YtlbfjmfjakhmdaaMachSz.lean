/-
  How the law package asks whether machines are small enough.
-/
import Derived.Test.YtlbfjmfjakhmdaaMachTo
namespace Go.Proofs.Ytlbfjmfjakhmdaa
open Go.RowKit

set_option maxHeartbeats 400000 in
theorem szBools_any (a : Option Addr) (n cap : Nat) (c : Int) (w : World) (h0 : 0 ≤ c) (h1 : c ≤ 1048576) (hl : n ≤ 9223372036854775807) :
    Calls Try.prog 24 #[.slice a n cap, .int .i64 c] w fun e w' => ∃ r, e = .returned (.int .i64 r) ∧ -1 ≤ r ∧ r ≤ c ∧ (0 ≤ r → n ≤ 1048576) ∧ w' = w := by
  by_cases h : c - n < 0
  · go_enter Try.func24, Try.ntmps24
    go_wp2
    go_ret
    exact ⟨_, rfl, by omega, by omega, by omega, rfl⟩
  · go_enter Try.func24, Try.ntmps24
    go_wp2
    go_ret
    exact ⟨_, rfl, by omega, by omega, by omega, rfl⟩

set_option maxHeartbeats 1000000 in
set_option maxRecDepth 100000 in
theorem szRows_any (n₀ : Nat) (v : Value) (l : List (List Int)) (c : Int) (w : World) (h : RowsAt n₀ w v l) (hn : n₀ ≤ w.heap.size) (h0 : 0 ≤ c) (h1 : c ≤ 1048576) (hl : l.length ≤ 9223372036854775807) (hf : ∀ x ∈ l, x.length ≤ 9223372036854775807) :
    Calls Try.prog 23 #[v, .int .i64 c] w fun e w' => ∃ r, e = .returned (.int .i64 r) ∧ -1 ≤ r ∧ r ≤ c ∧ (0 ≤ r → l.length ≤ 1048576 ∧ ∀ x ∈ l, x.length ≤ 1048576) ∧ w' = w := by
  obtain ⟨a, cap, rfl, hk'⟩ := h
  have HK := hide hf
  clear hf
  by_cases h : c - l.length < 0
  · clear hk'
    go_enter Try.func23, Try.ntmps23
    go_wp2_with fail
    go_ret
    exact ⟨_, rfl, by omega, by omega, by omega, rfl⟩
  · go_enter Try.func23, Try.ntmps23
    go_wp2_with fail
    go_loopw [1, 5] (fun cv i wr => ∃ (k : Nat) (r : Int), k ≤ l.length ∧ i = .int .i64 k ∧ cv = .int .i64 r ∧ 0 ≤ r ∧ r ≤ c ∧ Hid (∀ x ∈ l.take k, x.length ≤ 1048576) ∧ wr = w) (fun _ i _ => l.length - (intOf i).toNat)
    case atStart => exact ⟨0, _, Nat.zero_le _, rfl, rfl, by omega, by omega, by simp [Hid], rfl⟩
    case round =>
      obtain ⟨k, r, hkl, rfl, rfl, hr0, hrc, hall, rfl⟩ := hrel
      by_cases hlt : k < l.length
      · obtain ⟨b, off, rfl, hb, hc⟩ := hk'.resolve_left (by intro e; simp [e] at hlt)
        obtain ⟨kv, g0, ak, ck, rfl, -⟩ := hc k hlt
        have hlx := HK.out (l[k]?.getD []) (by simp [hlt])
        have HCall := hide (szInts_any ak (l[k]?.getD []).length ck r wr hr0 (by omega) hlx)
        have HSn := hide (@take_snoc_all _ l [] k hlt (fun x => x.length ≤ 1048576) hall.out)
        clear hc hk' hlx hall
        generalize l[k]?.getD [] = x at *
        go_wp2_with fail
        refine HCall.out.mono ?_
        rintro e w1 ⟨r1, rfl, hr1, hr2, hr3, rfl⟩
        by_cases hr : r1 < 0
        · clear hr3
          go_wp2_with fail
          go_ret
          exact ⟨_, rfl, by omega, by omega, by omega, rfl⟩
        · have HA2 := hide (HSn.out (hr3 (by omega)))
          clear hr3 HCall
          go_wp2_with fail
          exact ⟨⟨k + 1, r1, by omega, by go_num, rfl, by omega, by omega, HA2, by trivial⟩, by simp [intOf]; omega⟩
      · have HA2 : Hid (∀ x ∈ l, x.length ≤ 1048576) := by have := hall.out; rwa [List.take_of_length_le (by omega)] at this
        clear hk' hall
        go_wp2_with fail
        go_ret
        exact ⟨_, rfl, by omega, by omega, fun _ => ⟨by omega, HA2.out⟩, rfl⟩

set_option maxHeartbeats 400000 in
theorem szMach_any (n₀ : Nat) (v : Value) (m : PMach) (c : Int) (w : World) (h : MachVal n₀ w v m) (hn : n₀ ≤ w.heap.size) (h0 : 0 ≤ c) (h1 : c ≤ 1048576) (hf : FitsMach m) :
    Calls Try.prog 7 #[v, .int .i64 c] w fun e w' => ∃ r, e = .returned (.int .i64 r) ∧ -1 ≤ r ∧ r ≤ c ∧ (0 ≤ r → SmallMach m) ∧ Below w.heap.size w w' := by
  obtain ⟨a, cap, a', cap', rfl, -, hk, hb⟩ := h.form
  have hW := (Below.refl w.heap.size w).alloc (Nat.le_refl _) (.cells #[.slice a m.next.length cap, .slice a' m.final.length cap'] 25)
  have HS := hide (szRows_any n₀ _ m.next c _ (hk.below (Nat.le_refl _) (hW.mono hn)) (by simp; omega) h0 h1 hf.next hf.rows)
  have HF := hide (fun r w1 h0 h1 => szBools_any a' m.final.length cap' r w1 h0 h1 hf.final)
  clear hk hb h hf
  go_enter Try.func7, Try.ntmps7
  go_wp2_with fail
  refine HS.out.mono ?_
  rintro e w1 ⟨r, rfl, hr1, hr2, hr3, rfl⟩
  by_cases hr : r < 0
  · clear hr3
    go_wp2_with fail
    go_ret
    exact ⟨_, rfl, by omega, by omega, by omega, hW⟩
  · have HR := hide (hr3 (by omega))
    clear hr3 HS
    go_wp2_with fail
    refine (HF.out r _ (by omega) (by omega)).mono ?_
    rintro e w1 ⟨r1, rfl, hr1, hr2, hr3, rfl⟩
    by_cases hr : r1 < 0
    · clear hr3
      go_wp2_with fail
      go_ret
      exact ⟨_, rfl, by omega, by omega, by omega, hW⟩
    · have HR3 := hide (hr3 (by omega))
      clear hr3
      go_wp2_with fail
      go_ret
      exact ⟨_, rfl, by omega, by omega, fun _ => ⟨HR.out.1, HR.out.2, HR3.out⟩, hW⟩
end Go.Proofs.Ytlbfjmfjakhmdaa
