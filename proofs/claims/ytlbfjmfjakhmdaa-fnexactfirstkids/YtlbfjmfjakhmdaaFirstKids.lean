/-
  FirstKids: what the program answers; how long the answer may be.
-/
import Derived.Test.YtlbfjmfjakhmdaaFirstImpl
import Derived.Test.YtlbfjmfjakhmdaaFirstSpec
namespace Go.Proofs.Ytlbfjmfjakhmdaa
open Go.RowKit

theorem least_true (p : Nat → Bool) : ∀ n, (∀ i, i < n → p i = false) ∨ ∃ j, j < n ∧ p j = true ∧ ∀ i, i < j → p i = false
  | 0 => .inl fun i hi => by omega
  | n + 1 => by
    rcases least_true p n with h | ⟨j, hj, h1, h2⟩
    · cases hp : p n with
      | true => exact .inr ⟨n, by omega, hp, h⟩
      | false =>
        refine .inl fun i hi => ?_
        rcases Nat.lt_succ_iff_lt_or_eq.1 hi with h3 | rfl
        · exact h i h3
        · exact hp
    · exact .inr ⟨j, by omega, h1, h2⟩

theorem first_exists {m : PMach} (hM : MachP m) : ∃ o, FirstP m o ∧ (o.getD []).length ≤ 1048576 := by
  obtain ⟨T, hT⟩ : ∃ T, T / 8 = 512 := ⟨4096, rfl⟩
  have hq := runQ_ok hM T
  have hl := hq.length
  have h5 := hM.most
  rcases least_true (fun j => isFin m (entry (runQ m T) j)) (runQ m T).length with h | ⟨j, hj, h1, h2⟩
  · exact ⟨none, .no T (by omega) h, by simp⟩
  · refine ⟨_, .hit T j hj h1 h2, ?_⟩
    have := hq.len j hj
    simp only [Option.getD_some]
    omega

theorem firstAns_len {m : PMach} {r : Bool} (hr : r = true ↔ MachP m) : (firstAns r m).length ≤ 1048576 := by
  cases r with
  | false => simp [firstAns]
  | true =>
    obtain ⟨o, h1, h2⟩ := first_exists (hr.1 rfl)
    show ((firstOf m).getD []).length ≤ _
    rw [firstOf_eq h1]; exact h2

set_option maxHeartbeats 1000000 in
set_option maxRecDepth 100000 in
theorem implFirstKids_any (n₀ : Nat) (v : Value) (m : PMach) (w : World) (h : MachVal n₀ w v m) (hn : n₀ ≤ w.heap.size) (hl : SmallMach m) (r : Bool) (hr : r = true ↔ MachP m) (ks : List Int) (c : Int) (hks : ks = firstAns r m) (hc : c = firstCode r m) :
    Calls Try.prog 17 #[v] w (ListPost w ks c) := by
  obtain ⟨a, cap, a', cap', rfl, hm, -, -⟩ := h.form
  have hW := (Below.refl w.heap.size w).alloc (Nat.le_refl _) (.cells #[.slice a m.next.length cap, .slice a' m.final.length cap'] 28)
  have HOK := hide (implMachineOK_any n₀ _ m _ (hm.below (Nat.le_refl _) (hW.mono hn)) (by simp; omega) hl r hr)
  have HR := hide hr
  have HM := hide hm
  have HKS := hide hks
  have HC := hide hc
  clear hl hr h hm hks hc
  cases r with
  | false =>
    have e1 : Hid (ks = []) := HKS.out
    have e2 : Hid (c = 1) := HC.out
    go_enter Try.func17, Try.ntmps17
    go_wp2_with fail
    refine HOK.out.mono ?_
    rintro e w1 ⟨rfl, hb1⟩
    have hb1' := hW.trans (hb1.mono (by simp))
    go_wp2_with fail
    go_ret2
    refine ⟨_, ret_vc e2.out.symm, ?_, hb1'⟩
    rw [e1.out]; exact World.ownsRow_nil _ _ _ _
  | true =>
    have HMP := hide (HR.out.1 rfl)
    have e1 : Hid (ks = (firstOf m).getD []) := HKS.out
    have e2 : Hid (c = if firstOf m = none then 5 else 0) := HC.out
    go_enter Try.func17, Try.ntmps17
    go_wp2_with fail
    refine HOK.out.mono ?_
    rintro e w1 ⟨rfl, hb1⟩
    simp only [World.size_alloc] at hb1
    have hs1 := hb1.size
    simp only [World.size_alloc] at hs1
    have hb1' := hW.trans (hb1.mono (by omega))
    have c0 : w1.cell? ⟨w.heap.size, 0, none⟩ = some (.slice a m.next.length cap) := by rw [hb1.cell (p := ⟨w.heap.size, 0, none⟩) (by simp)]; simp
    have c1 : w1.cell? ⟨w.heap.size, 1, none⟩ = some (.slice a' m.final.length cap') := by rw [hb1.cell (p := ⟨w.heap.size, 1, none⟩) (by simp)]; simp
    have HF := hide (firstWay_any n₀ _ m w1 (HM.out.below (Nat.le_refl _) (hb1'.mono hn)) (by omega) HMP.out)
    clear HOK
    go_wp2_with fail
    refine HF.out.mono ?_
    rintro e w2 (⟨rfl, ho, hb2⟩ | ⟨b, s, ks', rfl, ho, hlen, hst, hb2⟩)
    · have e3 : Hid (c = 5) := by rw [Hid, e2.out, ho]; rfl
      have e4 : Hid (ks = []) := by rw [Hid, e1.out, ho]; rfl
      clear ho
      have hb2' := hb1'.trans (hb2.mono (by omega))
      go_wp2_with fail
      go_ret2
      refine ⟨_, ret_vc e3.out.symm, ?_, hb2'⟩
      rw [e4.out]; exact World.ownsRow_nil _ _ _ _
    · have e3 : Hid (c = 0) := by rw [Hid, e2.out, ho]; rfl
      have e4 : Hid (ks = ks') := by rw [Hid, e1.out, ho]; rfl
      clear ho
      have hs2 := hb2.size
      have hb2' := hb1'.trans (hb2.mono (by omega))
      have HK := hide (stepKids_any b s ks' w2 hst hlen)
      clear hst
      go_wp2_with fail
      refine HK.out.mono ?_
      rintro e w3 ⟨v3, rfl, hrow, hb3⟩
      have HRow := hide hrow
      obtain ⟨a3, c3, rfl⟩ := row_shape hrow
      clear hrow
      go_wp2_with fail
      go_ret2
      refine ⟨_, ret_vc e3.out.symm, ?_, hb2'.trans (hb3.mono (by omega))⟩
      rw [e4.out]; exact ownsRow_base HRow.out (by omega)
end Go.Proofs.Ytlbfjmfjakhmdaa
