/-
  Whether two lists of numbers are the same, as the program's library answers.
-/
import Derived.Test.YtlbfjmfjakhmdaaLawInts
import Derived.Test.YtlbfjmfjakhmdaaBasicIn
namespace Go.Proofs.Ytlbfjmfjakhmdaa
open Go.RowKit

theorem no_true {r : Bool} {p : Prop} (h : r = true ↔ p) (hn : ¬ p) : r = false := by
  cases r
  · rfl
  · exact absurd (h.1 rfl) hn

theorem list_getD_ext {α : Type} (z : α) {l l' : List α} (hl : l.length = l'.length) (h : ∀ j, j < l.length → l[j]?.getD z = l'[j]?.getD z) : l = l' := by
  refine List.ext_getElem hl fun j h1 h2 => ?_
  have := h j h1
  simpa [h1, h2] using this

theorem text_ne {a b : ByteArray} (h : a ≠ b) : (a.toList == b.toList) = false := by
  rw [beq_eq_false_iff_ne]
  intro e
  rw [ByteArray.toList_eq, ByteArray.toList_eq] at e
  exact h (ByteArray.ext (Array.ext' e))

theorem int_ne {a b : Int} (h : a ≠ b) : (a == b) = false ∧ (a != b) = true := by simp [h]

set_option maxHeartbeats 400000 in
theorem equalInts_any (n₀ : Nat) (v v' : Value) (ks ks' : List Int) (w : World) (h : IntsAt n₀ w v ks) (h' : IntsAt n₀ w v' ks') (hl : ks.length ≤ 1048576) (_hl' : ks'.length ≤ 1048576) (r : Bool) (hr : r = true ↔ ks = ks') :
    Calls Try.prog 41 #[v, v'] w fun e w' => e = .returned (.bool r) ∧ Below w.heap.size w w' := by
  obtain ⟨a, cap, rfl, hk⟩ := h
  obtain ⟨a', cap', rfl, hk'⟩ := h'
  have HR := hide hr
  clear hr
  by_cases hle : ks.length = ks'.length
  · have hle1 : ((ks.length : Int) != (ks'.length : Int)) = false := by simp [hle]
    have HL := hide hle
    clear hle
    go_enter Try.func41, Try.ntmps41
    go_wp2_with fail
    go_loopw [13] (fun i wr => ∃ k : Nat, k ≤ ks.length ∧ i = .int .i64 k ∧ Hid (∀ j, j < k → ks[j]?.getD 0 = ks'[j]?.getD 0) ∧ ∃ q, wr = w.drewN q) (fun i _ => ks.length - (intOf i).toNat)
    case atStart => exact ⟨0, Nat.zero_le _, rfl, fun j hj => absurd hj (by omega), 0, rfl⟩
    case round =>
      obtain ⟨k, hkl, rfl, hsame, q, rfl⟩ := hrel
      by_cases hlt : k < ks.length
      · have hlt' : k < ks'.length := by rw [← HL.out]; exact hlt
        obtain ⟨b, off, rfl, hb, hc⟩ := hk.resolve_left (by intro e; simp [e] at hlt)
        obtain ⟨b', off', rfl, hb', hc'⟩ := hk'.resolve_left (by intro e; simp [e] at hlt')
        have hck := hc k hlt
        have hck' := hc' k hlt'
        have hlt1 : (k : Int) < (ks.length : Int) := by omega
        have hlt1' : (k : Int) < (ks'.length : Int) := by omega
        clear hc hc' hk hk'
        obtain ⟨x, hx⟩ : ∃ x, x = ks[k]?.getD 0 := ⟨_, rfl⟩
        obtain ⟨y, hy⟩ : ∃ y, y = ks'[k]?.getD 0 := ⟨_, rfl⟩
        rw [← hx] at hck
        rw [← hy] at hck'
        have HX := hide hx
        have HY := hide hy
        clear hx hy
        by_cases hxy : x = y
        · subst hxy
          go_wp2_with fail
          go_quiet (fail)
          go_wp2_with fail
          refine ⟨⟨k + 1, by omega, by go_num, fun j hj => ?_, _, rfl⟩, by simp [intOf]; omega⟩
          rcases Nat.lt_succ_iff_lt_or_eq.1 hj with h | rfl
          · exact hsame.out j h
          · exact HX.out.symm.trans HY.out
        · have hf : Hid (r = false) := no_true HR.out (fun e => hxy (by rw [HX.out, HY.out, e]))
          have hne := (int_ne hxy).1
          have hne2 := (int_ne hxy).2
          clear hxy
          go_wp2_with fail
          go_quiet (fail)
          go_wp2_with fail
          go_ret
          exact ⟨ret_bool hf.out.symm, below_drewN (below_drewN (Below.refl _ _) _) _⟩
      · have ht : Hid (r = true) := HR.out.2 (list_getD_ext 0 HL.out fun j hj => hsame.out j (by omega))
        clear hk hk'
        go_wp2_with fail
        go_ret
        exact ⟨ret_bool ht.out.symm, below_drewN (Below.refl _ _) _⟩
  · have hf : Hid (r = false) := no_true HR.out (fun e => hle (by rw [e]))
    have hle1 : ((ks.length : Int) != (ks'.length : Int)) = true := by simp; omega
    clear hle hk hk'
    go_enter Try.func41, Try.ntmps41
    go_wp2_with fail
    go_ret
    exact ⟨ret_bool hf.out.symm, Below.refl _ _⟩
end Go.Proofs.Ytlbfjmfjakhmdaa
