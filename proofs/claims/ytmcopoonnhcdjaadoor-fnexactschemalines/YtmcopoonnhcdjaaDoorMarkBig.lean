/-
  The law package's markText at every number that its marks come to.
-/
import Derived.Test.YtmcopoonnhcdjaaDoorMarkText
namespace Go.Proofs.YtmcopoonnhcdjaaDoor
open Go.RowKit

set_option maxHeartbeats 1000000 in
set_option maxRecDepth 100000 in
theorem markText_big (k : Nat) (x : Int) (w : World) (hx : Hid (x = k)) (hk0 : 0 ≤ x) (hk : x ≤ 2000000000000000000) :
    Calls Tryd.prog 54 #[.int .i64 x] w fun e w' => e = .returned (.string (markOf k)) ∧ Below w.heap.size w w' := by
  by_cases h0 : x ≤ 0
  · have HM : Hid (markOf k = ⟨#[109, 48]⟩) := by have := hx.out; unfold Hid markOf; rw [if_pos (by omega)]
    generalize markOf k = mk at *
    go_enter Tryd.func54, Tryd.ntmps54
    go_wp2_with fail
    go_ret
    exact ⟨ret_str HM.out.symm, Below.refl _ _⟩
  · have HM : Hid (markOf k = ⟨#[109]⟩ ++ decB k) := by have := hx.out; unfold Hid markOf; rw [if_neg (by omega)]
    generalize markOf k = mk at *
    obtain ⟨dk, hdk⟩ : ∃ dk, dk = decB k := ⟨_, rfl⟩
    rw [← hdk] at HM
    have HD := hide hdk
    clear hdk
    go_enter Tryd.func54, Tryd.ntmps54
    go_wp2_with fail
    go_loopw [0, 3] (fun kv o wr => ∃ (m : Nat) (y : Int) (out : ByteArray), kv = .int .i64 y ∧ Hid (y = m) ∧ 0 ≤ y ∧ y ≤ 2000000000000000000 ∧ o = .string out ∧ (out.size : Int) ≤ 2000000000000000000 - y ∧ Hid (decB m ++ out = dk) ∧ Below w.heap.size w wr) (fun kv _ _ => (intOf kv).toNat)
    case atStart => exact ⟨k, x, ⟨#[]⟩, rfl, hx, hk0, hk, rfl, by show ((0 : Nat) : Int) ≤ _; omega, by unfold Hid; rw [HD.out, app_nil], Below.refl _ _⟩
    case round =>
      obtain ⟨m, y, out, rfl, hy, hy0, hy1, rfl, hos, hout, hbr⟩ := hrel
      have hos2 : out.size ≤ 2000000000000000000 := by omega
      have hs1 : ∀ c, (⟨#[c]⟩ : ByteArray).size = 1 := fun _ => rfl
      by_cases hm0 : y ≤ 0
      · have he : Hid (out = dk) := by
          have := hout.out
          have h1 := hy.out
          rw [show m = 0 by omega, decB_zero, nil_app] at this
          exact this
        clear hout
        go_wp2_with fail
        go_ret
        exact ⟨ret_str (by rw [HM.out, he.out]), hbr⟩
      · have h1 := hy.out
        obtain ⟨q, hq⟩ : ∃ q : Int, q = ((m % 10 : Nat) : Int) := ⟨_, rfl⟩
        obtain ⟨z, hz⟩ : ∃ z : Int, z = ((m / 10 : Nat) : Int) := ⟨_, rfl⟩
        obtain ⟨c, hc⟩ : ∃ c : Nat, c = 48 + m % 10 := ⟨_, rfl⟩
        have htm : y.tmod 10 = q := by rw [Int.tmod_eq_emod_of_nonneg hy0]; omega
        have htd : y.tdiv 10 = z := by rw [Int.tdiv_eq_ediv_of_nonneg hy0]; omega
        have hq0 : 0 ≤ q := by omega
        have hq9 : q ≤ 9 := by omega
        have hz0 : 0 ≤ z := by omega
        have hzy : z < y := by omega
        have HZ : Hid (z = ((m / 10 : Nat) : Int)) := hz
        have hc2 : c < 256 := by omega
        have hw8 : IntKind.u8.wrap (48 + q) = (c : Int) := by rw [IntKind.wrap_u8]; omega
        have hnew : Hid (decB (m / 10) ++ ((⟨#[c.toUInt8]⟩ : ByteArray) ++ out) = dk) := by
          have := hout.out
          rw [decB_pos (by omega), ByteArray.append_assoc, ← hc] at this
          exact this
        have hconv := digit_text wr c hc2
        clear hout h1 hq hz hc
        go_wp2_with fail
        refine ⟨⟨m / 10, z, _, rfl, HZ, hz0, by omega, rfl, ?_, hnew, hbr.alloc hbr.size _⟩, by simp [intOf]; omega⟩
        rw [ByteArray.size_append, hs1]; omega
end Go.Proofs.YtmcopoonnhcdjaaDoor
