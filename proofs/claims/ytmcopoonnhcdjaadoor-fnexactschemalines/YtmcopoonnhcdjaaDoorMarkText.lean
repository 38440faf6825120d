/-
  The law package's marking text of a number.
-/
import Derived.Test.YtmcopoonnhcdjaaDoorMarkInts
import Derived.Laws.BitsAllLaws
namespace Go.Proofs.YtmcopoonnhcdjaaDoor
open Go.RowKit

/-- A number's digits. -/
def decB (n : Nat) : ByteArray := if _h : n = 0 then ⟨#[]⟩ else decB (n / 10) ++ ⟨#[(48 + n % 10).toUInt8]⟩
termination_by n
decreasing_by omega

theorem decB_zero : decB 0 = ⟨#[]⟩ := by rw [decB]; simp
theorem decB_pos {n : Nat} (h : n ≠ 0) : decB n = decB (n / 10) ++ ⟨#[(48 + n % 10).toUInt8]⟩ := by rw [decB]; simp [h]

/-- The text that marks a number. -/
def markOf (k : Nat) : ByteArray := if k = 0 then ⟨#[109, 48]⟩ else ⟨#[109]⟩ ++ decB k

theorem digit_text (w : World) (c : Nat) (hc : c < 256) :
    (convert 131 9 (.slice (some ⟨w.heap.size, 0, none⟩) 1 1)).run Tryd.prog (w.alloc (.cells #[.int .u8 (c : Int)] 5)) = .ok (.string ⟨#[c.toUInt8]⟩) (w.alloc (.cells #[.int .u8 (c : Int)] 5)) :=
  run_convert_bytes_back (P := Tryd.prog) _ 131 9 5 ⟨w.heap.size, 0, none⟩ 1 [c.toUInt8] Tryd.underlying131 Tryd.underlying5 Tryd.underlying9 (fun j hj => by
    match j, hj with
    | 0, _ =>
      have e : ((c.toUInt8).toNat : Int) = (c : Int) := by
        have : (c.toUInt8).toNat = c % 256 := by simp
        rw [this, Nat.mod_eq_of_lt hc]
      simp only [List.getElem_cons_zero, e]
      simp [Addr.add])

theorem ret_str {a b : ByteArray} (h : a = b) : Ending.returned (.string a) = Ending.returned (.string b) := by rw [h]
theorem nil_app (b : ByteArray) : (⟨#[]⟩ : ByteArray) ++ b = b := ByteArray.ext (by rw [ByteArray.data_append]; simp)
theorem app_nil (b : ByteArray) : b ++ (⟨#[]⟩ : ByteArray) = b := ByteArray.ext (by rw [ByteArray.data_append]; simp)

set_option maxHeartbeats 1000000 in
set_option maxRecDepth 100000 in
theorem markText_any (k : Nat) (x : Int) (w : World) (hx : Hid (x = k)) (hk0 : 0 ≤ x) (hk : x ≤ 1000000000000) :
    Calls Tryd.prog 54 #[.int .i64 x] w fun e w' => e = .returned (.string (markOf k)) ∧ Below w.heap.size w w' := by
  by_cases h0 : x ≤ 0
  · have HM : Hid (markOf k = ⟨#[109, 48]⟩) := by have := hx.out; unfold Hid markOf; rw [if_pos (by omega)]
    generalize markOf k = mk at *
    go_enter Tryd.func54, Tryd.ntmps54
    go_wp2_with fail
    go_ret
    exact ⟨ret_str HM.out.symm, Below.refl _ _⟩
  · have HM : Hid (markOf k = ⟨#[109]⟩ ++ decB k) := by have := hx.out; unfold Hid markOf; rw [if_neg (by omega)]
    generalize markOf k = mk at *
    obtain ⟨dk, hdk⟩ : ∃ dk, dk = decB k := ⟨_, rfl⟩
    rw [← hdk] at HM
    have HD := hide hdk
    clear hdk
    go_enter Tryd.func54, Tryd.ntmps54
    go_wp2_with fail
    go_loopw [0, 3] (fun kv o wr => ∃ (m : Nat) (y : Int) (out : ByteArray), kv = .int .i64 y ∧ Hid (y = m) ∧ 0 ≤ y ∧ y ≤ 1000000000000 ∧ o = .string out ∧ (out.size : Int) ≤ 1000000000000 - y ∧ Hid (decB m ++ out = dk) ∧ Below w.heap.size w wr) (fun kv _ _ => (intOf kv).toNat)
    case atStart => exact ⟨k, x, ⟨#[]⟩, rfl, hx, hk0, hk, rfl, by show ((0 : Nat) : Int) ≤ _; omega, by unfold Hid; rw [HD.out, app_nil], Below.refl _ _⟩
    case round =>
      obtain ⟨m, y, out, rfl, hy, hy0, hy1, rfl, hos, hout, hbr⟩ := hrel
      have hos2 : out.size ≤ 1000000000000 := by omega
      have hs1 : ∀ c, (⟨#[c]⟩ : ByteArray).size = 1 := fun _ => rfl
      by_cases hm0 : y ≤ 0
      · have he : Hid (out = dk) := by
          have := hout.out
          have h1 := hy.out
          rw [show m = 0 by omega, decB_zero, nil_app] at this
          exact this
        clear hout
        go_wp2_with fail
        go_ret
        exact ⟨ret_str (by rw [HM.out, he.out]), hbr⟩
      · have h1 := hy.out
        obtain ⟨q, hq⟩ : ∃ q : Int, q = ((m % 10 : Nat) : Int) := ⟨_, rfl⟩
        obtain ⟨z, hz⟩ : ∃ z : Int, z = ((m / 10 : Nat) : Int) := ⟨_, rfl⟩
        obtain ⟨c, hc⟩ : ∃ c : Nat, c = 48 + m % 10 := ⟨_, rfl⟩
        have htm : y.tmod 10 = q := by rw [Int.tmod_eq_emod_of_nonneg hy0]; omega
        have htd : y.tdiv 10 = z := by rw [Int.tdiv_eq_ediv_of_nonneg hy0]; omega
        have hq0 : 0 ≤ q := by omega
        have hq9 : q ≤ 9 := by omega
        have hz0 : 0 ≤ z := by omega
        have hzy : z < y := by omega
        have HZ : Hid (z = ((m / 10 : Nat) : Int)) := hz
        have hc2 : c < 256 := by omega
        have hw8 : IntKind.u8.wrap (48 + q) = (c : Int) := by rw [IntKind.wrap_u8]; omega
        have hnew : Hid (decB (m / 10) ++ ((⟨#[c.toUInt8]⟩ : ByteArray) ++ out) = dk) := by
          have := hout.out
          rw [decB_pos (by omega), ByteArray.append_assoc, ← hc] at this
          exact this
        have hconv := digit_text wr c hc2
        clear hout h1 hq hz hc
        go_wp2_with fail
        refine ⟨⟨m / 10, z, _, rfl, HZ, hz0, by omega, rfl, ?_, hnew, hbr.alloc hbr.size _⟩, by simp [intOf]; omega⟩
        rw [ByteArray.size_append, hs1]; omega
end Go.Proofs.YtmcopoonnhcdjaaDoor
