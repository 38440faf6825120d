/-
  What the specification's look-ups over a document's nodes answer.
-/
import Derived.Test.YtfjhpfgffbghdaaBasicHas
namespace Go.Proofs.Ytfjhpfgffbghdaa
open Go.RowKit

/-- The place of a node in the list, -1 of none. -/
def placeOf : List PNode → Int → Int
  | [], _ => -1
  | x :: l, i => if x.id = i then 0 else if placeOf l i < 0 then -1 else placeOf l i + 1

theorem placeOf_ge : ∀ (l : List PNode) (i : Int), -1 ≤ placeOf l i
  | [], _ => by simp [placeOf]
  | x :: l, i => by have := placeOf_ge l i; simp only [placeOf]; split; omega; split <;> omega

theorem placeOf_no {l : List PNode} {i : Int} : placeOf l i = -1 ↔ i ∉ idsOf l := by
  induction l with
  | nil => simp [placeOf, idsOf]
  | cons x l ih =>
    have := placeOf_ge l i
    simp only [placeOf, idsOf, List.map_cons, List.mem_cons, not_or]
    simp only [idsOf] at ih
    rw [← ih]
    by_cases h : x.id = i
    · simp [h]
    · rw [if_neg h]; split <;> omega

theorem placeOf_hit {l : List PNode} {k : Nat} (h : k < l.length) {i : Int} (h0 : i ∉ idsOf (l.take k)) (h1 : ((l[k]?.getD nodeNil).id == i) = true) : placeOf l i = k := by
  induction l generalizing k with
  | nil => simp at h
  | cons x l ih =>
    cases k with
    | zero => simp at h1; simp [placeOf, h1]
    | succ k =>
      simp only [List.take_succ_cons, idsOf, List.map_cons, List.mem_cons, not_or] at h0
      have := ih (k := k) (by simpa using h) h0.2 (by simpa using h1)
      simp only [placeOf]
      rw [if_neg (fun e => h0.1 e.symm), this, if_neg (by omega)]; omega

theorem ids_snoc {l : List PNode} {k : Nat} (h : k < l.length) : idsOf (l.take (k + 1)) = idsOf (l.take k) ++ [(l[k]?.getD nodeNil).id] := by
  rw [List.take_succ_eq_append_getElem h]; simp [idsOf, h, -List.take_append_getElem]

theorem ids_no_snoc {l : List PNode} {k : Nat} (h : k < l.length) {i : Int} (h0 : i ∉ idsOf (l.take k)) (h1 : ((l[k]?.getD nodeNil).id == i) = false) : i ∉ idsOf (l.take (k + 1)) := by
  rw [ids_snoc h]; simp [h0]; intro e; simp [e] at h1

set_option maxHeartbeats 400000 in
theorem specAt_any (n₀ : Nat) (r nx : Int) (s : Value) (l : List PNode) (i : Int) (w : World) (hk : NodesAt n₀ w s l) (hn : n₀ ≤ w.heap.size) (hl : l.length ≤ 1048576) :
    Calls Try.prog 66 #[.agg #[.int .i64 r, .int .i64 nx, s], .int .i64 i] w fun e w' => e = .returned (.int .i64 (placeOf l i)) ∧ Below w.heap.size w w' := by
  obtain ⟨a, cap, rfl, hk⟩ := hk
  go_enter Try.func66, Try.ntmps66
  go_wp2
  go_loop [5] (fun i' => ∃ k : Nat, k ≤ l.length ∧ i' = .int .i64 k ∧ Hid (i ∉ idsOf (l.take k))) (fun i => l.length - (intOf i).toNat)
  case atStart => exact ⟨0, Nat.zero_le _, rfl, by simp [Hid, idsOf]⟩
  case round =>
    obtain ⟨k, hkl, rfl, hno⟩ := hrel
    by_cases hlt : k < l.length
    · obtain ⟨b, off, rfl, hb, hc⟩ := hk.resolve_left (by intro e; simp [e] at hlt)
      have hck := (hc k hlt).c0
      have hbw : b < w.heap.size := by omega
      have HS := hide (@ids_no_snoc l k hlt i hno.out)
      have HH := hide (@placeOf_hit l k hlt i hno.out)
      clear hc
      generalize (l[k]?.getD nodeNil).id = y at *
      go_wp2
      · go_ret
        exact ⟨ret_int (HH.out (by assumption)).symm, (Below.refl _ _).alloc (Nat.le_refl _) _⟩
      · go_round
        case rel => exact ⟨k + 1, by omega, by go_num, HS.out (by assumption)⟩
        case measure => simp [intOf]; omega
    · have hh : Hid (placeOf l i = -1) := placeOf_no.2 (by have := hno.out; rwa [List.take_of_length_le (by omega)] at this)
      clear hno
      go_wp2
      go_ret
      exact ⟨ret_int hh.out.symm, (Below.refl _ _).alloc (Nat.le_refl _) _⟩
end Go.Proofs.Ytfjhpfgffbghdaa
