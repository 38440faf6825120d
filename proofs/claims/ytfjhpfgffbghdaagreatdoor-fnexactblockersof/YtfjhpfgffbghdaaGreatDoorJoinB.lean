/-
  What the specification's look-ups over a document's nodes answer.
  What the specification's tests of one node answer.
  What the program's tests of one node answer.
-/
import Derived.Test.YtfjhpfgffbghdaaGreatDoorJoinA
namespace Go.Proofs.YtfjhpfgffbghdaaGreatDoor
open Go.RowKit

/-- The place of a node in the list, -1 of none. -/
def placeOf : List PNode → Int → Int
  | [], _ => -1
  | x :: l, i => if x.id = i then 0 else if placeOf l i < 0 then -1 else placeOf l i + 1

theorem placeOf_ge : ∀ (l : List PNode) (i : Int), -1 ≤ placeOf l i
  | [], _ => by simp [placeOf]
  | x :: l, i => by have := placeOf_ge l i; simp only [placeOf]; split; omega; split <;> omega

theorem placeOf_no {l : List PNode} {i : Int} : placeOf l i = -1 ↔ i ∉ idsOf l := by
  induction l with
  | nil => simp [placeOf, idsOf]
  | cons x l ih =>
    have := placeOf_ge l i
    simp only [placeOf, idsOf, List.map_cons, List.mem_cons, not_or]
    simp only [idsOf] at ih
    rw [← ih]
    by_cases h : x.id = i
    · simp [h]
    · rw [if_neg h]; split <;> omega

theorem placeOf_hit {l : List PNode} {k : Nat} (h : k < l.length) {i : Int} (h0 : i ∉ idsOf (l.take k)) (h1 : ((l[k]?.getD nodeNil).id == i) = true) : placeOf l i = k := by
  induction l generalizing k with
  | nil => simp at h
  | cons x l ih =>
    cases k with
    | zero => simp at h1; simp [placeOf, h1]
    | succ k =>
      simp only [List.take_succ_cons, idsOf, List.map_cons, List.mem_cons, not_or] at h0
      have := ih (k := k) (by simpa using h) h0.2 (by simpa using h1)
      simp only [placeOf]
      rw [if_neg (fun e => h0.1 e.symm), this, if_neg (by omega)]; omega

theorem ids_snoc {l : List PNode} {k : Nat} (h : k < l.length) : idsOf (l.take (k + 1)) = idsOf (l.take k) ++ [(l[k]?.getD nodeNil).id] := by
  rw [List.take_succ_eq_append_getElem h]; simp [idsOf, h, -List.take_append_getElem]

theorem ids_no_snoc {l : List PNode} {k : Nat} (h : k < l.length) {i : Int} (h0 : i ∉ idsOf (l.take k)) (h1 : ((l[k]?.getD nodeNil).id == i) = false) : i ∉ idsOf (l.take (k + 1)) := by
  rw [ids_snoc h]; simp [h0]; intro e; simp [e] at h1

set_option maxHeartbeats 400000 in
theorem specAt_any (n₀ : Nat) (r nx : Int) (s : Value) (l : List PNode) (i : Int) (w : World) (hk : NodesAt n₀ w s l) (hn : n₀ ≤ w.heap.size) (hl : l.length ≤ 1048576) :
    Calls Tryz.prog 27 #[.agg #[.int .i64 r, .int .i64 nx, s], .int .i64 i] w fun e w' => e = .returned (.int .i64 (placeOf l i)) ∧ Below w.heap.size w w' := by
  obtain ⟨a, cap, rfl, hk⟩ := hk
  go_enter Tryz.func27, Tryz.ntmps27
  go_wp2
  go_loop [5] (fun i' => ∃ k : Nat, k ≤ l.length ∧ i' = .int .i64 k ∧ Hid (i ∉ idsOf (l.take k))) (fun i => l.length - (intOf i).toNat)
  case atStart => exact ⟨0, Nat.zero_le _, rfl, by simp [Hid, idsOf]⟩
  case round =>
    obtain ⟨k, hkl, rfl, hno⟩ := hrel
    by_cases hlt : k < l.length
    · obtain ⟨b, off, rfl, hb, hc⟩ := hk.resolve_left (by intro e; simp [e] at hlt)
      have hck := (hc k hlt).c0
      have hbw : b < w.heap.size := by omega
      have HS := hide (@ids_no_snoc l k hlt i hno.out)
      have HH := hide (@placeOf_hit l k hlt i hno.out)
      clear hc
      generalize (l[k]?.getD nodeNil).id = y at *
      go_wp2
      · go_ret
        exact ⟨ret_int (HH.out (by assumption)).symm, (Below.refl _ _).alloc (Nat.le_refl _) _⟩
      · go_round
        case rel => exact ⟨k + 1, by omega, by go_num, HS.out (by assumption)⟩
        case measure => simp [intOf]; omega
    · have hh : Hid (placeOf l i = -1) := placeOf_no.2 (by have := hno.out; rwa [List.take_of_length_le (by omega)] at this)
      clear hno
      go_wp2
      go_ret
      exact ⟨ret_int hh.out.symm, (Below.refl _ _).alloc (Nat.le_refl _) _⟩
end Go.Proofs.YtfjhpfgffbghdaaGreatDoor

namespace Go.Proofs.YtfjhpfgffbghdaaGreatDoor
open Go.RowKit

set_option maxHeartbeats 400000 in
theorem specKind_any (a : Int) (w : World) :
    Calls Tryz.prog 159 #[.int .i64 a] w fun e w' => e = .returned (.bool (inB a 1 8)) ∧ w' = w := by
  go_enter Tryz.func159, Tryz.ntmps159
  go_wp2_with (go_at_call 52; refine (specIn_any _ _ _ _).mono ?_; rintro e w' ⟨rfl, rfl⟩)
  go_ret
  exact ⟨rfl, rfl⟩

def nodeB (next : Int) (x : PNode) : Bool := inB x.id 1 (next - 1) && inB x.kind 1 8 && inB x.attr 0 99 && decide (x.text.size ≤ 20) && decide (x.kids.length ≤ 12)
theorem nodeB_iff {next : Int} {x : PNode} : nodeB next x = true ↔ NodeFine next x := by
  simp only [nodeB, Bool.and_eq_true, inB_iff, decide_eq_true_eq, NodeFine, and_assoc]

set_option maxHeartbeats 400000 in
theorem specNode_any (x : PNode) (next : Int) (a : Option Addr) (cap : Nat) (w : World) (h2 : 2 ≤ next) (hm : next ≤ 999999) :
    Calls Tryz.prog 150 #[.agg #[.int .i64 x.id, .int .i64 x.kind, .int .i64 x.attr, .string x.text, .slice a x.kids.length cap], .int .i64 next] w fun e w' => e = .returned (.bool (nodeB next x)) ∧ Below w.heap.size w w' := by
  go_enter Tryz.func150, Tryz.ntmps150
  go_wp2_with (first | (go_at_call 52; refine (specIn_any _ _ _ _).mono ?_; rintro e w' ⟨rfl, rfl⟩) | (go_at_call 159; refine (specKind_any _ _).mono ?_; rintro e w' ⟨rfl, rfl⟩))
  all_goals
    go_ret
    exact ⟨ret_bool (by rw [Bool.eq_iff_iff]; first | (simp [nodeB, *]; done) | (simp [nodeB, *]; omega)), (Below.refl _ _).alloc (Nat.le_refl _) _⟩

/-- The first node that has the kid, 0 of none. -/
def parentOf : List PNode → Int → Int
  | [], _ => 0
  | x :: l, i => if hasB x.kids i = true then x.id else parentOf l i

theorem parentOf_skip {l : List PNode} {k : Nat} {i : Int} (h : ∀ x ∈ l.take k, hasB x.kids i = false) : parentOf l i = parentOf (l.drop k) i := by
  induction k generalizing l with
  | zero => simp
  | succ k ih =>
    cases l with
    | nil => simp
    | cons x l =>
      have h0 := h x (by simp)
      simp only [parentOf, h0, Bool.false_eq_true, if_false, List.drop_succ_cons]
      exact ih (fun y hy => h y (by simp [hy]))

theorem parentOf_hit {l : List PNode} {k : Nat} (hk : k < l.length) {i : Int} (h : ∀ x ∈ l.take k, hasB x.kids i = false) (h1 : hasB (l[k]?.getD nodeNil).kids i = true) : parentOf l i = (l[k]?.getD nodeNil).id := by
  rw [parentOf_skip h, List.drop_eq_getElem_cons hk]
  simp [hk] at h1
  simp [parentOf, h1, hk]

theorem take_no_snoc {l : List PNode} {k : Nat} (hk : k < l.length) {p : PNode → Prop} (h : ∀ x ∈ l.take k, p x) (h1 : p (l[k]?.getD nodeNil)) : ∀ x ∈ l.take (k + 1), p x := by
  intro x hx
  rw [List.take_succ_eq_append_getElem hk] at hx
  rcases List.mem_append.1 hx with hx | hx
  · exact h x hx
  · simp [hk] at h1; simp at hx; rw [hx]; exact h1

set_option maxHeartbeats 400000 in
theorem specParent_any (n₀ : Nat) (r nx : Int) (s : Value) (l : List PNode) (i : Int) (w : World) (hk : NodesAt n₀ w s l) (hn : n₀ ≤ w.heap.size) (hl : l.length ≤ 1048576) (hkl : ∀ x ∈ l, x.kids.length ≤ 1048576) :
    Calls Tryz.prog 117 #[.agg #[.int .i64 r, .int .i64 nx, s], .int .i64 i] w fun e w' => e = .returned (.int .i64 (parentOf l i)) ∧ Below w.heap.size w w' := by
  obtain ⟨a, cap, rfl, hk⟩ := hk
  go_enter Tryz.func117, Tryz.ntmps117
  go_wp2
  go_loop [5] (fun i' => ∃ k : Nat, k ≤ l.length ∧ i' = .int .i64 k ∧ Hid (∀ x ∈ l.take k, hasB x.kids i = false)) (fun i => l.length - (intOf i).toNat)
  case atStart => exact ⟨0, Nat.zero_le _, rfl, by simp [Hid]⟩
  case round =>
    obtain ⟨k, hkl', rfl, hno⟩ := hrel
    by_cases hlt : k < l.length
    · obtain ⟨b, off, rfl, hb, hc⟩ := hk.resolve_left (by intro e; simp [e] at hlt)
      have hbw : b < w.heap.size := by omega
      have hck := (hc k hlt).c0
      obtain ⟨vk, hc4, hik⟩ := (hc k hlt).c4
      have hlk : (l[k]?.getD nodeNil).kids.length ≤ 1048576 := by simp [hlt]; exact hkl _ (List.getElem_mem hlt)
      have HS := hide (@take_no_snoc l k hlt (fun x => hasB x.kids i = false) hno.out)
      have HH := hide (@parentOf_hit l k hlt i hno.out)
      clear hc hk hkl
      have hh : Calls Tryz.prog 71 #[vk, .int .i64 i] (w.alloc (.cells #[.int .i64 r, .int .i64 nx, .slice (some ⟨b, off, none⟩) l.length cap] 38)) fun e w' => e = .returned (.bool (hasB (l[k]?.getD nodeNil).kids i)) ∧ w' = w.alloc (.cells #[.int .i64 r, .int .i64 nx, .slice (some ⟨b, off, none⟩) l.length cap] 38) :=
        specHas_any (w.heap.size) _ _ _ _ (hik.below hn ((Below.refl _ _).alloc hn _)) hlk
      obtain ⟨ak, ck, rfl, -⟩ := hik
      generalize (l[k]?.getD nodeNil) = y at *
      go_wp2_with (go_at_call 71; refine hh.mono ?_; rintro e w' ⟨rfl, rfl⟩)
      · go_ret
        exact ⟨ret_int (HH.out (by assumption)).symm, (Below.refl _ _).alloc (Nat.le_refl _) _⟩
      · go_round
        case rel => exact ⟨k + 1, by omega, by go_num, HS.out (by simpa using ‹_›)⟩
        case measure => simp [intOf]; omega
    · have hh : Hid (parentOf l i = 0) := by unfold Hid; rw [parentOf_skip hno.out, List.drop_eq_nil_of_le (by omega)]; rfl
      clear hno hkl hk
      go_wp2
      go_ret
      exact ⟨ret_int hh.out.symm, (Below.refl _ _).alloc (Nat.le_refl _) _⟩
end Go.Proofs.YtfjhpfgffbghdaaGreatDoor

namespace Go.Proofs.YtfjhpfgffbghdaaGreatDoor
open Go.RowKit

def okB (x : PNode) : Bool := inB x.kind 1 8 && inB x.attr 0 99 && decide (x.text.size ≤ 20) && decide (x.kids.length ≤ 12)
theorem okB_iff {next last : Int} {x : PNode} (h : inB x.id (last + 1) (next - 1) = true) (h0 : 0 ≤ last) : okB x = true ↔ NodeFine next x := by
  have := inB_iff.1 h
  simp only [okB, Bool.and_eq_true, inB_iff, decide_eq_true_eq, NodeFine, and_assoc]
  constructor
  · intro h; exact ⟨by omega, by omega, h⟩
  · intro h; exact h.2.2

set_option maxHeartbeats 400000 in
theorem nodeOK_any (x : PNode) (a : Option Addr) (cap : Nat) (w : World) :
    Calls Tryz.prog 151 #[.agg #[.int .i64 x.id, .int .i64 x.kind, .int .i64 x.attr, .string x.text, .slice a x.kids.length cap]] w fun e w' => e = .returned (.bool (okB x)) ∧ Below w.heap.size w w' := by
  go_enter Tryz.func151, Tryz.ntmps151
  go_wp2_with (go_at_call 57; refine (between_any _ _ _ _).mono ?_; rintro e w' ⟨rfl, rfl⟩)
  all_goals
    go_ret
    exact ⟨ret_bool (by rw [Bool.eq_iff_iff]; first | (simp [okB, *]; done) | (simp [okB, *]; omega)), (Below.refl _ _).alloc (Nat.le_refl _) _⟩
end Go.Proofs.YtfjhpfgffbghdaaGreatDoor
