/-
  The kind of a name among rules: what the specification and the program answer.
-/
import Derived.Test.YtmcopoonnhcdjaaDoorSchRule
namespace Go.Proofs.YtmcopoonnhcdjaaDoor
open Go.RowKit

def nameAt (l : List PRule) (j : Nat) : ByteArray := (l[j]?.getD ruleNil).name

open Classical in
/-- The place, from 1 on, of the first rule of that name; 0 of none. -/
noncomputable def kindOf : List PRule → ByteArray → Nat
  | [], _ => 0
  | x :: l, s => if x.name = s then 1 else if kindOf l s = 0 then 0 else kindOf l s + 1

theorem kindOf_none {l : List PRule} {s : ByteArray} (h : ∀ j, j < l.length → nameAt l j ≠ s) : kindOf l s = 0 := by
  induction l with
  | nil => rfl
  | cons x l ih =>
    have h0 := h 0 (by simp)
    have h1 := ih fun j hj => h (j + 1) (by simpa using hj)
    simp only [nameAt, List.getElem?_cons_zero, Option.getD_some] at h0
    simp [kindOf, h0, h1]

theorem kindOf_hit {l : List PRule} {s : ByteArray} {k : Nat} (hk : k < l.length) (h : ∀ j, j < k → nameAt l j ≠ s) (h1 : nameAt l k = s) : kindOf l s = k + 1 := by
  induction l generalizing k with
  | nil => simp at hk
  | cons x l ih =>
    cases k with
    | zero =>
      simp only [nameAt, List.getElem?_cons_zero, Option.getD_some] at h1
      simp [kindOf, h1]
    | succ k =>
      have h0 := h 0 (by omega)
      have h2 := ih (k := k) (by simpa using hk) (fun j hj => h (j + 1) (by omega)) h1
      simp only [nameAt, List.getElem?_cons_zero, Option.getD_some] at h0
      simp [kindOf, h0, h2]

theorem kindOf_le (l : List PRule) (s : ByteArray) : kindOf l s ≤ l.length := by
  induction l with
  | nil => simp [kindOf]
  | cons x l ih => simp only [kindOf, List.length_cons]; split; omega; split <;> omega

theorem kindOf_zero {l : List PRule} {s : ByteArray} : kindOf l s = 0 ↔ ∀ j, j < l.length → nameAt l j ≠ s := by
  refine ⟨fun h j hj e => ?_, kindOf_none⟩
  induction l generalizing j with
  | nil => simp at hj
  | cons x l ih =>
    cases j with
    | zero =>
      simp only [nameAt, List.getElem?_cons_zero, Option.getD_some] at e
      simp [kindOf, e] at h
    | succ j =>
      simp only [kindOf] at h
      split at h
      · cases h
      · split at h
        · exact ih (by assumption) j (by simpa using hj) e
        · cases h

theorem text_eq (a b : ByteArray) : (a.toList == b.toList) = true ↔ a = b := by
  rw [beq_iff_eq]
  exact ⟨toList_inj, fun h => by rw [h]⟩

set_option maxHeartbeats 400000 in
theorem named_any (x : PRule) (kv : Value) (s : ByteArray) (b : Nat) (w : World) (hb : b < w.heap.size) (hc : w.cell? ⟨b, 0, none⟩ = some (.string s)) :
    Calls Tryd.prog 116 #[.agg #[.string x.name, .bool x.leaf, kv], .pointer (some ⟨b, 0, none⟩)] w fun e w' => e = .returned (.bool (x.name.toList == s.toList)) ∧ Below w.heap.size w w' := by
  go_enter Tryd.func116, Tryd.ntmps116
  go_wp2_with fail
  go_ret
  exact ⟨rfl, (Below.refl _ _).alloc (Nat.le_refl _) _⟩

set_option maxHeartbeats 400000 in
theorem indexNamed_any (n₀ : Nat) (v : Value) (l : List PRule) (s : ByteArray) (pb : Nat) (w : World) (h : RulesAt n₀ w v l) (hn : n₀ ≤ w.heap.size) (hl : l.length ≤ 1048576) (hpb : pb < w.heap.size) (hc0 : w.cell? ⟨pb, 0, none⟩ = some (.string s)) :
    Calls Tryd.prog 115 #[v, .func (.func 116) #[] #[.pointer (some ⟨pb, 0, none⟩)]] w fun e w' => e = .returned (.int .i64 ((kindOf l s : Int) - 1)) ∧ Below w.heap.size w w' := by
  obtain ⟨a, cap, rfl, hk⟩ := h
  go_enter Tryd.func115, Tryd.ntmps115
  go_wp2_with fail
  go_loopw [8] (fun i wr => ∃ k : Nat, k ≤ l.length ∧ i = .int .i64 k ∧ Hid (∀ j, j < k → nameAt l j ≠ s) ∧ Below w.heap.size w wr) (fun i _ => l.length - (intOf i).toNat)
  case atStart => exact ⟨0, Nat.zero_le _, rfl, fun j hj => absurd hj (by omega), Below.refl _ _⟩
  case round =>
    obtain ⟨k, hkl, rfl, hno, hbr⟩ := hrel
    have hsz := hbr.size
    by_cases hlt : k < l.length
    · obtain ⟨b, off, rfl, hb, hc⟩ := hk.resolve_left (by intro e; simp [e] at hlt)
      have hA := (hc k hlt).below hb (Nat.le_refl _) (hbr.mono hn)
      have g0 := hA.c0
      have g1 := hA.c1
      obtain ⟨kv, g2, ak, ck, rfl, -⟩ := hA.c2
      have hbw : b < wr.heap.size := by omega
      have HCall := hide (named_any (l[k]?.getD ruleNil) (.slice ak (l[k]?.getD ruleNil).terms.length ck) s pb wr (by omega) ((hbr.cell (p := ⟨pb, 0, none⟩) hpb).trans hc0))
      have HT := hide (text_eq (l[k]?.getD ruleNil).name s)
      have HN : Hid ((l[k]?.getD ruleNil).name = nameAt l k) := rfl
      clear hA hc hk
      generalize l[k]?.getD ruleNil = x at *
      generalize (x.name.toList == s.toList) = te at *
      cases te with
      | true =>
        have HK : Hid (kindOf l s = k + 1) := kindOf_hit hlt hno.out (HN.out.symm.trans (HT.out.1 rfl))
        go_wp2_with (go_at_call 116; refine HCall.out.mono ?_; rintro e w1 ⟨rfl, hb1⟩)
        go_ret
        exact ⟨ret_int (by rw [HK.out]; simp), hbr.trans (hb1.mono hsz)⟩
      | false =>
        have HS : Hid (∀ j, j < k + 1 → nameAt l j ≠ s) := fun j hj => by
          by_cases e : j = k
          · rw [e, ← HN.out]; exact fun h => by have := HT.out.2 h; cases this
          · exact hno.out j (by omega)
        go_wp2_with (go_at_call 116; refine HCall.out.mono ?_; rintro e w1 ⟨rfl, hb1⟩)
        exact ⟨⟨k + 1, by omega, by go_num, HS, hbr.trans (hb1.mono hsz)⟩, by simp [intOf]; omega⟩
    · have HK : Hid (kindOf l s = 0) := kindOf_none fun j hj => hno.out j (by omega)
      clear hk
      go_wp2_with fail
      go_ret
      exact ⟨ret_int (by rw [HK.out]; rfl), hbr⟩

set_option maxHeartbeats 400000 in
theorem kindNamed_any (n₀ : Nat) (v : Value) (l : List PRule) (s : ByteArray) (w : World) (h : RulesAt n₀ w v l) (hn : n₀ ≤ w.heap.size) (hl : l.length ≤ 1048576) :
    Calls Tryd.prog 101 #[v, .string s] w fun e w' => e = .returned (.int .i64 (kindOf l s)) ∧ Below w.heap.size w w' := by
  have hW := (Below.refl w.heap.size w).alloc (Nat.le_refl _) (.cells #[.string s] 9)
  have HI := hide (indexNamed_any n₀ v l s w.heap.size (w.alloc (.cells #[.string s] 9)) (h.below (Nat.le_refl _) (hW.mono hn)) (by simp; omega) hl (by simp) (by rw [cell_of_heap (alloc_new _ _)]; rfl))
  have hmf : ∀ (fn : Fn) (first cap : Array Value) (w : World), (Instr.makeFunc fn first cap).run Tryd.prog w = .ok (.func fn first cap) w := fun _ _ _ _ => rfl
  have hkl := kindOf_le l s
  generalize kindOf l s = q at *
  obtain ⟨a, cap, rfl, -⟩ := h
  go_enter Tryd.func101, Tryd.ntmps101
  go_wp2_with fail
  refine HI.out.mono ?_
  rintro e w1 ⟨rfl, hb1⟩
  go_wp2_with fail
  go_ret
  exact ⟨ret_int (by first | omega | simp), hW.trans (hb1.mono (by simp))⟩
end Go.Proofs.YtmcopoonnhcdjaaDoor
