/-
  Whether two lists of numbers, and two nodes, are the same: the specification's answer and the program's.
-/
import Derived.Test.YtigkjljknmojhaaLawEq
import Derived.Test.YtigkjljknmojhaaSpecOK
namespace Go.Proofs.Ytigkjljknmojhaa
open Go.RowKit

theorem list_getD_ext {α : Type} (z : α) {l l' : List α} (hl : l.length = l'.length) (h : ∀ j, j < l.length → l[j]?.getD z = l'[j]?.getD z) : l = l' := by
  refine List.ext_getElem hl fun j h1 h2 => ?_
  have := h j h1
  simpa [h1, h2] using this

theorem text_ne {a b : ByteArray} (h : a ≠ b) : (a.toList == b.toList) = false := by
  rw [beq_eq_false_iff_ne]
  intro e
  rw [ByteArray.toList_eq, ByteArray.toList_eq] at e
  exact h (ByteArray.ext (Array.ext' e))

theorem int_ne {a b : Int} (h : a ≠ b) : (a == b) = false ∧ (a != b) = true := by simp [h]

set_option maxHeartbeats 400000 in
theorem specInts_any (n₀ : Nat) (v v' : Value) (ks ks' : List Int) (w : World) (h : IntsAt n₀ w v ks) (h' : IntsAt n₀ w v' ks') (hl : ks.length ≤ 1048576) (_hl' : ks'.length ≤ 1048576) (r : Bool) (hr : r = true ↔ ks = ks') :
    Calls Try.prog 100 #[v, v'] w fun e w' => e = .returned (.bool r) ∧ Below w.heap.size w w' := by
  obtain ⟨a, cap, rfl, hk⟩ := h
  obtain ⟨a', cap', rfl, hk'⟩ := h'
  have HR := hide hr
  clear hr
  by_cases hle : ks.length = ks'.length
  · have hle1 : ((ks.length : Int) != (ks'.length : Int)) = false := by simp [hle]
    have HL := hide hle
    clear hle
    go_enter Try.func100, Try.ntmps100
    go_wp2_with fail
    go_loopw [5] (fun i wr => ∃ k : Nat, k ≤ ks.length ∧ i = .int .i64 k ∧ Hid (∀ j, j < k → ks[j]?.getD 0 = ks'[j]?.getD 0) ∧ ∃ q, wr = w.drewN q) (fun i _ => ks.length - (intOf i).toNat)
    case atStart => exact ⟨0, Nat.zero_le _, rfl, fun j hj => absurd hj (by omega), 0, rfl⟩
    case round =>
      obtain ⟨k, hkl, rfl, hsame, q, rfl⟩ := hrel
      by_cases hlt : k < ks.length
      · have hlt' : k < ks'.length := by rw [← HL.out]; exact hlt
        obtain ⟨b, off, rfl, hb, hc⟩ := hk.resolve_left (by intro e; simp [e] at hlt)
        obtain ⟨b', off', rfl, hb', hc'⟩ := hk'.resolve_left (by intro e; simp [e] at hlt')
        have hck := hc k hlt
        have hck' := hc' k hlt'
        have hlt1 : (k : Int) < (ks.length : Int) := by omega
        have hlt1' : (k : Int) < (ks'.length : Int) := by omega
        clear hc hc' hk hk'
        obtain ⟨x, hx⟩ : ∃ x, x = ks[k]?.getD 0 := ⟨_, rfl⟩
        obtain ⟨y, hy⟩ : ∃ y, y = ks'[k]?.getD 0 := ⟨_, rfl⟩
        rw [← hx] at hck
        rw [← hy] at hck'
        have HX := hide hx
        have HY := hide hy
        clear hx hy
        by_cases hxy : x = y
        · subst hxy
          go_wp2_with fail
          go_quiet (fail)
          go_wp2_with fail
          refine ⟨⟨k + 1, by omega, by go_num, fun j hj => ?_, _, rfl⟩, by simp [intOf]; omega⟩
          rcases Nat.lt_succ_iff_lt_or_eq.1 hj with h | rfl
          · exact hsame.out j h
          · exact HX.out.symm.trans HY.out
        · have hf : Hid (r = false) := not_true HR.out (fun e => hxy (by rw [HX.out, HY.out, e]))
          have hne := (int_ne hxy).1
          have hne2 := (int_ne hxy).2
          clear hxy
          go_wp2_with fail
          go_quiet (fail)
          go_wp2_with fail
          go_ret
          exact ⟨ret_bool hf.out.symm, below_drewN (below_drewN (Below.refl _ _) _) _⟩
      · have ht : Hid (r = true) := HR.out.2 (list_getD_ext 0 HL.out fun j hj => hsame.out j (by omega))
        clear hk hk'
        go_wp2_with fail
        go_ret
        exact ⟨ret_bool ht.out.symm, below_drewN (Below.refl _ _) _⟩
  · have hf : Hid (r = false) := not_true HR.out (fun e => hle (by rw [e]))
    have hle1 : ((ks.length : Int) != (ks'.length : Int)) = true := by simp; omega
    clear hle hk hk'
    go_enter Try.func100, Try.ntmps100
    go_wp2_with fail
    go_ret
    exact ⟨ret_bool hf.out.symm, Below.refl _ _⟩

set_option maxHeartbeats 400000 in
theorem equalInts_any (n₀ : Nat) (v v' : Value) (ks ks' : List Int) (w : World) (h : IntsAt n₀ w v ks) (h' : IntsAt n₀ w v' ks') (hl : ks.length ≤ 1048576) (_hl' : ks'.length ≤ 1048576) (r : Bool) (hr : r = true ↔ ks = ks') :
    Calls Try.prog 101 #[v, v'] w fun e w' => e = .returned (.bool r) ∧ Below w.heap.size w w' := by
  obtain ⟨a, cap, rfl, hk⟩ := h
  obtain ⟨a', cap', rfl, hk'⟩ := h'
  have HR := hide hr
  clear hr
  by_cases hle : ks.length = ks'.length
  · have hle1 : ((ks.length : Int) != (ks'.length : Int)) = false := by simp [hle]
    have HL := hide hle
    clear hle
    go_enter Try.func101, Try.ntmps101
    go_wp2_with fail
    go_loopw [13] (fun i wr => ∃ k : Nat, k ≤ ks.length ∧ i = .int .i64 k ∧ Hid (∀ j, j < k → ks[j]?.getD 0 = ks'[j]?.getD 0) ∧ ∃ q, wr = w.drewN q) (fun i _ => ks.length - (intOf i).toNat)
    case atStart => exact ⟨0, Nat.zero_le _, rfl, fun j hj => absurd hj (by omega), 0, rfl⟩
    case round =>
      obtain ⟨k, hkl, rfl, hsame, q, rfl⟩ := hrel
      by_cases hlt : k < ks.length
      · have hlt' : k < ks'.length := by rw [← HL.out]; exact hlt
        obtain ⟨b, off, rfl, hb, hc⟩ := hk.resolve_left (by intro e; simp [e] at hlt)
        obtain ⟨b', off', rfl, hb', hc'⟩ := hk'.resolve_left (by intro e; simp [e] at hlt')
        have hck := hc k hlt
        have hck' := hc' k hlt'
        have hlt1 : (k : Int) < (ks.length : Int) := by omega
        have hlt1' : (k : Int) < (ks'.length : Int) := by omega
        clear hc hc' hk hk'
        obtain ⟨x, hx⟩ : ∃ x, x = ks[k]?.getD 0 := ⟨_, rfl⟩
        obtain ⟨y, hy⟩ : ∃ y, y = ks'[k]?.getD 0 := ⟨_, rfl⟩
        rw [← hx] at hck
        rw [← hy] at hck'
        have HX := hide hx
        have HY := hide hy
        clear hx hy
        by_cases hxy : x = y
        · subst hxy
          go_wp2_with fail
          go_quiet (fail)
          go_wp2_with fail
          refine ⟨⟨k + 1, by omega, by go_num, fun j hj => ?_, _, rfl⟩, by simp [intOf]; omega⟩
          rcases Nat.lt_succ_iff_lt_or_eq.1 hj with h | rfl
          · exact hsame.out j h
          · exact HX.out.symm.trans HY.out
        · have hf : Hid (r = false) := not_true HR.out (fun e => hxy (by rw [HX.out, HY.out, e]))
          have hne := (int_ne hxy).1
          have hne2 := (int_ne hxy).2
          clear hxy
          go_wp2_with fail
          go_quiet (fail)
          go_wp2_with fail
          go_ret
          exact ⟨ret_bool hf.out.symm, below_drewN (below_drewN (Below.refl _ _) _) _⟩
      · have ht : Hid (r = true) := HR.out.2 (list_getD_ext 0 HL.out fun j hj => hsame.out j (by omega))
        clear hk hk'
        go_wp2_with fail
        go_ret
        exact ⟨ret_bool ht.out.symm, below_drewN (Below.refl _ _) _⟩
  · have hf : Hid (r = false) := not_true HR.out (fun e => hle (by rw [e]))
    have hle1 : ((ks.length : Int) != (ks'.length : Int)) = true := by simp; omega
    clear hle hk hk'
    go_enter Try.func101, Try.ntmps101
    go_wp2_with fail
    go_ret
    exact ⟨ret_bool hf.out.symm, Below.refl _ _⟩

theorem node_eq_iff {x y : PNode} : x = y ↔ x.id = y.id ∧ x.kind = y.kind ∧ x.attr = y.attr ∧ x.text = y.text ∧ x.kids = y.kids := by
  cases x; cases y; simp

set_option maxHeartbeats 1000000 in
theorem specSameNode_any (n₀ : Nat) (v v' : Value) (x y : PNode) (w : World) (h : NodeVal n₀ w v x) (h' : NodeVal n₀ w v' y) (hn : n₀ ≤ w.heap.size) (hl : x.kids.length ≤ 1048576) (hl' : y.kids.length ≤ 1048576) (r : Bool) (hr : r = true ↔ x = y) :
    Calls Try.prog 90 #[v, v'] w fun e w' => e = .returned (.bool r) ∧ Below w.heap.size w w' := by
  obtain ⟨kv, rfl, hk⟩ := h
  obtain ⟨kv', rfl, hk'⟩ := h'
  obtain ⟨r1, hr1⟩ : ∃ r1 : Bool, r1 = true ↔ x.kids = y.kids := ⟨decide (x.kids = y.kids), by simp⟩
  have HE : Hid (∀ w1, Below w.heap.size w w1 → Calls Try.prog 100 #[kv, kv'] w1 fun e w' => e = .returned (.bool r1) ∧ Below w1.heap.size w1 w') := fun w1 hb =>
    specInts_any n₀ kv kv' x.kids y.kids w1 (hk.below (Nat.le_refl _) (hb.mono hn)) (hk'.below (Nat.le_refl _) (hb.mono hn)) hl hl' r1 hr1
  obtain ⟨a, cap, rfl, -⟩ := hk
  obtain ⟨a', cap', rfl, -⟩ := hk'
  have hW2 := ((Below.refl w.heap.size w).alloc (Nat.le_refl _) (.cells #[.int .i64 x.id, .int .i64 x.kind, .int .i64 x.attr, .string x.text, .slice a x.kids.length cap] 39)).alloc (by simp) (.cells #[.int .i64 y.id, .int .i64 y.kind, .int .i64 y.attr, .string y.text, .slice a' y.kids.length cap'] 39)
  rw [node_eq_iff, ← hr1] at hr
  have HR := hide hr
  clear hr hr1
  obtain ⟨xi, xk, xa, xt, xs⟩ := x
  obtain ⟨yi, yk, ya, yt, ys⟩ := y
  dsimp only at *
  by_cases h0 : xi = yi
  · subst h0
    by_cases h1 : xk = yk
    · subst h1
      by_cases h2 : xa = ya
      · subst h2
        by_cases h3 : xt = yt
        · subst h3
          have hs : (xt.toList == xt.toList) = true := by simp
          have he : Hid (r1 = r) := by
            have := HR.out
            simp only [true_and] at this
            exact Bool.eq_iff_iff.2 this.symm
          go_enter Try.func90, Try.ntmps90
          go_wp2_with (go_at_call 100; refine (HE.out _ hW2).mono ?_; rintro e w1 ⟨rfl, hb1⟩)
          go_ret
          exact ⟨ret_bool he.out, hW2.trans (hb1.mono (by simp; omega))⟩
        · have hf : Hid (r = false) := not_true HR.out (fun e => h3 e.2.2.2.1)
          have hs := text_ne h3
          clear h3
          go_enter Try.func90, Try.ntmps90
          go_wp2_with fail
          go_ret
          exact ⟨ret_bool hf.out.symm, hW2⟩
      · have hf : Hid (r = false) := not_true HR.out (fun e => h2 e.2.2.1)
        have hne := (int_ne h2).1
        clear h2
        go_enter Try.func90, Try.ntmps90
        go_wp2_with fail
        go_ret
        exact ⟨ret_bool hf.out.symm, hW2⟩
    · have hf : Hid (r = false) := not_true HR.out (fun e => h1 e.2.1)
      have hne := (int_ne h1).1
      clear h1
      go_enter Try.func90, Try.ntmps90
      go_wp2_with fail
      go_ret
      exact ⟨ret_bool hf.out.symm, hW2⟩
  · have hf : Hid (r = false) := not_true HR.out (fun e => h0 e.1)
    have hne := (int_ne h0).1
    clear h0
    go_enter Try.func90, Try.ntmps90
    go_wp2_with fail
    go_ret
    exact ⟨ret_bool hf.out.symm, hW2⟩

set_option maxHeartbeats 1000000 in
theorem sameNode_any (n₀ : Nat) (v v' : Value) (x y : PNode) (w : World) (h : NodeVal n₀ w v x) (h' : NodeVal n₀ w v' y) (hn : n₀ ≤ w.heap.size) (hl : x.kids.length ≤ 1048576) (hl' : y.kids.length ≤ 1048576) (r : Bool) (hr : r = true ↔ x = y) :
    Calls Try.prog 92 #[v, v'] w fun e w' => e = .returned (.bool r) ∧ Below w.heap.size w w' := by
  obtain ⟨kv, rfl, hk⟩ := h
  obtain ⟨kv', rfl, hk'⟩ := h'
  obtain ⟨r1, hr1⟩ : ∃ r1 : Bool, r1 = true ↔ x.kids = y.kids := ⟨decide (x.kids = y.kids), by simp⟩
  have HE : Hid (∀ w1, Below w.heap.size w w1 → Calls Try.prog 101 #[kv, kv'] w1 fun e w' => e = .returned (.bool r1) ∧ Below w1.heap.size w1 w') := fun w1 hb =>
    equalInts_any n₀ kv kv' x.kids y.kids w1 (hk.below (Nat.le_refl _) (hb.mono hn)) (hk'.below (Nat.le_refl _) (hb.mono hn)) hl hl' r1 hr1
  obtain ⟨a, cap, rfl, -⟩ := hk
  obtain ⟨a', cap', rfl, -⟩ := hk'
  have hW2 := ((Below.refl w.heap.size w).alloc (Nat.le_refl _) (.cells #[.int .i64 x.id, .int .i64 x.kind, .int .i64 x.attr, .string x.text, .slice a x.kids.length cap] 39)).alloc (by simp) (.cells #[.int .i64 y.id, .int .i64 y.kind, .int .i64 y.attr, .string y.text, .slice a' y.kids.length cap'] 39)
  rw [node_eq_iff, ← hr1] at hr
  have HR := hide hr
  clear hr hr1
  obtain ⟨xi, xk, xa, xt, xs⟩ := x
  obtain ⟨yi, yk, ya, yt, ys⟩ := y
  dsimp only at *
  by_cases h0 : xi = yi
  · subst h0
    by_cases h1 : xk = yk
    · subst h1
      by_cases h2 : xa = ya
      · subst h2
        by_cases h3 : xt = yt
        · subst h3
          have hs : (xt.toList == xt.toList) = true := by simp
          have he : Hid (r1 = r) := by
            have := HR.out
            simp only [true_and] at this
            exact Bool.eq_iff_iff.2 this.symm
          go_enter Try.func92, Try.ntmps92
          go_wp2_with (go_at_call 101; refine (HE.out _ hW2).mono ?_; rintro e w1 ⟨rfl, hb1⟩)
          go_ret
          exact ⟨ret_bool he.out, hW2.trans (hb1.mono (by simp; omega))⟩
        · have hf : Hid (r = false) := not_true HR.out (fun e => h3 e.2.2.2.1)
          have hs := text_ne h3
          clear h3
          go_enter Try.func92, Try.ntmps92
          go_wp2_with fail
          go_ret
          exact ⟨ret_bool hf.out.symm, hW2⟩
      · have hf : Hid (r = false) := not_true HR.out (fun e => h2 e.2.2.1)
        have hne := (int_ne h2).1
        clear h2
        go_enter Try.func92, Try.ntmps92
        go_wp2_with fail
        go_ret
        exact ⟨ret_bool hf.out.symm, hW2⟩
    · have hf : Hid (r = false) := not_true HR.out (fun e => h1 e.2.1)
      have hne := (int_ne h1).1
      clear h1
      go_enter Try.func92, Try.ntmps92
      go_wp2_with fail
      go_ret
      exact ⟨ret_bool hf.out.symm, hW2⟩
  · have hf : Hid (r = false) := not_true HR.out (fun e => h0 e.1)
    have hne := (int_ne h0).1
    clear h0
    go_enter Try.func92, Try.ntmps92
    go_wp2_with fail
    go_ret
    exact ⟨ret_bool hf.out.symm, hW2⟩

end Go.Proofs.Ytigkjljknmojhaa
