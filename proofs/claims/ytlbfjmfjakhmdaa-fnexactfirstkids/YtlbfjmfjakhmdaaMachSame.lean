/-
  Whether two machines are the same: what the program and the specification answer.
-/
import Derived.Test.YtlbfjmfjakhmdaaEqInts
import Derived.Test.YtlbfjmfjakhmdaaMachSpec
namespace Go.Proofs.Ytlbfjmfjakhmdaa
open Go.RowKit

theorem bool_ne {a b : Bool} (h : a ≠ b) : (a == b) = false ∧ (a != b) = true := by cases a <;> cases b <;> simp_all

set_option maxHeartbeats 400000 in
theorem equalBools_any (n₀ : Nat) (v v' : Value) (ks ks' : List Bool) (w : World) (h : BoolsAt n₀ w v ks) (h' : BoolsAt n₀ w v' ks') (hl : ks.length ≤ 1048576) (_hl' : ks'.length ≤ 1048576) (r : Bool) (hr : r = true ↔ ks = ks') :
    Calls Try.prog 42 #[v, v'] w fun e w' => e = .returned (.bool r) ∧ Below w.heap.size w w' := by
  obtain ⟨a, cap, rfl, hk⟩ := h
  obtain ⟨a', cap', rfl, hk'⟩ := h'
  have HR := hide hr
  clear hr
  by_cases hle : ks.length = ks'.length
  · have hle1 : ((ks.length : Int) != (ks'.length : Int)) = false := by simp [hle]
    have HL := hide hle
    clear hle
    go_enter Try.func42, Try.ntmps42
    go_wp2_with fail
    go_loopw [13] (fun i wr => ∃ k : Nat, k ≤ ks.length ∧ i = .int .i64 k ∧ Hid (∀ j, j < k → ks[j]?.getD false = ks'[j]?.getD false) ∧ ∃ q, wr = w.drewN q) (fun i _ => ks.length - (intOf i).toNat)
    case atStart => exact ⟨0, Nat.zero_le _, rfl, fun j hj => absurd hj (by omega), 0, rfl⟩
    case round =>
      obtain ⟨k, hkl, rfl, hsame, q, rfl⟩ := hrel
      by_cases hlt : k < ks.length
      · have hlt' : k < ks'.length := by rw [← HL.out]; exact hlt
        obtain ⟨b, off, rfl, hb, hc⟩ := hk.resolve_left (by intro e; simp [e] at hlt)
        obtain ⟨b', off', rfl, hb', hc'⟩ := hk'.resolve_left (by intro e; simp [e] at hlt')
        have hck := hc k hlt
        have hck' := hc' k hlt'
        have hlt1 : (k : Int) < (ks.length : Int) := by omega
        have hlt1' : (k : Int) < (ks'.length : Int) := by omega
        clear hc hc' hk hk'
        obtain ⟨x, hx⟩ : ∃ x, x = ks[k]?.getD false := ⟨_, rfl⟩
        obtain ⟨y, hy⟩ : ∃ y, y = ks'[k]?.getD false := ⟨_, rfl⟩
        rw [← hx] at hck
        rw [← hy] at hck'
        have HX := hide hx
        have HY := hide hy
        clear hx hy
        by_cases hxy : x = y
        · subst hxy
          have hsa : (x == x) = true := by simp
          have hsb : (x != x) = false := by simp
          go_wp2_with fail
          go_quiet (fail)
          go_wp2_with fail
          refine ⟨⟨k + 1, by omega, by go_num, fun j hj => ?_, _, rfl⟩, by simp [intOf]; omega⟩
          rcases Nat.lt_succ_iff_lt_or_eq.1 hj with h | rfl
          · exact hsame.out j h
          · exact HX.out.symm.trans HY.out
        · have hf : Hid (r = false) := no_true HR.out (fun e => hxy (by rw [HX.out, HY.out, e]))
          have hne := (bool_ne hxy).1
          have hne2 := (bool_ne hxy).2
          clear hxy
          go_wp2_with fail
          go_quiet (fail)
          go_wp2_with fail
          go_ret
          exact ⟨ret_bool hf.out.symm, below_drewN (below_drewN (Below.refl _ _) _) _⟩
      · have ht : Hid (r = true) := HR.out.2 (list_getD_ext false HL.out fun j hj => hsame.out j (by omega))
        clear hk hk'
        go_wp2_with fail
        go_ret
        exact ⟨ret_bool ht.out.symm, below_drewN (Below.refl _ _) _⟩
  · have hf : Hid (r = false) := no_true HR.out (fun e => hle (by rw [e]))
    have hle1 : ((ks.length : Int) != (ks'.length : Int)) = true := by simp; omega
    clear hle hk hk'
    go_enter Try.func42, Try.ntmps42
    go_wp2_with fail
    go_ret
    exact ⟨ret_bool hf.out.symm, Below.refl _ _⟩

set_option maxHeartbeats 400000 in
theorem specSameBools_any (n₀ : Nat) (v v' : Value) (ks ks' : List Bool) (w : World) (h : BoolsAt n₀ w v ks) (h' : BoolsAt n₀ w v' ks') (hl : ks.length ≤ 1048576) (_hl' : ks'.length ≤ 1048576) (r : Bool) (hr : r = true ↔ ks = ks') :
    Calls Try.prog 47 #[v, v'] w fun e w' => e = .returned (.bool r) ∧ Below w.heap.size w w' := by
  obtain ⟨a, cap, rfl, hk⟩ := h
  obtain ⟨a', cap', rfl, hk'⟩ := h'
  have HR := hide hr
  clear hr
  by_cases hle : ks.length = ks'.length
  · have hle1 : ((ks.length : Int) != (ks'.length : Int)) = false := by simp [hle]
    have HL := hide hle
    clear hle
    go_enter Try.func47, Try.ntmps47
    go_wp2_with fail
    go_loopw [5] (fun i wr => ∃ k : Nat, k ≤ ks.length ∧ i = .int .i64 k ∧ Hid (∀ j, j < k → ks[j]?.getD false = ks'[j]?.getD false) ∧ ∃ q, wr = w.drewN q) (fun i _ => ks.length - (intOf i).toNat)
    case atStart => exact ⟨0, Nat.zero_le _, rfl, fun j hj => absurd hj (by omega), 0, rfl⟩
    case round =>
      obtain ⟨k, hkl, rfl, hsame, q, rfl⟩ := hrel
      by_cases hlt : k < ks.length
      · have hlt' : k < ks'.length := by rw [← HL.out]; exact hlt
        obtain ⟨b, off, rfl, hb, hc⟩ := hk.resolve_left (by intro e; simp [e] at hlt)
        obtain ⟨b', off', rfl, hb', hc'⟩ := hk'.resolve_left (by intro e; simp [e] at hlt')
        have hck := hc k hlt
        have hck' := hc' k hlt'
        have hlt1 : (k : Int) < (ks.length : Int) := by omega
        have hlt1' : (k : Int) < (ks'.length : Int) := by omega
        clear hc hc' hk hk'
        obtain ⟨x, hx⟩ : ∃ x, x = ks[k]?.getD false := ⟨_, rfl⟩
        obtain ⟨y, hy⟩ : ∃ y, y = ks'[k]?.getD false := ⟨_, rfl⟩
        rw [← hx] at hck
        rw [← hy] at hck'
        have HX := hide hx
        have HY := hide hy
        clear hx hy
        by_cases hxy : x = y
        · subst hxy
          have hsa : (x == x) = true := by simp
          have hsb : (x != x) = false := by simp
          go_wp2_with fail
          go_quiet (fail)
          go_wp2_with fail
          refine ⟨⟨k + 1, by omega, by go_num, fun j hj => ?_, _, rfl⟩, by simp [intOf]; omega⟩
          rcases Nat.lt_succ_iff_lt_or_eq.1 hj with h | rfl
          · exact hsame.out j h
          · exact HX.out.symm.trans HY.out
        · have hf : Hid (r = false) := no_true HR.out (fun e => hxy (by rw [HX.out, HY.out, e]))
          have hne := (bool_ne hxy).1
          have hne2 := (bool_ne hxy).2
          clear hxy
          go_wp2_with fail
          go_quiet (fail)
          go_wp2_with fail
          go_ret
          exact ⟨ret_bool hf.out.symm, below_drewN (below_drewN (Below.refl _ _) _) _⟩
      · have ht : Hid (r = true) := HR.out.2 (list_getD_ext false HL.out fun j hj => hsame.out j (by omega))
        clear hk hk'
        go_wp2_with fail
        go_ret
        exact ⟨ret_bool ht.out.symm, below_drewN (Below.refl _ _) _⟩
  · have hf : Hid (r = false) := no_true HR.out (fun e => hle (by rw [e]))
    have hle1 : ((ks.length : Int) != (ks'.length : Int)) = true := by simp; omega
    clear hle hk hk'
    go_enter Try.func47, Try.ntmps47
    go_wp2_with fail
    go_ret
    exact ⟨ret_bool hf.out.symm, Below.refl _ _⟩

set_option maxHeartbeats 400000 in
theorem specSameInts_any (n₀ : Nat) (v v' : Value) (ks ks' : List Int) (w : World) (h : IntsAt n₀ w v ks) (h' : IntsAt n₀ w v' ks') (hl : ks.length ≤ 1048576) (_hl' : ks'.length ≤ 1048576) (r : Bool) (hr : r = true ↔ ks = ks') :
    Calls Try.prog 48 #[v, v'] w fun e w' => e = .returned (.bool r) ∧ Below w.heap.size w w' := by
  obtain ⟨a, cap, rfl, hk⟩ := h
  obtain ⟨a', cap', rfl, hk'⟩ := h'
  have HR := hide hr
  clear hr
  by_cases hle : ks.length = ks'.length
  · have hle1 : ((ks.length : Int) != (ks'.length : Int)) = false := by simp [hle]
    have HL := hide hle
    clear hle
    go_enter Try.func48, Try.ntmps48
    go_wp2_with fail
    go_loopw [5] (fun i wr => ∃ k : Nat, k ≤ ks.length ∧ i = .int .i64 k ∧ Hid (∀ j, j < k → ks[j]?.getD 0 = ks'[j]?.getD 0) ∧ ∃ q, wr = w.drewN q) (fun i _ => ks.length - (intOf i).toNat)
    case atStart => exact ⟨0, Nat.zero_le _, rfl, fun j hj => absurd hj (by omega), 0, rfl⟩
    case round =>
      obtain ⟨k, hkl, rfl, hsame, q, rfl⟩ := hrel
      by_cases hlt : k < ks.length
      · have hlt' : k < ks'.length := by rw [← HL.out]; exact hlt
        obtain ⟨b, off, rfl, hb, hc⟩ := hk.resolve_left (by intro e; simp [e] at hlt)
        obtain ⟨b', off', rfl, hb', hc'⟩ := hk'.resolve_left (by intro e; simp [e] at hlt')
        have hck := hc k hlt
        have hck' := hc' k hlt'
        have hlt1 : (k : Int) < (ks.length : Int) := by omega
        have hlt1' : (k : Int) < (ks'.length : Int) := by omega
        clear hc hc' hk hk'
        obtain ⟨x, hx⟩ : ∃ x, x = ks[k]?.getD 0 := ⟨_, rfl⟩
        obtain ⟨y, hy⟩ : ∃ y, y = ks'[k]?.getD 0 := ⟨_, rfl⟩
        rw [← hx] at hck
        rw [← hy] at hck'
        have HX := hide hx
        have HY := hide hy
        clear hx hy
        by_cases hxy : x = y
        · subst hxy
          go_wp2_with fail
          go_quiet (fail)
          go_wp2_with fail
          refine ⟨⟨k + 1, by omega, by go_num, fun j hj => ?_, _, rfl⟩, by simp [intOf]; omega⟩
          rcases Nat.lt_succ_iff_lt_or_eq.1 hj with h | rfl
          · exact hsame.out j h
          · exact HX.out.symm.trans HY.out
        · have hf : Hid (r = false) := no_true HR.out (fun e => hxy (by rw [HX.out, HY.out, e]))
          have hne := (int_ne hxy).1
          have hne2 := (int_ne hxy).2
          clear hxy
          go_wp2_with fail
          go_quiet (fail)
          go_wp2_with fail
          go_ret
          exact ⟨ret_bool hf.out.symm, below_drewN (below_drewN (Below.refl _ _) _) _⟩
      · have ht : Hid (r = true) := HR.out.2 (list_getD_ext 0 HL.out fun j hj => hsame.out j (by omega))
        clear hk hk'
        go_wp2_with fail
        go_ret
        exact ⟨ret_bool ht.out.symm, below_drewN (Below.refl _ _) _⟩
  · have hf : Hid (r = false) := no_true HR.out (fun e => hle (by rw [e]))
    have hle1 : ((ks.length : Int) != (ks'.length : Int)) = true := by simp; omega
    clear hle hk hk'
    go_enter Try.func48, Try.ntmps48
    go_wp2_with fail
    go_ret
    exact ⟨ret_bool hf.out.symm, Below.refl _ _⟩

set_option maxHeartbeats 1000000 in
set_option maxRecDepth 100000 in
theorem equalRows_any (n₀ : Nat) (v v' : Value) (l l' : List (List Int)) (w : World) (h : RowsAt n₀ w v l) (h' : RowsAt n₀ w v' l') (hn : n₀ ≤ w.heap.size) (hs : l.length ≤ 1048576) (hkl : ∀ x ∈ l, x.length ≤ 1048576) (hkl' : ∀ x ∈ l', x.length ≤ 1048576) (r : Bool) (hr : r = true ↔ l = l') :
    Calls Try.prog 40 #[v, v', .func (.func 41) #[] #[]] w fun e w' => e = .returned (.bool r) ∧ Below w.heap.size w w' := by
  obtain ⟨a, cap, rfl, hk⟩ := h
  obtain ⟨a', cap', rfl, hk'⟩ := h'
  have HKL := hide hkl
  have HKL' := hide hkl'
  have HR := hide hr
  clear hkl hkl' hr
  by_cases hle : l.length = l'.length
  · have hle1 : ((l.length : Int) != (l'.length : Int)) = false := by simp [hle]
    have HL := hide hle
    clear hle
    go_enter Try.func40, Try.ntmps40
    go_wp2_with fail
    go_loopw [7, 8, 9, 17] (fun _ _ _ i wr => ∃ k : Nat, k ≤ l.length ∧ i = .int .i64 k ∧ Hid (∀ j, j < k → l[j]?.getD [] = l'[j]?.getD []) ∧ Below w.heap.size w wr) (fun _ _ _ i _ => l.length - (intOf i).toNat)
    case atStart => exact ⟨0, Nat.zero_le _, rfl, fun j hj => absurd hj (by omega), Below.refl _ _⟩
    case round =>
      obtain ⟨k, hkl, rfl, hsame, hbr⟩ := hrel
      have hsz := hbr.size
      by_cases hlt : k < l.length
      · have hlt' : k < l'.length := by rw [← HL.out]; exact hlt
        obtain ⟨b, off, rfl, hb, hc⟩ := hk.resolve_left (by intro e; simp [e] at hlt)
        obtain ⟨b', off', rfl, hb', hc'⟩ := hk'.resolve_left (by intro e; simp [e] at hlt')
        obtain ⟨kv, g0, hi⟩ := hc k hlt
        obtain ⟨kv', f0, hi'⟩ := hc' k hlt'
        have g0 := (hbr.cell (p := ⟨b, off + k, none⟩) (show b < w.heap.size by omega)).trans g0
        have f0 := (hbr.cell (p := ⟨b', off' + k, none⟩) (show b' < w.heap.size by omega)).trans f0
        have hi := hi.below (Nat.le_refl _) (hbr.mono hn)
        have hi' := hi'.below (Nat.le_refl _) (hbr.mono hn)
        have hlx := HKL.out (l[k]?.getD []) (by simp [hlt])
        have hly := HKL'.out (l'[k]?.getD []) (by simp [hlt'])
        have hlt1 : (k : Int) < (l.length : Int) := by omega
        have hlt1' : (k : Int) < (l'.length : Int) := by omega
        have hbw : b < wr.heap.size := by omega
        have hbw' : b' < wr.heap.size := by omega
        obtain ⟨x, hx⟩ : ∃ x, x = l[k]?.getD [] := ⟨_, rfl⟩
        obtain ⟨y, hy⟩ : ∃ y, y = l'[k]?.getD [] := ⟨_, rfl⟩
        rw [← hx] at hi hlx
        rw [← hy] at hi' hly
        have HX := hide hx
        have HY := hide hy
        clear hx hy hc hc' hk hk'
        obtain ⟨r1, hr1⟩ : ∃ r1 : Bool, r1 = true ↔ x = y := by classical exact ⟨decide (x = y), by simp⟩
        have HE : Hid (Calls Try.prog 41 #[kv, kv'] wr fun e w' => e = .returned (.bool r1) ∧ Below wr.heap.size wr w') :=
          equalInts_any n₀ _ _ x y wr hi hi' hlx hly r1 hr1
        have HR1 := hide hr1
        obtain ⟨ak, ck, rfl, -⟩ := hi
        obtain ⟨ak', ck', rfl, -⟩ := hi'
        clear hr1 hlx hly
        cases r1 with
        | true =>
          go_wp2_with (go_at_call 41; refine HE.out.mono ?_; rintro e w1 ⟨rfl, hb1⟩)
          refine ⟨⟨k + 1, by omega, by go_num, fun j hj => ?_, hbr.trans (hb1.mono hsz)⟩, by simp [intOf]; omega⟩
          rcases Nat.lt_succ_iff_lt_or_eq.1 hj with h | rfl
          · exact hsame.out j h
          · exact HX.out.symm.trans ((HR1.out.1 (by trivial)).trans HY.out)
        | false =>
          have hf : Hid (r = false) := no_true HR.out (fun e => by have := HR1.out.2 (by rw [HX.out, HY.out, e]); cases this)
          go_wp2_with (go_at_call 41; refine HE.out.mono ?_; rintro e w1 ⟨rfl, hb1⟩)
          go_ret
          exact ⟨ret_bool hf.out.symm, hbr.trans (hb1.mono hsz)⟩
      · have ht : Hid (r = true) := HR.out.2 (list_getD_ext [] HL.out fun j hj => hsame.out j (by omega))
        clear hk hk'
        go_wp2_with fail
        go_ret
        exact ⟨ret_bool ht.out.symm, hbr⟩
  · have hf : Hid (r = false) := no_true HR.out (fun e => hle (by rw [e]))
    have hle1 : ((l.length : Int) != (l'.length : Int)) = true := by simp; omega
    clear hle hk hk'
    go_enter Try.func40, Try.ntmps40
    go_wp2_with fail
    go_ret
    exact ⟨ret_bool hf.out.symm, Below.refl _ _⟩

theorem mach_eq_iff {x y : PMach} : x = y ↔ x.next = y.next ∧ x.final = y.final := by
  cases x; cases y; simp

set_option maxHeartbeats 1000000 in
set_option maxRecDepth 100000 in
theorem specSameMach_any (n₀ : Nat) (v v' : Value) (x y : PMach) (w : World) (h : MachVal n₀ w v x) (h' : MachVal n₀ w v' y) (hn : n₀ ≤ w.heap.size) (hl : SmallMach x) (hl' : SmallMach y) (r : Bool) (hr : r = true ↔ x = y) :
    Calls Try.prog 39 #[v, v'] w fun e w' => e = .returned (.bool r) ∧ Below w.heap.size w w' := by
  obtain ⟨a, cap, af, capf, rfl, -, hk, hf⟩ := h.form
  obtain ⟨a', cap', af', capf', rfl, -, hk', hf'⟩ := h'.form
  have hW := ((Below.refl w.heap.size w).alloc (Nat.le_refl _) (.cells #[.slice a x.next.length cap, .slice af x.final.length capf] 28)).alloc (by simp) (.cells #[.slice a' y.next.length cap', .slice af' y.final.length capf'] 28)
  obtain ⟨rf, hrf⟩ : ∃ rf : Bool, rf = true ↔ x.final = y.final := by classical exact ⟨decide (x.final = y.final), by simp⟩
  have HF := hide (specSameBools_any n₀ _ _ x.final y.final _ (hf.below (Nat.le_refl _) (hW.mono hn)) (hf'.below (Nat.le_refl _) (hW.mono hn)) hl.final hl'.final rf hrf)
  rw [mach_eq_iff, ← hrf] at hr
  have HR := hide hr
  have hl1 := hl.next
  have HKL := hide hl.rows
  have HKL' := hide hl'.rows
  clear hr hrf hf hf' h h' hl hl'
  by_cases hle : x.next.length = y.next.length
  · have hle1 : ((x.next.length : Int) != (y.next.length : Int)) = false := by simp [hle]
    have HL := hide hle
    clear hle
    cases rf with
    | false =>
      have hf : Hid (r = false) := no_true HR.out fun e => by cases e.2
      clear hk hk'
      go_enter Try.func39, Try.ntmps39
      go_wp2_with (go_at_call 47; refine HF.out.mono ?_; rintro e w1 ⟨rfl, hb1⟩)
      go_ret
      exact ⟨ret_bool hf.out.symm, hW.trans (hb1.mono (by simp; omega))⟩
    | true =>
      obtain ⟨a1, cap1, he, hk⟩ := hk
      cases he
      obtain ⟨a1', cap1', he, hk'⟩ := hk'
      cases he
      go_enter Try.func39, Try.ntmps39
      go_wp2_with (go_at_call 47; refine HF.out.mono ?_; rintro e w1 ⟨rfl, hb1⟩)
      simp only [World.size_alloc] at hb1
      go_loopw [5] (fun i wr => ∃ k : Nat, k ≤ x.next.length ∧ i = .int .i64 k ∧ Hid (∀ j, j < k → x.next[j]?.getD [] = y.next[j]?.getD []) ∧ Below (w.heap.size + 1 + 1) ((w.alloc (.cells #[.slice a x.next.length cap, .slice af x.final.length capf] 28)).alloc (.cells #[.slice a' y.next.length cap', .slice af' y.final.length capf'] 28)) wr) (fun i _ => x.next.length - (intOf i).toNat)
      case atStart => exact ⟨0, Nat.zero_le _, rfl, fun j hj => absurd hj (by omega), hb1⟩
      case round =>
        obtain ⟨k, hkl, rfl, hsame, hbr⟩ := hrel
        clear hb1
        have hsz := hbr.size
        simp only [World.size_alloc] at hsz
        have hw0 : Below w.heap.size w wr := hW.trans (hbr.mono (by omega))
        have c0 : wr.cell? ⟨w.heap.size, 0, none⟩ = some (.slice a x.next.length cap) := by rw [hbr.cell (p := ⟨w.heap.size, 0, none⟩) (by simp; omega)]; simp
        have d0 : wr.cell? ⟨w.heap.size + 1, 0, none⟩ = some (.slice a' y.next.length cap') := by rw [hbr.cell (p := ⟨w.heap.size + 1, 0, none⟩) (by simp)]; simp
        have z0 : w.heap.size < wr.heap.size := by omega
        have z1 : w.heap.size + 1 < wr.heap.size := by omega
        by_cases hlt : k < x.next.length
        · have hlt' : k < y.next.length := by rw [← HL.out]; exact hlt
          obtain ⟨b, off, rfl, hb, hc⟩ := hk.resolve_left (by intro e; simp [e] at hlt)
          obtain ⟨b', off', rfl, hb', hc'⟩ := hk'.resolve_left (by intro e; simp [e] at hlt')
          obtain ⟨kv, g0, hi⟩ := hc k hlt
          obtain ⟨kv', f0, hi'⟩ := hc' k hlt'
          have g0 := (hw0.cell (p := ⟨b, off + k, none⟩) (show b < w.heap.size by omega)).trans g0
          have f0 := (hw0.cell (p := ⟨b', off' + k, none⟩) (show b' < w.heap.size by omega)).trans f0
          have hlx := HKL.out (x.next[k]?.getD []) (by simp [hlt])
          have hly := HKL'.out (y.next[k]?.getD []) (by simp [hlt'])
          have hlt1 : (k : Int) < (x.next.length : Int) := by omega
          have hlt1' : (k : Int) < (y.next.length : Int) := by omega
          have hbw : b < wr.heap.size := by omega
          have hbw' : b' < wr.heap.size := by omega
          have hcal := calm_cell wr
          obtain ⟨p, hp⟩ : ∃ p, p = x.next[k]?.getD [] := ⟨_, rfl⟩
          obtain ⟨q, hq⟩ : ∃ q, q = y.next[k]?.getD [] := ⟨_, rfl⟩
          rw [← hp] at hi hlx
          rw [← hq] at hi' hly
          obtain ⟨r1, hr1⟩ : ∃ r1 : Bool, r1 = true ↔ p = q := by classical exact ⟨decide (p = q), by simp⟩
          have HE : Hid (∀ t : Calm wr, Calls Try.prog 48 #[kv, kv'] t.out fun e w' => e = .returned (.bool r1) ∧ Below t.out.heap.size t.out w') := fun t =>
            specSameInts_any n₀ _ _ p q t.out (hi.below (Nat.le_refl _) ((hw0.mono hn).trans (t.below.mono (by omega)))) (hi'.below (Nat.le_refl _) ((hw0.mono hn).trans (t.below.mono (by omega)))) hlx hly r1 hr1
          have HR1 := hide hr1
          have HX := hide hp
          have HY := hide hq
          obtain ⟨ak, ck, rfl, -⟩ := hi
          obtain ⟨ak', ck', rfl, -⟩ := hi'
          clear hr1 hlx hly hp hq hc hc' hk hk'
          cases r1 with
          | true =>
            go_wp2_with fail
            refine wp_region_calm (by kernel_rfl) (by kernel_rfl) ?_
            repeat (go_big_quiet_step ((go_at_call 48; exact calm_of (HE.out _))))
            refine wpQuiet_nil ?_
            rintro _ ⟨t, rfl⟩
            have ht := t.below
            go_wp2_with fail
            refine ⟨⟨k + 1, by omega, by go_num, fun j hj => ?_, hbr.trans (ht.mono (by omega))⟩, by simp [intOf]; omega⟩
            rcases Nat.lt_succ_iff_lt_or_eq.1 hj with h | rfl
            · exact hsame.out j h
            · exact HX.out.symm.trans ((HR1.out.1 (by trivial)).trans HY.out)
          | false =>
            have hf : Hid (r = false) := no_true HR.out (fun e => by have := HR1.out.2 (by rw [HX.out, HY.out, e.1]); cases this)
            go_wp2_with fail
            refine wp_region_calm (by kernel_rfl) (by kernel_rfl) ?_
            repeat (go_big_quiet_step ((go_at_call 48; exact calm_of (HE.out _))))
            refine wpQuiet_nil ?_
            rintro _ ⟨t, rfl⟩
            have ht := t.below
            go_wp2_with fail
            go_ret
            exact ⟨ret_bool hf.out.symm, hw0.trans (ht.mono (by omega))⟩
        · have ht : Hid (r = true) := HR.out.2 ⟨list_getD_ext [] HL.out fun j hj => hsame.out j (by omega), by trivial⟩
          clear hk hk'
          go_wp2_with fail
          go_ret
          exact ⟨ret_bool ht.out.symm, hw0⟩
  · have hf : Hid (r = false) := no_true HR.out (fun e => hle (by rw [e.1]))
    have hle1 : ((x.next.length : Int) != (y.next.length : Int)) = true := by simp; omega
    clear hle hk hk' HF
    go_enter Try.func39, Try.ntmps39
    go_wp2_with fail
    go_ret
    exact ⟨ret_bool hf.out.symm, hW⟩
end Go.Proofs.Ytlbfjmfjakhmdaa
