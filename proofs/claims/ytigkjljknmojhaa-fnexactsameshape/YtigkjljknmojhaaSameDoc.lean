/-
  Whether two lists of nodes are the same: the specification's answer and the program's.
-/
import Derived.Test.YtigkjljknmojhaaSameNode
import Derived.Test.YtigkjljknmojhaaImplTree
namespace Go.Proofs.Ytigkjljknmojhaa
open Go.RowKit

theorem doc_eq_iff {x y : PDoc} : x = y ↔ x.root = y.root ∧ x.next = y.next ∧ x.nodes = y.nodes := by
  cases x; cases y; simp

theorem cell_two (w : World) (o : Obj) (cs : Array Value) (t : TypeId) (j : Nat) : ((w.alloc o).alloc (.cells cs t)).cell? ⟨w.heap.size + 1, j, none⟩ = cs[j]? := by
  have := cell_of_heap (alloc_new (w.alloc o) (.cells cs t)) j
  rwa [World.size_alloc] at this

set_option maxHeartbeats 1000000 in
set_option maxRecDepth 100000 in
theorem equalNodes_any (n₀ : Nat) (v v' : Value) (l l' : List PNode) (w : World) (h : NodesAt n₀ w v l) (h' : NodesAt n₀ w v' l') (hn : n₀ ≤ w.heap.size) (hl : l.length ≤ 1048576) (_hl' : l'.length ≤ 1048576) (hkl : ∀ x ∈ l, x.kids.length ≤ 1048576) (hkl' : ∀ x ∈ l', x.kids.length ≤ 1048576) (r : Bool) (hr : r = true ↔ l = l') :
    Calls Try.prog 91 #[v, v', .func (.func 92) #[] #[]] w fun e w' => e = .returned (.bool r) ∧ Below w.heap.size w w' := by
  obtain ⟨a, cap, rfl, hk⟩ := h
  obtain ⟨a', cap', rfl, hk'⟩ := h'
  have HKL := hide hkl
  have HKL' := hide hkl'
  have HR := hide hr
  clear hkl hkl' hr
  by_cases hle : l.length = l'.length
  · have hle1 : ((l.length : Int) != (l'.length : Int)) = false := by simp [hle]
    have HL := hide hle
    clear hle
    go_enter Try.func91, Try.ntmps91
    go_wp2_with fail
    go_loopw [17] (fun i wr => ∃ k : Nat, k ≤ l.length ∧ i = .int .i64 k ∧ Hid (∀ j, j < k → l[j]?.getD nodeNil = l'[j]?.getD nodeNil) ∧ Below w.heap.size w wr) (fun i _ => l.length - (intOf i).toNat)
    case atStart => exact ⟨0, Nat.zero_le _, rfl, fun j hj => absurd hj (by omega), Below.refl _ _⟩
    case round =>
      obtain ⟨k, hkl, rfl, hsame, hbr⟩ := hrel
      have hsz := hbr.size
      by_cases hlt : k < l.length
      · have hlt' : k < l'.length := by rw [← HL.out]; exact hlt
        obtain ⟨b, off, rfl, hb, hc⟩ := hk.resolve_left (by intro e; simp [e] at hlt)
        obtain ⟨b', off', rfl, hb', hc'⟩ := hk'.resolve_left (by intro e; simp [e] at hlt')
        have hA := (hc k hlt).below hb (Nat.le_refl _) (hbr.mono hn)
        have hA' := (hc' k hlt').below hb' (Nat.le_refl _) (hbr.mono hn)
        have hlx := HKL.out (l[k]?.getD nodeNil) (by simp [hlt])
        have hly := HKL'.out (l'[k]?.getD nodeNil) (by simp [hlt'])
        have hlt1 : (k : Int) < (l.length : Int) := by omega
        have hlt1' : (k : Int) < (l'.length : Int) := by omega
        have hbw : b < wr.heap.size := by omega
        have hbw' : b' < wr.heap.size := by omega
        obtain ⟨x, hx⟩ : ∃ x, x = l[k]?.getD nodeNil := ⟨_, rfl⟩
        obtain ⟨y, hy⟩ : ∃ y, y = l'[k]?.getD nodeNil := ⟨_, rfl⟩
        rw [← hx] at hA hlx
        rw [← hy] at hA' hly
        have HX := hide hx
        have HY := hide hy
        clear hx hy hc hc' hk hk'
        have g0 := hA.c0
        have g1 := hA.c1
        have g2 := hA.c2
        have g3 := hA.c3
        have f0 := hA'.c0
        have f1 := hA'.c1
        have f2 := hA'.c2
        have f3 := hA'.c3
        obtain ⟨kv, g4, hi⟩ := hA.c4
        obtain ⟨kv', f4, hi'⟩ := hA'.c4
        obtain ⟨r1, hr1⟩ : ∃ r1 : Bool, r1 = true ↔ x = y := by classical exact ⟨decide (x = y), by simp⟩
        have HE : Hid (∀ w1, Below wr.heap.size wr w1 → Calls Try.prog 92 #[.agg #[.int .i64 x.id, .int .i64 x.kind, .int .i64 x.attr, .string x.text, kv], .agg #[.int .i64 y.id, .int .i64 y.kind, .int .i64 y.attr, .string y.text, kv']] w1 fun e w' => e = .returned (.bool r1) ∧ Below w1.heap.size w1 w') := fun w1 hb1 =>
          sameNode_any n₀ _ _ x y w1 ⟨kv, rfl, hi.below (Nat.le_refl _) (hb1.mono (by omega))⟩ ⟨kv', rfl, hi'.below (Nat.le_refl _) (hb1.mono (by omega))⟩ (by have := hb1.size; omega) hlx hly r1 hr1
        have HR1 := hide hr1
        obtain ⟨ak, ck, rfl, -⟩ := hi
        obtain ⟨ak', ck', rfl, -⟩ := hi'
        clear hA hA' hr1
        have hW2 := ((Below.refl wr.heap.size wr).alloc (Nat.le_refl _) (.cells #[.int .i64 x.id, .int .i64 x.kind, .int .i64 x.attr, .string x.text, .slice ak x.kids.length ck] 39)).alloc (by simp) (.cells #[.int .i64 y.id, .int .i64 y.kind, .int .i64 y.attr, .string y.text, .slice ak' y.kids.length ck'] 39)
        cases r1 with
        | true =>
          go_wp2_with (go_at_call 92; refine (HE.out _ hW2).mono ?_; rintro e w1 ⟨rfl, hb1⟩)
          refine ⟨⟨k + 1, by omega, by go_num, fun j hj => ?_, hbr.trans ((hW2.trans (hb1.mono (by simp; omega))).mono hsz)⟩, by simp [intOf]; omega⟩
          rcases Nat.lt_succ_iff_lt_or_eq.1 hj with h | rfl
          · exact hsame.out j h
          · exact HX.out.symm.trans ((HR1.out.1 (by trivial)).trans HY.out)
        | false =>
          have hf : Hid (r = false) := not_true HR.out (fun e => by have := HR1.out.2 (by rw [HX.out, HY.out, e]); cases this)
          go_wp2_with (go_at_call 92; refine (HE.out _ hW2).mono ?_; rintro e w1 ⟨rfl, hb1⟩)
          go_ret
          exact ⟨ret_bool hf.out.symm, hbr.trans ((hW2.trans (hb1.mono (by simp; omega))).mono hsz)⟩
      · have ht : Hid (r = true) := HR.out.2 (list_getD_ext nodeNil HL.out fun j hj => hsame.out j (by omega))
        clear hk hk'
        go_wp2_with fail
        go_ret
        exact ⟨ret_bool ht.out.symm, hbr⟩
  · have hf : Hid (r = false) := not_true HR.out (fun e => hle (by rw [e]))
    have hle1 : ((l.length : Int) != (l'.length : Int)) = true := by simp; omega
    clear hle hk hk'
    go_enter Try.func91, Try.ntmps91
    go_wp2_with fail
    go_ret
    exact ⟨ret_bool hf.out.symm, Below.refl _ _⟩

set_option maxHeartbeats 1000000 in
set_option maxRecDepth 100000 in
theorem specSame_any (n₀ : Nat) (d d' : PDoc) (v v' : Value) (w : World) (h : NodesAt n₀ w v d.nodes) (h' : NodesAt n₀ w v' d'.nodes) (hn : n₀ ≤ w.heap.size) (hl : d.nodes.length ≤ 1048576) (hl' : d'.nodes.length ≤ 1048576) (hkl : ∀ x ∈ d.nodes, x.kids.length ≤ 1048576) (hkl' : ∀ x ∈ d'.nodes, x.kids.length ≤ 1048576) (r : Bool) (hr : r = true ↔ d = d') :
    Calls Try.prog 64 #[.agg #[.int .i64 d.root, .int .i64 d.next, v], .agg #[.int .i64 d'.root, .int .i64 d'.next, v']] w fun e w' => e = .returned (.bool r) ∧ Below w.heap.size w w' := by
  rw [doc_eq_iff] at hr
  obtain ⟨root, next, l⟩ := d
  obtain ⟨root', next', l'⟩ := d'
  dsimp only at *
  obtain ⟨a, cap, rfl, hk⟩ := h
  obtain ⟨a', cap', rfl, hk'⟩ := h'
  have HKL := hide hkl
  have HKL' := hide hkl'
  have HR := hide hr
  clear hkl hkl' hr
  have hW2 := ((Below.refl w.heap.size w).alloc (Nat.le_refl _) (.cells #[.int .i64 root, .int .i64 next, .slice a l.length cap] 24)).alloc (by simp) (.cells #[.int .i64 root', .int .i64 next', .slice a' l'.length cap'] 24)
  by_cases h0 : root = root'
  · subst h0
    by_cases h1 : next = next'
    · subst h1
      by_cases hle : l.length = l'.length
      · have hle1 : ((l.length : Int) != (l'.length : Int)) = false := by simp [hle]
        have HL := hide hle
        clear hle
        go_enter Try.func64, Try.ntmps64
        go_wp2_with fail
        go_loopw [5] (fun i wr => ∃ k : Nat, k ≤ l.length ∧ i = .int .i64 k ∧ Hid (∀ j, j < k → l[j]?.getD nodeNil = l'[j]?.getD nodeNil) ∧ Below (w.heap.size + 2) ((w.alloc (.cells #[.int .i64 root, .int .i64 next, .slice a l.length cap] 24)).alloc (.cells #[.int .i64 root, .int .i64 next, .slice a' l'.length cap'] 24)) wr) (fun i _ => l.length - (intOf i).toNat)
        case atStart => exact ⟨0, Nat.zero_le _, rfl, fun j hj => absurd hj (by omega), Below.refl _ _⟩
        case round =>
          obtain ⟨k, hkl, rfl, hsame, hbr0⟩ := hrel
          have hbr := hW2.trans (hbr0.mono (by omega))
          have hsz := hbr0.size
          simp only [World.size_alloc] at hsz
          obtain ⟨hcx, hfx⟩ := bcell (W := (w.alloc (.cells #[.int .i64 root, .int .i64 next, .slice a l.length cap] 24)).alloc (.cells #[.int .i64 root, .int .i64 next, .slice a' l'.length cap'] 24)) (by simpa using hbr0)
          have x2 : wr.cell? ⟨w.heap.size, 2, none⟩ = some (.slice a l.length cap) := by rw [hcx _ _ (by simp; omega), World.cell?_alloc_lt _ _ _ (by simp)]; simp
          have y2 : wr.cell? ⟨w.heap.size + 1, 2, none⟩ = some (.slice a' l'.length cap') := by rw [hcx _ _ (by simp)]; exact cell_two _ _ _ _ 2
          clear hcx hfx
          by_cases hlt : k < l.length
          · have hlt' : k < l'.length := by rw [← HL.out]; exact hlt
            obtain ⟨b, off, rfl, hb, hc⟩ := hk.resolve_left (by intro e; simp [e] at hlt)
            obtain ⟨b', off', rfl, hb', hc'⟩ := hk'.resolve_left (by intro e; simp [e] at hlt')
            have hA := (hc k hlt).below hb (Nat.le_refl _) (hbr.mono hn)
            have hA' := (hc' k hlt').below hb' (Nat.le_refl _) (hbr.mono hn)
            have hlx := HKL.out (l[k]?.getD nodeNil) (by simp [hlt])
            have hly := HKL'.out (l'[k]?.getD nodeNil) (by simp [hlt'])
            have hlt1 : (k : Int) < (l.length : Int) := by omega
            have hlt1' : (k : Int) < (l'.length : Int) := by omega
            have hbw : b < wr.heap.size := by omega
            have hbw' : b' < wr.heap.size := by omega
            have hbx : w.heap.size < wr.heap.size := by omega
            have hbx' : w.heap.size + 1 < wr.heap.size := by omega
            obtain ⟨x, hx⟩ : ∃ x, x = l[k]?.getD nodeNil := ⟨_, rfl⟩
            obtain ⟨y, hy⟩ : ∃ y, y = l'[k]?.getD nodeNil := ⟨_, rfl⟩
            rw [← hx] at hA hlx
            rw [← hy] at hA' hly
            have HX := hide hx
            have HY := hide hy
            clear hx hy hc hc' hk hk'
            have g0 := hA.c0
            have g1 := hA.c1
            have g2 := hA.c2
            have g3 := hA.c3
            have f0 := hA'.c0
            have f1 := hA'.c1
            have f2 := hA'.c2
            have f3 := hA'.c3
            obtain ⟨kv, g4, hi⟩ := hA.c4
            obtain ⟨kv', f4, hi'⟩ := hA'.c4
            obtain ⟨r1, hr1⟩ : ∃ r1 : Bool, r1 = true ↔ x = y := by classical exact ⟨decide (x = y), by simp⟩
            have HE : Hid (∀ t : Calm wr, Calls Try.prog 90 #[.agg #[.int .i64 x.id, .int .i64 x.kind, .int .i64 x.attr, .string x.text, kv], .agg #[.int .i64 y.id, .int .i64 y.kind, .int .i64 y.attr, .string y.text, kv']] t.out fun e w' => e = .returned (.bool r1) ∧ Below t.out.heap.size t.out w') := fun t =>
              specSameNode_any n₀ _ _ x y t.out ⟨kv, rfl, hi.below (Nat.le_refl _) (t.below.mono (by omega))⟩ ⟨kv', rfl, hi'.below (Nat.le_refl _) (t.below.mono (by omega))⟩ (by have := t.below.size; omega) hlx hly r1 hr1
            have HR1 := hide hr1
            obtain ⟨ak, ck, rfl, -⟩ := hi
            obtain ⟨ak', ck', rfl, -⟩ := hi'
            clear hA hA' hr1
            have hcal := calm_cell wr
            cases r1 with
            | true =>
              go_wp2_with fail
              refine wp_region_calm (by kernel_rfl) (by kernel_rfl) ?_
              repeat (go_big_quiet_step ((go_at_call 90; exact calm_of (HE.out _))))
              refine wpQuiet_nil ?_
              rintro _ ⟨t, rfl⟩
              have ht := t.below
              go_wp2_with fail
              refine ⟨⟨k + 1, by omega, by go_num, fun j hj => ?_, hbr0.trans (ht.mono hsz)⟩, by simp [intOf]; omega⟩
              rcases Nat.lt_succ_iff_lt_or_eq.1 hj with h | rfl
              · exact hsame.out j h
              · exact HX.out.symm.trans ((HR1.out.1 (by trivial)).trans HY.out)
            | false =>
              have hf : Hid (r = false) := not_true HR.out (fun e => by have := HR1.out.2 (by rw [HX.out, HY.out, e.2.2]); cases this)
              go_wp2_with fail
              refine wp_region_calm (by kernel_rfl) (by kernel_rfl) ?_
              repeat (go_big_quiet_step ((go_at_call 90; exact calm_of (HE.out _))))
              refine wpQuiet_nil ?_
              rintro _ ⟨t, rfl⟩
              have ht := t.below
              go_wp2_with fail
              go_ret
              exact ⟨ret_bool hf.out.symm, hbr.trans (ht.mono (by omega))⟩
          · have ht : Hid (r = true) := HR.out.2 ⟨by trivial, by trivial, list_getD_ext nodeNil HL.out fun j hj => hsame.out j (by omega)⟩
            clear hk hk'
            go_wp2_with fail
            go_ret
            exact ⟨ret_bool ht.out.symm, hbr⟩
      · have hf : Hid (r = false) := not_true HR.out (fun e => hle (by rw [e.2.2]))
        have hle1 : ((l.length : Int) != (l'.length : Int)) = true := by simp; omega
        clear hle hk hk'
        go_enter Try.func64, Try.ntmps64
        go_wp2_with fail
        go_ret
        exact ⟨ret_bool hf.out.symm, hW2⟩
    · have hf : Hid (r = false) := not_true HR.out (fun e => h1 e.2.1)
      have hne := (int_ne h1).2
      clear h1 hk hk'
      go_enter Try.func64, Try.ntmps64
      go_wp2_with fail
      go_ret
      exact ⟨ret_bool hf.out.symm, hW2⟩
  · have hf : Hid (r = false) := not_true HR.out (fun e => h0 e.1)
    have hne := (int_ne h0).2
    clear h0 hk hk'
    go_enter Try.func64, Try.ntmps64
    go_wp2_with fail
    go_ret
    exact ⟨ret_bool hf.out.symm, hW2⟩

set_option maxHeartbeats 1000000 in
set_option maxRecDepth 100000 in
theorem sameDoc_any (n₀ : Nat) (d d' : PDoc) (v v' : Value) (w : World) (h : NodesAt n₀ w v d.nodes) (h' : NodesAt n₀ w v' d'.nodes) (hn : n₀ ≤ w.heap.size) (hl : d.nodes.length ≤ 1048576) (hl' : d'.nodes.length ≤ 1048576) (hkl : ∀ x ∈ d.nodes, x.kids.length ≤ 1048576) (hkl' : ∀ x ∈ d'.nodes, x.kids.length ≤ 1048576) (r : Bool) (hr : r = true ↔ d = d') :
    Calls Try.prog 65 #[.agg #[.int .i64 d.root, .int .i64 d.next, v], .agg #[.int .i64 d'.root, .int .i64 d'.next, v']] w fun e w' => e = .returned (.bool r) ∧ Below w.heap.size w w' := by
  rw [doc_eq_iff] at hr
  obtain ⟨root, next, l⟩ := d
  obtain ⟨root', next', l'⟩ := d'
  dsimp only at *
  obtain ⟨r1, hr1⟩ : ∃ r1 : Bool, r1 = true ↔ l = l' := by classical exact ⟨decide (l = l'), by simp⟩
  have HE : Hid (∀ w1, Below w.heap.size w w1 → Calls Try.prog 91 #[v, v', .func (.func 92) #[] #[]] w1 fun e w' => e = .returned (.bool r1) ∧ Below w1.heap.size w1 w') := fun w1 hb =>
    equalNodes_any n₀ v v' l l' w1 (h.below (Nat.le_refl _) (hb.mono hn)) (h'.below (Nat.le_refl _) (hb.mono hn)) (by have := hb.size; omega) hl hl' hkl hkl' r1 hr1
  obtain ⟨a, cap, rfl, -⟩ := h
  obtain ⟨a', cap', rfl, -⟩ := h'
  rw [← hr1] at hr
  have HR := hide hr
  clear hkl hkl' hr hr1
  have hW2 := ((Below.refl w.heap.size w).alloc (Nat.le_refl _) (.cells #[.int .i64 root, .int .i64 next, .slice a l.length cap] 24)).alloc (by simp) (.cells #[.int .i64 root', .int .i64 next', .slice a' l'.length cap'] 24)
  by_cases h0 : root = root'
  · subst h0
    by_cases h1 : next = next'
    · subst h1
      have he : Hid (r1 = r) := by
        have := HR.out
        simp only [true_and] at this
        exact Bool.eq_iff_iff.2 this.symm
      go_enter Try.func65, Try.ntmps65
      go_wp2_with (go_at_call 91; refine (HE.out _ hW2).mono ?_; rintro e w1 ⟨rfl, hb1⟩)
      go_ret
      exact ⟨ret_bool he.out, hW2.trans (hb1.mono (by simp; omega))⟩
    · have hf : Hid (r = false) := not_true HR.out (fun e => h1 e.2.1)
      have hne := (int_ne h1).1
      clear h1
      go_enter Try.func65, Try.ntmps65
      go_wp2_with fail
      go_ret
      exact ⟨ret_bool hf.out.symm, hW2⟩
  · have hf : Hid (r = false) := not_true HR.out (fun e => h0 e.1)
    have hne := (int_ne h0).1
    clear h0
    go_enter Try.func65, Try.ntmps65
    go_wp2_with fail
    go_ret
    exact ⟨ret_bool hf.out.symm, hW2⟩

set_option maxHeartbeats 1000000 in
set_option maxRecDepth 100000 in
theorem specSameDoc_any (n₀ : Nat) (d d' : PDoc) (v v' : Value) (w : World) (h : NodesAt n₀ w v d.nodes) (h' : NodesAt n₀ w v' d'.nodes) (hn : n₀ ≤ w.heap.size) (hl : d.nodes.length ≤ 1048576) (hl' : d'.nodes.length ≤ 1048576) (hkl : ∀ x ∈ d.nodes, x.kids.length ≤ 1048576) (hkl' : ∀ x ∈ d'.nodes, x.kids.length ≤ 1048576) (r : Bool) (hr : r = true ↔ Good d ∧ Good d' ∧ d = d') :
    Calls Try.prog 35 #[.agg #[.int .i64 d.root, .int .i64 d.next, v], .agg #[.int .i64 d'.root, .int .i64 d'.next, v']] w fun e w' => e = .returned (.bool r) ∧ Below w.heap.size w w' := by
  obtain ⟨r1, hr1⟩ : ∃ r1 : Bool, r1 = true ↔ Good d := by classical exact ⟨decide (Good d), by simp⟩
  obtain ⟨r2, hr2⟩ : ∃ r2 : Bool, r2 = true ↔ Good d' := by classical exact ⟨decide (Good d'), by simp⟩
  obtain ⟨r3, hr3⟩ : ∃ r3 : Bool, r3 = true ↔ d = d' := by classical exact ⟨decide (d = d'), by simp⟩
  have HE1 : Hid (∀ w1, Below w.heap.size w w1 → Calls Try.prog 49 #[.agg #[.int .i64 d.root, .int .i64 d.next, v]] w1 fun e w' => e = .returned (.bool r1) ∧ Below w1.heap.size w1 w') := fun w1 hb =>
    specOK_any n₀ d v w1 (h.below (Nat.le_refl _) (hb.mono hn)) (by have := hb.size; omega) hl hkl r1 hr1
  have HE2 : Hid (∀ w1, Below w.heap.size w w1 → Calls Try.prog 49 #[.agg #[.int .i64 d'.root, .int .i64 d'.next, v']] w1 fun e w' => e = .returned (.bool r2) ∧ Below w1.heap.size w1 w') := fun w1 hb =>
    specOK_any n₀ d' v' w1 (h'.below (Nat.le_refl _) (hb.mono hn)) (by have := hb.size; omega) hl' hkl' r2 hr2
  have HE3 : Hid (∀ w1, Below w.heap.size w w1 → Calls Try.prog 64 #[.agg #[.int .i64 d.root, .int .i64 d.next, v], .agg #[.int .i64 d'.root, .int .i64 d'.next, v']] w1 fun e w' => e = .returned (.bool r3) ∧ Below w1.heap.size w1 w') := fun w1 hb =>
    specSame_any n₀ d d' v v' w1 (h.below (Nat.le_refl _) (hb.mono hn)) (h'.below (Nat.le_refl _) (hb.mono hn)) (by have := hb.size; omega) hl hl' hkl hkl' r3 hr3
  obtain ⟨a, cap, rfl, -⟩ := h
  obtain ⟨a', cap', rfl, -⟩ := h'
  rw [← hr1, ← hr2, ← hr3] at hr
  have HR := hide hr
  clear hkl hkl' hr hr1 hr2 hr3
  have hW2 := ((Below.refl w.heap.size w).alloc (Nat.le_refl _) (.cells #[.int .i64 d.root, .int .i64 d.next, .slice a d.nodes.length cap] 24)).alloc (by simp) (.cells #[.int .i64 d'.root, .int .i64 d'.next, .slice a' d'.nodes.length cap'] 24)
  cases r1 with
  | false =>
    have hf : Hid (r = false) := not_true HR.out (fun e => by cases e.1)
    go_enter Try.func35, Try.ntmps35
    go_wp2_with fail
    refine (HE1.out _ hW2).mono ?_
    rintro e w1 ⟨rfl, hb1⟩
    simp only [World.size_alloc] at hb1
    go_wp2_with fail
    go_ret
    exact ⟨ret_bool hf.out.symm, hW2.trans (hb1.mono (by omega))⟩
  | true =>
    cases r2 with
    | false =>
      have hf : Hid (r = false) := not_true HR.out (fun e => by cases e.2.1)
      go_enter Try.func35, Try.ntmps35
      go_wp2_with fail
      refine (HE1.out _ hW2).mono ?_
      rintro e w1 ⟨rfl, hb1⟩
      simp only [World.size_alloc] at hb1
      obtain ⟨hcx, hfx⟩ := bcell (W := (w.alloc _).alloc _) (by simpa using hb1)
      have hb1' := hW2.trans (hb1.mono (by omega))
      have y0 : w1.cell? ⟨w.heap.size + 1, 0, none⟩ = some (.int .i64 d'.root) := by rw [hcx _ _ (by simp)]; exact cell_two _ _ _ _ 0
      have y1 : w1.cell? ⟨w.heap.size + 1, 1, none⟩ = some (.int .i64 d'.next) := by rw [hcx _ _ (by simp)]; exact cell_two _ _ _ _ 1
      have y2 : w1.cell? ⟨w.heap.size + 1, 2, none⟩ = some (.slice a' d'.nodes.length cap') := by rw [hcx _ _ (by simp)]; exact cell_two _ _ _ _ 2
      clear hcx hfx
      go_wp2_with fail
      refine (HE2.out _ hb1').mono ?_
      rintro e w2 ⟨rfl, hb2⟩
      have hs1 := hb1'.size
      go_wp2_with fail
      go_ret
      exact ⟨ret_bool hf.out.symm, hb1'.trans (hb2.mono hs1)⟩
    | true =>
      have he : Hid (r3 = r) := by
        have := HR.out
        simp only [true_and] at this
        exact Bool.eq_iff_iff.2 this.symm
      go_enter Try.func35, Try.ntmps35
      go_wp2_with fail
      refine (HE1.out _ hW2).mono ?_
      rintro e w1 ⟨rfl, hb1⟩
      simp only [World.size_alloc] at hb1
      obtain ⟨hcx, hfx⟩ := bcell (W := (w.alloc _).alloc _) (by simpa using hb1)
      have hb1' := hW2.trans (hb1.mono (by omega))
      have hs1 := hb1.size
      simp only [World.size_alloc] at hs1
      have y0 : w1.cell? ⟨w.heap.size + 1, 0, none⟩ = some (.int .i64 d'.root) := by rw [hcx _ _ (by simp)]; exact cell_two _ _ _ _ 0
      have y1 : w1.cell? ⟨w.heap.size + 1, 1, none⟩ = some (.int .i64 d'.next) := by rw [hcx _ _ (by simp)]; exact cell_two _ _ _ _ 1
      have y2 : w1.cell? ⟨w.heap.size + 1, 2, none⟩ = some (.slice a' d'.nodes.length cap') := by rw [hcx _ _ (by simp)]; exact cell_two _ _ _ _ 2
      have x0 : w1.cell? ⟨w.heap.size, 0, none⟩ = some (.int .i64 d.root) := by rw [hcx _ _ (by simp; omega), World.cell?_alloc_lt _ _ _ (by simp)]; simp
      have x1 : w1.cell? ⟨w.heap.size, 1, none⟩ = some (.int .i64 d.next) := by rw [hcx _ _ (by simp; omega), World.cell?_alloc_lt _ _ _ (by simp)]; simp
      have x2 : w1.cell? ⟨w.heap.size, 2, none⟩ = some (.slice a d.nodes.length cap) := by rw [hcx _ _ (by simp; omega), World.cell?_alloc_lt _ _ _ (by simp)]; simp
      clear hcx hfx
      go_wp2_with fail
      refine (HE2.out _ hb1').mono ?_
      rintro e w2 ⟨rfl, hb2⟩
      have hb2' := hb1'.trans (hb2.mono (by omega))
      obtain ⟨hcx, hfx⟩ := bcell hb2
      have h0lt : w.heap.size < w1.heap.size := by omega
      have h1lt : w.heap.size + 1 < w1.heap.size := by omega
      go_wp2_with fail
      refine (HE3.out _ hb2').mono ?_
      rintro e w3 ⟨rfl, hb3⟩
      go_wp2_with fail
      go_ret
      have := hb2.size
      exact ⟨ret_bool he.out, hb2'.trans (hb3.mono (by omega))⟩

set_option maxHeartbeats 1000000 in
set_option maxRecDepth 100000 in
theorem implSameDoc_any (n₀ : Nat) (d d' : PDoc) (v v' : Value) (w : World) (h : NodesAt n₀ w v d.nodes) (h' : NodesAt n₀ w v' d'.nodes) (hn : n₀ ≤ w.heap.size) (hl : d.nodes.length ≤ 1048576) (hl' : d'.nodes.length ≤ 1048576) (hkl : ∀ x ∈ d.nodes, x.kids.length ≤ 1048576) (hkl' : ∀ x ∈ d'.nodes, x.kids.length ≤ 1048576) (hwf : WfDoc d) (hwf' : WfDoc d') (r : Bool) (hr : r = true ↔ Good d ∧ Good d' ∧ d = d') :
    Calls Try.prog 36 #[.agg #[.int .i64 d.root, .int .i64 d.next, v], .agg #[.int .i64 d'.root, .int .i64 d'.next, v']] w fun e w' => e = .returned (.bool r) ∧ Below w.heap.size w w' := by
  obtain ⟨r1, hr1⟩ : ∃ r1 : Bool, r1 = true ↔ Good d := by classical exact ⟨decide (Good d), by simp⟩
  obtain ⟨r2, hr2⟩ : ∃ r2 : Bool, r2 = true ↔ Good d' := by classical exact ⟨decide (Good d'), by simp⟩
  obtain ⟨r3, hr3⟩ : ∃ r3 : Bool, r3 = true ↔ d = d' := by classical exact ⟨decide (d = d'), by simp⟩
  have HE1 : Hid (∀ w1, Below w.heap.size w w1 → Calls Try.prog 20 #[.agg #[.int .i64 d.root, .int .i64 d.next, v]] w1 fun e w' => e = .returned (.bool r1) ∧ Below w1.heap.size w1 w') := fun w1 hb =>
    docOK_any n₀ d v w1 (h.below (Nat.le_refl _) (hb.mono hn)) (by have := hb.size; omega) hl hwf r1 hr1
  have HE2 : Hid (∀ w1, Below w.heap.size w w1 → Calls Try.prog 20 #[.agg #[.int .i64 d'.root, .int .i64 d'.next, v']] w1 fun e w' => e = .returned (.bool r2) ∧ Below w1.heap.size w1 w') := fun w1 hb =>
    docOK_any n₀ d' v' w1 (h'.below (Nat.le_refl _) (hb.mono hn)) (by have := hb.size; omega) hl' hwf' r2 hr2
  have HE3 : Hid (∀ w1, Below w.heap.size w w1 → Calls Try.prog 65 #[.agg #[.int .i64 d.root, .int .i64 d.next, v], .agg #[.int .i64 d'.root, .int .i64 d'.next, v']] w1 fun e w' => e = .returned (.bool r3) ∧ Below w1.heap.size w1 w') := fun w1 hb =>
    sameDoc_any n₀ d d' v v' w1 (h.below (Nat.le_refl _) (hb.mono hn)) (h'.below (Nat.le_refl _) (hb.mono hn)) (by have := hb.size; omega) hl hl' hkl hkl' r3 hr3
  obtain ⟨a, cap, rfl, -⟩ := h
  obtain ⟨a', cap', rfl, -⟩ := h'
  rw [← hr1, ← hr2, ← hr3] at hr
  have HR := hide hr
  clear hkl hkl' hr hr1 hr2 hr3 hwf hwf'
  have hW2 := ((Below.refl w.heap.size w).alloc (Nat.le_refl _) (.cells #[.int .i64 d.root, .int .i64 d.next, .slice a d.nodes.length cap] 24)).alloc (by simp) (.cells #[.int .i64 d'.root, .int .i64 d'.next, .slice a' d'.nodes.length cap'] 24)
  cases r1 with
  | false =>
    have hf : Hid (r = false) := not_true HR.out (fun e => by cases e.1)
    go_enter Try.func36, Try.ntmps36
    go_wp2_with fail
    refine (HE1.out _ hW2).mono ?_
    rintro e w1 ⟨rfl, hb1⟩
    simp only [World.size_alloc] at hb1
    go_wp2_with fail
    go_ret
    exact ⟨ret_bool hf.out.symm, hW2.trans (hb1.mono (by omega))⟩
  | true =>
    cases r2 with
    | false =>
      have hf : Hid (r = false) := not_true HR.out (fun e => by cases e.2.1)
      go_enter Try.func36, Try.ntmps36
      go_wp2_with fail
      refine (HE1.out _ hW2).mono ?_
      rintro e w1 ⟨rfl, hb1⟩
      simp only [World.size_alloc] at hb1
      obtain ⟨hcx, hfx⟩ := bcell (W := (w.alloc _).alloc _) (by simpa using hb1)
      have hb1' := hW2.trans (hb1.mono (by omega))
      have y0 : w1.cell? ⟨w.heap.size + 1, 0, none⟩ = some (.int .i64 d'.root) := by rw [hcx _ _ (by simp)]; exact cell_two _ _ _ _ 0
      have y1 : w1.cell? ⟨w.heap.size + 1, 1, none⟩ = some (.int .i64 d'.next) := by rw [hcx _ _ (by simp)]; exact cell_two _ _ _ _ 1
      have y2 : w1.cell? ⟨w.heap.size + 1, 2, none⟩ = some (.slice a' d'.nodes.length cap') := by rw [hcx _ _ (by simp)]; exact cell_two _ _ _ _ 2
      clear hcx hfx
      go_wp2_with fail
      refine (HE2.out _ hb1').mono ?_
      rintro e w2 ⟨rfl, hb2⟩
      have hs1 := hb1'.size
      go_wp2_with fail
      go_ret
      exact ⟨ret_bool hf.out.symm, hb1'.trans (hb2.mono hs1)⟩
    | true =>
      have he : Hid (r3 = r) := by
        have := HR.out
        simp only [true_and] at this
        exact Bool.eq_iff_iff.2 this.symm
      go_enter Try.func36, Try.ntmps36
      go_wp2_with fail
      refine (HE1.out _ hW2).mono ?_
      rintro e w1 ⟨rfl, hb1⟩
      simp only [World.size_alloc] at hb1
      obtain ⟨hcx, hfx⟩ := bcell (W := (w.alloc _).alloc _) (by simpa using hb1)
      have hb1' := hW2.trans (hb1.mono (by omega))
      have hs1 := hb1.size
      simp only [World.size_alloc] at hs1
      have y0 : w1.cell? ⟨w.heap.size + 1, 0, none⟩ = some (.int .i64 d'.root) := by rw [hcx _ _ (by simp)]; exact cell_two _ _ _ _ 0
      have y1 : w1.cell? ⟨w.heap.size + 1, 1, none⟩ = some (.int .i64 d'.next) := by rw [hcx _ _ (by simp)]; exact cell_two _ _ _ _ 1
      have y2 : w1.cell? ⟨w.heap.size + 1, 2, none⟩ = some (.slice a' d'.nodes.length cap') := by rw [hcx _ _ (by simp)]; exact cell_two _ _ _ _ 2
      have x0 : w1.cell? ⟨w.heap.size, 0, none⟩ = some (.int .i64 d.root) := by rw [hcx _ _ (by simp; omega), World.cell?_alloc_lt _ _ _ (by simp)]; simp
      have x1 : w1.cell? ⟨w.heap.size, 1, none⟩ = some (.int .i64 d.next) := by rw [hcx _ _ (by simp; omega), World.cell?_alloc_lt _ _ _ (by simp)]; simp
      have x2 : w1.cell? ⟨w.heap.size, 2, none⟩ = some (.slice a d.nodes.length cap) := by rw [hcx _ _ (by simp; omega), World.cell?_alloc_lt _ _ _ (by simp)]; simp
      clear hcx hfx
      go_wp2_with fail
      refine (HE2.out _ hb1').mono ?_
      rintro e w2 ⟨rfl, hb2⟩
      have hb2' := hb1'.trans (hb2.mono (by omega))
      obtain ⟨hcx, hfx⟩ := bcell hb2
      have h0lt : w.heap.size < w1.heap.size := by omega
      have h1lt : w.heap.size + 1 < w1.heap.size := by omega
      go_wp2_with fail
      refine (HE3.out _ hb2').mono ?_
      rintro e w3 ⟨rfl, hb3⟩
      go_wp2_with fail
      go_ret
      have := hb2.size
      exact ⟨ret_bool he.out, hb2'.trans (hb3.mono (by omega))⟩
end Go.Proofs.Ytigkjljknmojhaa
