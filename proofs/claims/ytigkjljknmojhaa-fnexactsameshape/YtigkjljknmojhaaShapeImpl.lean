/-
  Whether two trees in memory are alike but for the Ids: what the program's sameShape answers.
-/
import Derived.Test.YtigkjljknmojhaaSameNode
import Derived.Test.YtigkjljknmojhaaImplTree
namespace Go.Proofs.Ytigkjljknmojhaa
open Go.RowKit

/-- The node of an Id. -/
def nodeOf (l : List PNode) (i : Int) : PNode := (l.find? (fun x => x.id == i)).getD nodeNil

theorem nodeOf_of {l : List PNode} (hr : (idsOf l).Pairwise (· < ·)) {x : PNode} (hx : x ∈ l) : nodeOf l x.id = x := by
  unfold nodeOf; rw [find_id hr hx]; rfl

/-- Alike but for the Ids, so many levels of it. -/
def Like (l l' : List PNode) : Nat → Int → Int → Prop
  | 0, _, _ => True
  | h + 1, i, k => (nodeOf l i).kind = (nodeOf l' k).kind ∧ (nodeOf l i).attr = (nodeOf l' k).attr ∧ (nodeOf l i).text = (nodeOf l' k).text ∧ (nodeOf l i).kids.length = (nodeOf l' k).kids.length ∧
      ∀ n, n < (nodeOf l i).kids.length → Like l l' h ((nodeOf l i).kids[n]?.getD 0) ((nodeOf l' k).kids[n]?.getD 0)

/-- The value is a list of pointers to the nodes of a tree. -/
def PtrsAt (n₁ : Nat) (W : World) (v : Value) (ks : List Int) (ad : Int → Nat) : Prop :=
  ∃ g cap, v = .slice g ks.length cap ∧ (ks = [] ∨ ∃ b, g = some ⟨b, 0, none⟩ ∧ b < n₁ ∧ ∀ j, j < ks.length → W.cell? ⟨b, j, none⟩ = some (.pointer (some ⟨ad (ks[j]?.getD 0), 0, none⟩)))

theorem PtrsAt.below {n₁ n₂ : Nat} {W W' : World} {v : Value} {ks : List Int} {ad : Int → Nat} (h : PtrsAt n₁ W v ks ad) (hn : n₁ ≤ n₂) (hb : Below n₁ W W') : PtrsAt n₂ W' v ks ad := by
  obtain ⟨g, cap, rfl, h⟩ := h
  refine ⟨g, cap, rfl, h.imp id ?_⟩
  rintro ⟨b, rfl, hlt, hc⟩
  exact ⟨b, rfl, by omega, fun j hj => (hb.cell (p := ⟨b, j, none⟩) hlt).trans (hc j hj)⟩

set_option maxHeartbeats 1000000 in
set_option maxRecDepth 100000 in
theorem equalPtrs_any (n₁ : Nat) (v v' : Value) (ks ks' : List Int) (ad ad' : Int → Nat) (w : World) (h : PtrsAt n₁ w v ks ad) (h' : PtrsAt n₁ w v' ks' ad') (hn : n₁ ≤ w.heap.size) (hl : ks.length ≤ 1048576) (rj : Nat → Bool)
    (HC : ∀ j, j < ks.length → j < ks'.length → ∀ w1, Below w.heap.size w w1 → Calls Try.prog 67 #[.pointer (some ⟨ad (ks[j]?.getD 0), 0, none⟩), .pointer (some ⟨ad' (ks'[j]?.getD 0), 0, none⟩)] w1 fun e w' => e = .returned (.bool (rj j)) ∧ Below w1.heap.size w1 w')
    (r : Bool) (hr : r = true ↔ ks.length = ks'.length ∧ ∀ j, j < ks.length → rj j = true) :
    Calls Try.prog 93 #[v, v', .func (.func 67) #[] #[]] w fun e w' => e = .returned (.bool r) ∧ Below w.heap.size w w' := by
  obtain ⟨a, cap, rfl, hk⟩ := h
  obtain ⟨a', cap', rfl, hk'⟩ := h'
  have HR := hide hr
  have HCall := hide HC
  clear hr HC
  by_cases hle : ks.length = ks'.length
  · have hle1 : ((ks.length : Int) != (ks'.length : Int)) = false := by simp [hle]
    have HL := hide hle
    clear hle
    go_enter Try.func93, Try.ntmps93
    go_wp2_with fail
    go_loopw [17] (fun i wr => ∃ k : Nat, k ≤ ks.length ∧ i = .int .i64 k ∧ Hid (∀ j, j < k → rj j = true) ∧ Below w.heap.size w wr) (fun i _ => ks.length - (intOf i).toNat)
    case atStart => exact ⟨0, Nat.zero_le _, rfl, fun j hj => absurd hj (by omega), Below.refl _ _⟩
    case round =>
      obtain ⟨k, hkl, rfl, hsame, hbr⟩ := hrel
      have hsz := hbr.size
      by_cases hlt : k < ks.length
      · have hlt' : k < ks'.length := by rw [← HL.out]; exact hlt
        obtain ⟨b, rfl, hb, hc⟩ := hk.resolve_left (by intro e; simp [e] at hlt)
        obtain ⟨b', rfl, hb', hc'⟩ := hk'.resolve_left (by intro e; simp [e] at hlt')
        have hck := (hbr.cell (p := ⟨b, k, none⟩) (show b < _ by omega)).trans (hc k hlt)
        have hck' := (hbr.cell (p := ⟨b', k, none⟩) (show b' < _ by omega)).trans (hc' k hlt')
        have hlt1 : (k : Int) < (ks.length : Int) := by omega
        have hlt1' : (k : Int) < (ks'.length : Int) := by omega
        have HE := hide (HCall.out k hlt hlt' wr hbr)
        have HRj : Hid (r = true → rj k = true) := fun e => (HR.out.1 e).2 k hlt
        clear hc hc' hk hk'
        generalize ks[k]?.getD 0 = x at *
        generalize ks'[k]?.getD 0 = y at *
        cases hrk : rj k with
        | true =>
          rw [hrk] at HE
          go_wp2_with (go_at_call 67; refine HE.out.mono ?_; rintro e w1 ⟨rfl, hb1⟩)
          refine ⟨⟨k + 1, by omega, by go_num, fun j hj => ?_, hbr.trans (hb1.mono hsz)⟩, by simp [intOf]; omega⟩
          rcases Nat.lt_succ_iff_lt_or_eq.1 hj with h | rfl
          · exact hsame.out j h
          · exact hrk
        | false =>
          rw [hrk] at HE HRj
          have hf : Hid (r = false) := by
            cases r with
            | false => rfl
            | true => have := HRj.out rfl; cases this
          go_wp2_with (go_at_call 67; refine HE.out.mono ?_; rintro e w1 ⟨rfl, hb1⟩)
          go_ret
          exact ⟨ret_bool hf.out.symm, hbr.trans (hb1.mono hsz)⟩
      · have ht : Hid (r = true) := HR.out.2 ⟨HL.out, fun j hj => hsame.out j (by omega)⟩
        clear hk hk'
        go_wp2_with fail
        go_ret
        exact ⟨ret_bool ht.out.symm, hbr⟩
  · have hf : Hid (r = false) := not_true HR.out (fun e => hle e.1)
    have hle1 : ((ks.length : Int) != (ks'.length : Int)) = true := by simp; omega
    clear hle hk hk'
    go_enter Try.func93, Try.ntmps93
    go_wp2_with fail
    go_ret
    exact ⟨ret_bool hf.out.symm, Below.refl _ _⟩

set_option maxHeartbeats 2000000 in
set_option maxRecDepth 100000 in
theorem sameShape_any (l l' : List PNode) (ad ad' : Int → Nat) (up up' : Int → Option Int) (Wk : Walkable l) (Wk' : Walkable l') (n₁ : Nat) :
    ∀ (h : Nat) (i k : Int) (w : World), n₁ ≤ w.heap.size → i ∈ idsOf l → k ∈ idsOf l' → Low l h i → TreeAt n₁ w l ad up → TreeAt n₁ w l' ad' up' → ∀ r : Bool, (r = true ↔ Like l l' h i k) →
      Calls Try.prog 67 #[.pointer (some ⟨ad i, 0, none⟩), .pointer (some ⟨ad' k, 0, none⟩)] w fun e W' => e = .returned (.bool r) ∧ Below w.heap.size w W' := by
  intro h
  induction h with
  | zero => intro i k w _ _ _ hl; exact hl.elim
  | succ h ih =>
    intro i k w hn hi hk hlow hT hT' r hr
    obtain ⟨x, hx, rfl⟩ := node_of hi
    obtain ⟨y, hy, rfl⟩ := node_of hk
    rw [Like, nodeOf_of Wk.rise hx, nodeOf_of Wk'.rise hy] at hr
    have hB := hT x hx
    have hB' := hT' y hy
    have b1 := hB.c1
    have b2 := hB.c2
    have b3 := hB.c3
    have e1 := hB'.c1
    have e2 := hB'.c2
    have e3 := hB'.c3
    obtain ⟨g, cap, b5, hk5⟩ := hB.c5
    obtain ⟨g', cap', e5, hk5'⟩ := hB'.c5
    have hlb : ad x.id < w.heap.size := by have := hB.lt; omega
    have hle : ad' y.id < w.heap.size := by have := hB'.lt; omega
    have hkx := Wk.kl x hx
    obtain ⟨rj, hrj⟩ : ∃ rj : Nat → Bool, ∀ n, rj n = true ↔ Like l l' h (x.kids[n]?.getD 0) (y.kids[n]?.getD 0) := by classical exact ⟨fun n => decide (Like l l' h (x.kids[n]?.getD 0) (y.kids[n]?.getD 0)), fun n => by simp⟩
    obtain ⟨r1, hr1⟩ : ∃ r1 : Bool, r1 = true ↔ x.kids.length = y.kids.length ∧ ∀ j, j < x.kids.length → rj j = true := by classical exact ⟨decide (x.kids.length = y.kids.length ∧ ∀ j, j < x.kids.length → rj j = true), by simp⟩
    have HE : Hid (∀ t : Calm w, Calls Try.prog 93 #[.slice g x.kids.length cap, .slice g' y.kids.length cap', .func (.func 67) #[] #[]] t.out fun e w' => e = .returned (.bool r1) ∧ Below t.out.heap.size t.out w') := fun t =>
      equalPtrs_any n₁ _ _ x.kids y.kids ad ad' t.out (PtrsAt.below ⟨g, cap, rfl, hk5⟩ (Nat.le_refl _) (t.below.mono hn)) (PtrsAt.below ⟨g', cap', rfl, hk5'⟩ (Nat.le_refl _) (t.below.mono hn)) (by have := t.below.size; omega) hkx rj
        (fun j hj hj' w1 hb1 => by
          have hb2 : Below n₁ w w1 := (t.below.mono hn).trans (hb1.mono (by have := t.below.size; omega))
          refine ih _ _ w1 (by have := hb1.size; have := t.below.size; omega) (Wk.th _ (List.mem_flatMap.2 ⟨x, hx, ?_⟩)) (Wk'.th _ (List.mem_flatMap.2 ⟨y, hy, ?_⟩)) (hlow _ ?_) (hT.below (Nat.le_refl _) hb2) (hT'.below (Nat.le_refl _) hb2) (rj j) (hrj j)
          · rw [List.getElem?_eq_getElem hj]; exact List.getElem_mem hj
          · rw [List.getElem?_eq_getElem hj']; exact List.getElem_mem hj'
          · rw [kidsAt_of Wk.rise hx, List.getElem?_eq_getElem hj]; exact List.getElem_mem hj) r1 hr1
    have hr' : r = true ↔ x.kind = y.kind ∧ x.attr = y.attr ∧ x.text = y.text ∧ r1 = true := by
      rw [hr, hr1]
      simp only [hrj]
    have HR := hide hr'
    have hcal := calm_cell w
    clear hr hr' hr1 hrj hk5 hk5' ih hlow hT hT' hB hB' Wk Wk' hi hk hx hy
    obtain ⟨xi, xk, xa, xt, xs⟩ := x
    obtain ⟨yi, yk, ya, yt, ys⟩ := y
    dsimp only at *
    by_cases h1 : xk = yk
    · subst h1
      by_cases h2 : xa = ya
      · subst h2
        by_cases h3 : xt = yt
        · subst h3
          have hs : (xt.toList == xt.toList) = true := by simp
          have he : Hid (r1 = r) := by
            have := HR.out
            simp only [true_and] at this
            exact Bool.eq_iff_iff.2 this.symm
          go_enter Try.func67, Try.ntmps67
          go_wp2_with fail
          refine wp_region_calm (by kernel_rfl) (by kernel_rfl) ?_
          repeat (go_big_quiet_step ((go_at_call 93; exact calm_of (HE.out _))))
          refine wpQuiet_nil ?_
          rintro _ ⟨t, rfl⟩
          go_wp2_with fail
          go_ret
          exact ⟨ret_bool he.out, t.below⟩
        · have hf : Hid (r = false) := not_true HR.out (fun e => h3 e.2.2.1)
          have hs := text_ne h3
          clear h3
          go_enter Try.func67, Try.ntmps67
          go_wp2_with fail
          refine wp_region_calm (by kernel_rfl) (by kernel_rfl) ?_
          repeat (go_big_quiet_step (fail))
          refine wpQuiet_nil ?_
          rintro _ ⟨t, rfl⟩
          go_wp2_with fail
          go_ret
          exact ⟨ret_bool hf.out.symm, t.below⟩
      · have hf : Hid (r = false) := not_true HR.out (fun e => h2 e.2.1)
        have hne := (int_ne h2).1
        clear h2
        go_enter Try.func67, Try.ntmps67
        go_wp2_with fail
        refine wp_region_calm (by kernel_rfl) (by kernel_rfl) ?_
        repeat (go_big_quiet_step (fail))
        refine wpQuiet_nil ?_
        rintro _ ⟨t, rfl⟩
        go_wp2_with fail
        go_ret
        exact ⟨ret_bool hf.out.symm, t.below⟩
    · have hf : Hid (r = false) := not_true HR.out (fun e => h1 e.1)
      have hne := (int_ne h1).1
      clear h1
      go_enter Try.func67, Try.ntmps67
      go_wp2_with fail
      refine wp_region_calm (by kernel_rfl) (by kernel_rfl) ?_
      repeat (go_big_quiet_step (fail))
      refine wpQuiet_nil ?_
      rintro _ ⟨t, rfl⟩
      go_wp2_with fail
      go_ret
      exact ⟨ret_bool hf.out.symm, t.below⟩
end Go.Proofs.Ytigkjljknmojhaa
