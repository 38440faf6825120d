/-
  How many nodes a tree in memory has, how high it is, where a node of it lies: what the program's methods answer.
-/
import Derived.Test.YtfjhpfgffbghdaaImplYieldJ
import Derived.Test.YtfjhpfgffbghdaaCalmJ
import Derived.Test.YtfjhpfgffbghdaaSpecDeepJ
import Derived.WalkLawsBesides
namespace Go.Proofs.Ytfjhpfgffbghdaa
open Go.RowKit Go.Shelf

attribute [local go_sem] Oper.semAt_some

theorem new_cell (W : World) (v : Value) (t : TypeId) : (W.alloc (.cells #[v] t)).cell? ⟨W.heap.size, 0, none⟩ = some v ∧ (W.alloc (.cells #[v] t)).frozen? ⟨W.heap.size, 0, none⟩ = false := by
  have h := alloc_new W (.cells #[v] t)
  exact ⟨by rw [cell_of_heap h 0]; rfl, frozen_of_heap h 0⟩
theorem old_cell {W : World} {a : Addr} {v : Value} (o : Obj) (h : W.cell? a = some v) : (W.alloc o).cell? a = some v := cell_kept h (World.grownBy_alloc W o none) (fun r e => by cases e)
theorem old_frozen {W : World} {a : Addr} {v : Value} (o : Obj) (h : W.cell? a = some v) (hf : W.frozen? a = false) : (W.alloc o).frozen? a = false := (frozen_kept h (World.grownBy_alloc W o none) (fun r e => by cases e)).trans hf

/-- What is known of a list of nodes whose walk is asked. -/
structure Walkable (l : List PNode) : Prop where
  kl : ∀ x ∈ l, x.kids.length ≤ 1048576
  th : ∀ j ∈ allKids l, j ∈ idsOf l
  rise : (idsOf l).Pairwise (· < ·)

set_option maxHeartbeats 1000000 in
theorem inOrder_in (n : Nat) (p : Option Addr) (w : World) :
    CallsIn Fence.wide n Try.prog 97 #[.pointer p] w fun e w' => e = .returned (.func (.func 100) #[] #[.pointer (some ⟨w.heap.size, 0, none⟩)]) ∧ w' = w.alloc (.cells #[.pointer p] 70) := by
  refine callsIn_of_wp Try.func97 rfl trivial ?_ wideRound
  simp only [Try.ntmps97, List.size_toArray, List.length_cons, List.length_nil, Nat.reduceAdd, Nat.reduceSub, Array.replicate_succ, Array.replicate_zero, List.push_toArray, List.append_toArray, List.nil_append, List.cons_append]
  gi_wp2
  go_ret
  exact ⟨rfl, rfl⟩

set_option maxHeartbeats 1000000 in
theorem inOrder_stops (l : List PNode) (ad : Int → Nat) (up : Int → Option Int) (Wk : Walkable l) (n Bt n₁ h : Nat) (i : Int) (hi : i ∈ idsOf l) (hlow : Low l h i) (w : World) (hBt : Bt < w.heap.size) (hn₁ : n₁ ≤ w.heap.size)
    (hc : w.cell? ⟨Bt, 0, none⟩ = some (.pointer (some ⟨ad i, 0, none⟩))) (hT : TreeAt n₁ w l ad up) :
    SeqStopsK Fence.wide n Try.prog 100 #[.pointer (some ⟨Bt, 0, none⟩)] (fun j : IdOf l => #[Value.pointer (some ⟨ad j.1, 0, none⟩)]) (Below n₁) (fun ys => vals ys = order l h i) (fun ys => vals ys <+: order l h i) (order l h i).length w := by
  intro lr J Jx W hW _ _ hY h0
  have hBt' := (hW.cell (p := ⟨Bt, 0, none⟩) hBt).trans hc
  have hp := yieldAll_in l ad up Wk.kl Wk.th Wk.rise lr n₁ (order l h i).length J Jx (fun m pre x W hj hl => yieldAny m (hY pre x W hj hl)) h (n - 1) i hi [] W hlow (hT.below (Nat.le_refl _) (hW.mono hn₁)) h0 (by simp)
  have hdd : ∀ k : Nat, (Fence.wide.depth.isSome = true → 1 ≤ k) := fun k h => by simp [Fence.wide] at h
  clear hY hT hc hlow Wk
  show CallsIn Fence.wide n Try.prog 100 #[.func (.yield lr) #[] #[], .pointer (some ⟨Bt, 0, none⟩)] W _
  refine callsIn_of_wp Try.func100 rfl trivial ?_ wideRound
  simp only [Try.ntmps100, List.size_toArray, List.length_cons, List.length_nil, Nat.reduceAdd, Nat.reduceSub, Array.replicate_succ, Array.replicate_zero, List.push_toArray, List.append_toArray, List.nil_append, List.cons_append]
  gi_wp2_with fail
  refine ⟨trivial, hdd _, ?_⟩
  refine hp.mono ?_
  rintro e W1 (⟨rfl, ⟨ys, hys, hJ1⟩, _⟩ | ⟨rfl, ys, hys, hx⟩)
  · clear hp
    gi_wp2_with fail
    go_end0
    exact ⟨⟨_, rfl⟩, .inl ⟨ys, hys, by simpa using hJ1⟩⟩
  · clear hp
    gi_wp2_with fail
    go_end0
    exact ⟨⟨_, rfl⟩, .inr ⟨ys, hys, by simpa using hx⟩⟩

set_option maxRecDepth 100000 in
set_option maxHeartbeats 2000000 in
theorem count_any (l : List PNode) (ad : Int → Nat) (up : Int → Option Int) (Wk : Walkable l) (n₁ h : Nat) (i : Int) (hi : i ∈ idsOf l) (hlow : Low l h i) (hlen : (order l h i).length ≤ 1048576) (w : World) (hn₁ : n₁ ≤ w.heap.size) (hT : TreeAt n₁ w l ad up) :
    Calls Try.prog 85 #[.pointer (some ⟨ad i, 0, none⟩)] w fun e W' => e = .returned (.int .i64 (order l h i).length) ∧ Below w.heap.size w W' := by
  refine (callsIn_wide (n := 3)).1 ?_
  refine callsIn_of_wp_marks Try.func85 rfl trivial ?_ wideRound
  simp only [Try.ntmps85, List.size_toArray, List.length_cons, List.length_nil, Nat.reduceAdd, Nat.reduceSub, Array.replicate_succ, Array.replicate_zero, List.push_toArray, List.append_toArray, List.nil_append, List.cons_append]
  gi_wp2_with (refine ⟨trivial, ?_⟩; gi_at_call 97; refine (inOrder_in _ _ _).mono ?_; rintro e w' ⟨rfl, rfl⟩)
  have hs := new_cell w (.int .i64 0) 3
  have hb := new_cell (w.alloc (.cells #[.int .i64 0] 3)) (.pointer (some ⟨ad i, 0, none⟩)) 70
  rw [World.size_alloc] at hb
  have hB0 : Below w.heap.size w ((w.alloc (.cells #[.int .i64 0] 3)).alloc (.cells #[.pointer (some ⟨ad i, 0, none⟩)] 70)) := ((Below.refl _ w).alloc (Nat.le_refl _) _).alloc (by simp) _
  refine wpIn_rangeFunc_ownF (α := IdOf l) wideRound (by omega) (gf := 100) (lb := #[.pointer (some ⟨w.heap.size + 1, 0, none⟩)]) rfl trivial (enters_of Try.func100 (by kernel_rfl) rfl)
    (inOrder_stops l ad up Wk _ (w.heap.size + 1) n₁ h i hi hlow _ (by simp) (by simp; omega) hb.1 (hT.below (Nat.le_refl _) (hB0.mono hn₁))) belowK_t (belowK_b (by simp; omega)) (Below.refl _ _) (fun _ => rfl)
    (fun pre W => (W.cell? ⟨w.heap.size, 0, none⟩ = some (.int .i64 (pre.length : Int)) ∧ W.frozen? ⟨w.heap.size, 0, none⟩ = false) ∧ Below w.heap.size w W)
    (fun _ _ _ => False)
    (OwnFrom.and (Own.from (fun s A B row hs hg hr => ⟨cell_kept hs.1 hg hr, (frozen_kept hs.1 hg hr).trans hs.2⟩) _) (ownFrom_below (Nat.le_refl _) (by simp; omega)))
    (fun _ _ _ _ _ hs _ _ => hs)
    ⟨⟨old_cell _ hs.1, old_frozen _ hs.1 hs.2⟩, hB0⟩
    (fun x => { tmps := #[.pointer (some ⟨ad i, 0, none⟩), undef, .int .i64 0, .pointer (some ⟨w.heap.size, 0, none⟩), .pointer (some ⟨ad i, 0, none⟩), .func (.func 100) #[] #[.pointer (some ⟨w.heap.size + 1, 0, none⟩)], .pointer (some ⟨ad x.1, 0, none⟩), undef, undef, undef], defers := [] }) ?assign ?body ?done ?stop
  case assign =>
    intro lr x W K hK
    gi_wp2
    simpa using hK
  case body =>
    rintro lr pre x W ⟨⟨hc, hf⟩, hB⟩ hpl
    have hpl2 : (pre.length : Int) ≤ 1048576 := by omega
    gi_wp2
    exact ⟨KeepsOthers.setCell _ _ _, (Below.refl n₁ W).setCell (p := ⟨w.heap.size, 0, none⟩) hn₁ _, ⟨by rw [World.cell?_setCell_same' _ _ _ (by rw [hc]; rfl)]; simp, by rw [World.frozen?_setCell]; exact hf⟩, hB.setCell (p := ⟨w.heap.size, 0, none⟩) (Nat.le_refl _) _⟩
  case done =>
    rintro D ys W hD hys ⟨⟨hc, _⟩, hB⟩ hK
    have hl : ys.length = (order l h i).length := by rw [← hys, vals_len]
    gi_wp2
    refine ⟨by simp, .inl ⟨_, _, rfl, run_takeDeferred hK, ?_⟩⟩
    exact ⟨_, results_tmp rfl _ _ _, by rw [← hl]; rfl, hB.trans (belowK_b (w := w) (Nat.le_refl _) W D _ _ (by simp at hD; omega) hK rfl rfl)⟩
  case stop =>
    rintro D c pre W _ _ h _
    exact h.elim

set_option maxRecDepth 100000 in
set_option maxHeartbeats 1000000 in
theorem height_any (l : List PNode) (ad : Int → Nat) (up : Int → Option Int) (Wk : Walkable l) (n₁ : Nat) :
    ∀ (h : Nat) (i : Int) (w : World), h ≤ 1000000 → i ∈ idsOf l → Low l h i → TreeAt n₁ w l ad up → Calls Try.prog 86 #[.pointer (some ⟨ad i, 0, none⟩)] w fun e W' => e = .returned (.int .i64 (hgt l h i)) ∧ W' = w := by
  intro h
  induction h with
  | zero => intro i w _ _ hl; exact hl.elim
  | succ h ih =>
    intro i w hh hi hlow hT
    obtain ⟨x, hx, rfl⟩ := node_of hi
    have hB := hT x hx
    obtain ⟨g, cap, hc5, hk5⟩ := hB.c5
    have hkx := Wk.kl x hx
    have HH : Hid (hgt l (h + 1) x.id = x.kids.foldl (fun n j => max n (hgt l h j)) 0 + 1) := by unfold Hid; rw [hgt, kidsAt_of Wk.rise hx]
    have HC : Hid (∀ j ∈ x.kids, Calls Try.prog 86 #[.pointer (some ⟨ad j, 0, none⟩)] w fun e W' => e = .returned (.int .i64 (hgt l h j)) ∧ W' = w) := fun j hj =>
      ih j w (by omega) (Wk.th j (List.mem_flatMap.2 ⟨x, hx, hj⟩)) (hlow j (by rw [kidsAt_of Wk.rise hx]; exact hj)) hT
    clear ih hT hlow Wk hB
    go_enter Try.func86, Try.ntmps86
    go_wp2_with fail
    go_loop [3, 11] (fun nv i' => ∃ m : Nat, m ≤ x.kids.length ∧ i' = .int .i64 m ∧ nv = .int .i64 (((x.kids.take m).foldl (fun n j => max n (hgt l h j)) 0 : Nat) : Int)) (fun _ i' => x.kids.length - (intOf i').toNat)
    case atStart => exact ⟨0, Nat.zero_le _, rfl, rfl⟩
    case round =>
      obtain ⟨m, hm, rfl, rfl⟩ := hrel
      have hq := fold_max_le (hgt l h) h (fun _ => hgt_le) (x.kids.take m)
      by_cases hlt : m < x.kids.length
      · obtain ⟨bk, rfl, hbk, hck⟩ := hk5.resolve_left (by intro e; simp [e] at hlt)
        have hcm := hck m hlt
        have HS := hide (fold_snoc hlt (fun n j => max n (hgt l h j)))
        have HCall := hide (HC.out (x.kids[m]?.getD 0) (by rw [List.getElem?_eq_getElem hlt]; exact List.getElem_mem hlt))
        have hdy : hgt l h (x.kids[m]?.getD 0) ≤ h := hgt_le
        clear hck hk5
        generalize (x.kids.take m).foldl (fun n j => max n (hgt l h j)) 0 = q at *
        generalize x.kids[m]?.getD 0 = y at *
        generalize hgt l h y = z at *
        go_wp2_with (go_at_call 86; refine HCall.out.mono ?_; rintro e w' ⟨rfl, rfl⟩)
        all_goals
          go_round
          case rel => exact ⟨m + 1, by omega, by go_num, by rw [HS.out]; congr 1; first | (split <;> omega) | omega⟩
          case measure => simp [intOf]; omega
      · have HE : Hid (hgt l (h + 1) x.id = (x.kids.take m).foldl (fun n j => max n (hgt l h j)) 0 + 1) := by unfold Hid; rw [List.take_of_length_le (by omega), HH.out]
        generalize (x.kids.take m).foldl (fun n j => max n (hgt l h j)) 0 = q at *
        clear hk5
        go_wp2_with fail
        go_ret
        exact ⟨ret_int (by rw [HE.out]; omega), rfl⟩
end Go.Proofs.Ytfjhpfgffbghdaa
