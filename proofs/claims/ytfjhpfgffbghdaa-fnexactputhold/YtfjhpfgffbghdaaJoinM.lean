/-
  PutHold: what the specification and the program answer.
  PutHold: what the program answers.
-/
import Derived.Test.YtfjhpfgffbghdaaSpecPutJ
import Derived.Test.YtfjhpfgffbghdaaPutWalkJ
import Derived.Test.YtfjhpfgffbghdaaDropTopJ
import Derived.Test.YtfjhpfgffbghdaaLocksForJ
namespace Go.Proofs.Ytfjhpfgffbghdaa
open Go.RowKit

def RoomAt (L : List PHold) (x : PHold) : Prop := HasAt L x.session x.node ∨ L.length < 30
noncomputable def putCode (d : PDoc) (L : List PHold) (x : PHold) : Int := by
  classical exact if holdAsk d L x = 0 then if RoomAt L x then 0 else 7 else holdAsk d L x
noncomputable def putAns (d : PDoc) (L : List PHold) (x : PHold) : List PHold := by
  classical exact if holdAsk d L x = 0 ∧ RoomAt L x then putL L x else []
theorem put_bad {d : PDoc} {L : List PHold} {x : PHold} (h : holdAsk d L x ≠ 0) : putCode d L x = holdAsk d L x ∧ putAns d L x = [] := by
  unfold putCode putAns; rw [if_neg h, if_neg (fun k => h k.1)]; exact ⟨rfl, rfl⟩
theorem put_no {d : PDoc} {L : List PHold} {x : PHold} (h : holdAsk d L x = 0) (k : ¬ RoomAt L x) : putCode d L x = 7 ∧ putAns d L x = [] := by
  unfold putCode putAns; rw [if_pos h, if_neg k, if_neg (fun m => k m.2)]; exact ⟨rfl, rfl⟩
theorem put_ok {d : PDoc} {L : List PHold} {x : PHold} (h : holdAsk d L x = 0) (k : RoomAt L x) : putCode d L x = 0 ∧ putAns d L x = putL L x := by
  unfold putCode putAns; rw [if_pos h, if_pos k, if_pos ⟨h, k⟩]; exact ⟨rfl, rfl⟩

theorem place_exists {L : List PHold} (hs : SortedH L) (t : PHold) : ∃ p, PlaceP L t p := by
  have key : ∀ n, n ≤ L.length → (∀ j, j < n → lessB (L[j]?.getD holdNil) t = true) ∨ ∃ p, p < n ∧ (∀ j, j < p → lessB (L[j]?.getD holdNil) t = true) ∧ lessB (L[p]?.getD holdNil) t = false := fun n => by
    induction n with
    | zero => intro _; exact .inl fun j hj => absurd hj (by omega)
    | succ n ih =>
      intro hn
      rcases ih (by omega) with h | ⟨p, h1, h2, h3⟩
      · cases hb : lessB (L[n]?.getD holdNil) t with
        | true =>
          refine .inl fun j hj => ?_
          by_cases e : j = n
          · rw [e]; exact hb
          · exact h j (by omega)
        | false => exact .inr ⟨n, by omega, h, hb⟩
      · exact .inr ⟨p, by omega, h2, h3⟩
  rcases key L.length (Nat.le_refl _) with h | ⟨p, h1, h2, h3⟩
  · exact ⟨L.length, Nat.le_refl _, h, fun j h1 h2 => absurd h1 (by omega)⟩
  · exact ⟨p, by omega, h2, hs.behind h3⟩

theorem putL_len {L : List PHold} {x : PHold} (hs : SortedH L) (hm : 0 ≤ x.mode) : (HasAt L x.session x.node ∧ (putL L x).length = L.length) ∨ (¬ HasAt L x.session x.node ∧ (putL L x).length = L.length + 1) := by
  classical
  obtain ⟨p, hP⟩ := place_exists hs ⟨x.session, x.node, 0⟩
  have hh := place_has hs hP
  by_cases h : HasAt L x.session x.node
  · obtain ⟨hp, hat⟩ := hh.2 h
    refine .inl ⟨h, ?_⟩
    rw [joinP_eq (r := true) hs hm hP ⟨fun _ => ⟨hp, hat⟩, fun _ => rfl⟩]
    simp [joinP]; omega
  · refine .inr ⟨h, ?_⟩
    rw [joinP_eq (r := false) hs hm hP ⟨fun e => (by cases e), fun e => absurd (hh.1 e) h⟩]
    have := hP.1
    simp [joinP]; omega

theorem putL_room {L : List PHold} {x : PHold} (hs : SortedH L) (hm : 0 ≤ x.mode) (hl : L.length ≤ 30) : RoomAt L x ↔ (putL L x).length ≤ 30 := by
  unfold RoomAt
  rcases putL_len hs hm with ⟨h, e⟩ | ⟨h, e⟩
  · exact ⟨fun _ => by omega, fun _ => .inl h⟩
  · exact ⟨fun k => by rcases k with k | k; exact absurd k h; omega, fun k => .inr (by omega)⟩

theorem putAns_len {d : PDoc} {L : List PHold} {x : PHold} : (putAns d L x).length ≤ 30 := by
  unfold putAns
  split
  · rename_i h
    obtain ⟨hlp, hxp⟩ := holdAsk_zero h.1
    exact (putL_room (fun i j h1 h2 => hlp.holds.less h1 h2) (by have := hxp.2.2.1; omega) hlp.holds.len).1 h.2
  · simp

theorem joinP_node {d : PDoc} {L : List PHold} {x : PHold} {p : Nat} {r : Bool} (hin : ∀ j, j < L.length → (L[j]?.getD holdNil).node ∈ idsOf d.nodes) (hx : x.node ∈ idsOf d.nodes) : ∀ y ∈ joinP L x p r, y.node ∈ idsOf d.nodes := by
  have hL : ∀ y ∈ L, y.node ∈ idsOf d.nodes := fun y hy => by obtain ⟨j, hj, rfl⟩ := mem_at hy; exact hin j hj
  intro y hy
  cases r
  · simp only [joinP, List.mem_append, List.mem_cons] at hy
    rcases hy with h | rfl | h
    · exact hL y (List.mem_of_mem_take h)
    · exact hx
    · exact hL y (List.mem_of_mem_drop h)
  · simp only [joinP, List.mem_append, List.mem_cons] at hy
    rcases hy with h | rfl | h
    · exact hL y (List.mem_of_mem_take h)
    · exact hx
    · exact hL y (List.mem_of_mem_drop h)

theorem putL_node {d : PDoc} {L : List PHold} {x : PHold} (hs : SortedH L) (hm : 0 ≤ x.mode) (hin : ∀ j, j < L.length → (L[j]?.getD holdNil).node ∈ idsOf d.nodes) (hx : x.node ∈ idsOf d.nodes) : ∀ j, j < (putL L x).length → ((putL L x)[j]?.getD holdNil).node ∈ idsOf d.nodes := fun j hj => by
  classical
  obtain ⟨p, hP⟩ := place_exists hs ⟨x.session, x.node, 0⟩
  have hm' := at_memH hj
  rw [joinP_eq (r := decide (p < L.length ∧ isAt x.session x.node (L[p]?.getD holdNil) = true)) hs hm hP decide_eq_true_iff] at hm'
  have := joinP_node hin hx _ hm'
  rwa [← joinP_eq (r := decide (p < L.length ∧ isAt x.session x.node (L[p]?.getD holdNil) = true)) hs hm hP decide_eq_true_iff] at this

set_option maxHeartbeats 2000000 in
set_option maxRecDepth 100000 in
theorem specPutHold_any (n₀ : Nat) (d : PDoc) (s v : Value) (L : List PHold) (x : PHold) (w : World) (hN : NodesAt n₀ w s d.nodes) (hV : HoldsAt n₀ w v L) (hn : n₀ ≤ w.heap.size) (hl : d.nodes.length ≤ 1048576) (hkl : ∀ x ∈ d.nodes, x.kids.length ≤ 1048576) (hL : L.length ≤ 1048576) (c : Int) (K : List PHold) (hc : c = putCode d L x) (hK : K = putAns d L x) :
    Calls Try.prog 16 #[.agg #[.int .i64 d.root, .int .i64 d.next, s], v, holdVal x] w (HoldsPost w K c) := by
  obtain ⟨W0, hW0⟩ : ∃ W0, W0 = (w.alloc (.cells #[.int .i64 d.root, .int .i64 d.next, s] 31)).alloc (.cells #[.int .i64 x.session, .int .i64 x.node, .int .i64 x.mode] 42) := ⟨_, rfl⟩
  have hw0 : Below w.heap.size w W0 := by rw [hW0]; exact ((Below.refl w.heap.size w).alloc (Nat.le_refl _) _).alloc (by simp) _
  have hs0 : W0.heap.size = w.heap.size + 1 + 1 := by rw [hW0]; simp
  have hh0 : W0.heap[w.heap.size]? = some (.cells #[.int .i64 d.root, .int .i64 d.next, s] 31 (0, 0)) := by
    rw [hW0, Below.heap_alloc _ _ _ (by simp)]; exact alloc_new w _
  have hh1 : W0.heap[w.heap.size + 1]? = some (.cells #[.int .i64 x.session, .int .i64 x.node, .int .i64 x.mode] 42 (0, 0)) := by
    rw [hW0]
    have := alloc_new (w.alloc (.cells #[.int .i64 d.root, .int .i64 d.next, s] 31)) (.cells #[.int .i64 x.session, .int .i64 x.node, .int .i64 x.mode] 42)
    simpa using this
  have HOld : Hid (∀ wx, Below W0.heap.size W0 wx → Below w.heap.size w wx ∧ w.heap.size + 1 + 1 ≤ wx.heap.size) := fun wx hb => ⟨hw0.trans (hb.mono (by omega)), by have := hb.size; omega⟩
  have HB : Hid (∀ wx, Below W0.heap.size W0 wx → (wx.cell? ⟨w.heap.size, 0, none⟩ = some (.int .i64 d.root) ∧ wx.cell? ⟨w.heap.size, 1, none⟩ = some (.int .i64 d.next) ∧ wx.cell? ⟨w.heap.size, 2, none⟩ = some s) ∧ (wx.cell? ⟨w.heap.size + 1, 0, none⟩ = some (.int .i64 x.session) ∧ wx.cell? ⟨w.heap.size + 1, 1, none⟩ = some (.int .i64 x.node) ∧ wx.cell? ⟨w.heap.size + 1, 2, none⟩ = some (.int .i64 x.mode))) := fun wx hb => by
    have j0 := (hb.block w.heap.size (by omega)).trans hh0
    have j1 := (hb.block (w.heap.size + 1) (by omega)).trans hh1
    exact ⟨⟨cell_of_heap j0 0, cell_of_heap j0 1, cell_of_heap j0 2⟩, cell_of_heap j1 0, cell_of_heap j1 1, cell_of_heap j1 2⟩
  obtain ⟨c1, hc1⟩ : ∃ c1, c1 = lockAsk d L x.session x.node := ⟨_, rfl⟩
  have HAs : Hid (Calls Try.prog 38 #[.agg #[.int .i64 d.root, .int .i64 d.next, s], v, .int .i64 x.session, .int .i64 x.node] W0 fun e w' => e = .returned (.int .i64 c1) ∧ Below W0.heap.size W0 w') :=
    specLockAsk_any n₀ d s v L x.session x.node W0 (hN.below (Nat.le_refl _) (hw0.mono hn)) (hV.below (Nat.le_refl _) (hw0.mono hn)) (by omega) hl hkl hL c1 hc1
  have HPu : Hid (∀ wx, Below W0.heap.size W0 wx → Calls Try.prog 40 #[v, holdVal x] wx fun e w' => ∃ u, e = .returned u ∧ w'.ownsRow wx.heap.size 42 3 u (putL L x).length (holdVals (putL L x)) ∧ Below wx.heap.size wx w') := fun wx hb =>
    specPut_any n₀ v L x wx (hV.below (Nat.le_refl _) ((HOld.out wx hb).1.mono hn)) (by have := (HOld.out wx hb).2; omega) hL
  have HNo : Hid (holdAsk d L x ≠ 0 → c = holdAsk d L x ∧ K = []) := fun h => by rw [hc, hK]; exact put_bad h
  have HFu : Hid (holdAsk d L x = 0 → ¬ RoomAt L x → c = 7 ∧ K = []) := fun h k => by rw [hc, hK]; exact put_no h k
  have HOk : Hid (holdAsk d L x = 0 → RoomAt L x → c = 0 ∧ K = putL L x) := fun h k => by rw [hc, hK]; exact put_ok h k
  have HC1 := hide hc1
  have hb00 : Below W0.heap.size W0 W0 := Below.refl _ _
  have hsw : w.heap.size + 1 + 1 ≤ W0.heap.size := by omega
  obtain ⟨⟨x0, x1, x2⟩, y0, y1, y2⟩ := HB.out _ hb00
  obtain ⟨a, cap, rfl⟩ := hV.form
  obtain ⟨sa, sc, rfl, -⟩ := hN
  have HS0 := hide hs0
  clear hc hc1 hK hkl hV hs0 hh0 hh1 hw0
  by_cases hlong : (4096 : Int) < (L.length : Int)
  · have h1 : lockAsk d L x.session x.node = 2 := (lockAsk_bad (by rw [heldAsk_long (by omega)]; decide)).trans (heldAsk_long (by omega))
    have h2 : holdAsk d L x = 2 := (holdAsk_bad (by rw [h1]; decide)).trans h1
    have HE : Hid (c = 2 ∧ K = []) := by have := HNo.out (by rw [h2]; decide); rw [h2] at this; exact this
    have HR : Hid ((W0.alloc (.cells #[] 42)).ownsRow w.heap.size 42 3 (.slice (some ⟨w.heap.size + 1 + 1, 0, none⟩) 0 0) 0 []) := by
      have := hrow_none W0 w.heap.size (by omega)
      rwa [HS0.out] at this
    have hbw := hide ((HOld.out _ hb00).1)
    clear h1 h2
    go_enter Try.func16, Try.ntmps16
    go_wp2_with fail
    rw [← hW0]
    clear hW0
    go_ret2
    exact ⟨_, ret_vc HE.out.1.symm, by rw [HE.out.2]; exact HR.out, hbw.out.alloc (by omega) _⟩
  · by_cases h0 : c1 = 0
    · subst h0
      by_cases hm : 1 ≤ x.mode ∧ x.mode ≤ 5
      · have hz0 := holdAsk_ok HC1.out.symm hm
        obtain ⟨hlp, hxp⟩ := holdAsk_zero hz0
        have HRoom := hide (putL_room (x := x) (fun i j h1 h2 => hlp.holds.less h1 h2) (by omega) hlp.holds.len)
        have HFu2 := hide (HFu.out hz0)
        have HOk2 := hide (HOk.out hz0)
        have hm1 := inB_iff.2 hm
        clear hm hz0 HNo HFu HOk hlp hxp
        go_enter Try.func16, Try.ntmps16
        go_wp2_with fail
        rw [← hW0]
        clear hW0
        refine HAs.out.mono ?_
        rintro e w1 ⟨rfl, hb1⟩
        clear x0 x1 x2 y0 y1 y2
        obtain ⟨⟨x0, x1, x2⟩, y0, y1, y2⟩ := HB.out _ hb1
        obtain ⟨hbw, hbs⟩ := HOld.out _ hb1
        have hz1 : w.heap.size < w1.heap.size := by omega
        have hz2 : w.heap.size + 1 < w1.heap.size := by omega
        have HPu2 := hide (HPu.out _ hb1)
        by_cases hroom : ((putL L x).length : Int) ≤ 30
        · have HE := hide (HOk2.out (HRoom.out.2 (by omega)))
          have hn30 : ¬ (30 : Int) < ((putL L x).length : Int) := by omega
          clear hroom
          go_wp2_with (first | (go_at_call 39; refine (specModeIn_any _ _).mono ?_; rintro e w' ⟨rfl, rfl⟩) | (go_at_call 40; refine HPu2.out.mono ?_; rintro e w2 ⟨vv, rfl, hrow, hb2⟩; have HRow := hide hrow; obtain ⟨ra, rc, rfl⟩ := slice_form hrow; clear hrow))
          go_ret2
          exact ⟨_, ret_vc HE.out.1.symm, by rw [HE.out.2]; exact ownsRow_base3 HRow.out (by omega), hbw.trans (hb2.mono (by omega))⟩
        · have HE := hide (HFu2.out (fun h => hroom (by have := HRoom.out.1 h; omega)))
          have hn30 : (30 : Int) < ((putL L x).length : Int) := by omega
          clear hroom
          go_wp2_with (first | (go_at_call 39; refine (specModeIn_any _ _).mono ?_; rintro e w' ⟨rfl, rfl⟩) | (go_at_call 40; refine HPu2.out.mono ?_; rintro e w2 ⟨vv, rfl, hrow, hb2⟩; have HRow := hide hrow; obtain ⟨ra, rc, rfl⟩ := slice_form hrow; clear hrow; have hs2 := hb2.size; have HR := hide (hrow_none w2 w.heap.size (by omega))))
          go_ret2
          exact ⟨_, ret_vc HE.out.1.symm, by rw [HE.out.2]; exact HR.out, (hbw.trans (hb2.mono (by omega))).alloc (by omega) _⟩
      · have h2 := holdAsk_mode HC1.out.symm hm
        have HE : Hid (c = 19 ∧ K = []) := by have := HNo.out (by rw [h2]; decide); rw [h2] at this; exact this
        have hm1 : inB x.mode 1 5 = false := inB_no hm
        clear hm h2 HNo HFu HOk
        go_enter Try.func16, Try.ntmps16
        go_wp2_with fail
        rw [← hW0]
        clear hW0
        refine HAs.out.mono ?_
        rintro e w1 ⟨rfl, hb1⟩
        clear x0 x1 x2 y0 y1 y2
        obtain ⟨⟨x0, x1, x2⟩, y0, y1, y2⟩ := HB.out _ hb1
        obtain ⟨hbw, hbs⟩ := HOld.out _ hb1
        have hz1 : w.heap.size < w1.heap.size := by omega
        have hz2 : w.heap.size + 1 < w1.heap.size := by omega
        have HR := hide (hrow_none w1 w.heap.size (by omega))
        go_wp2_with (go_at_call 39; refine (specModeIn_any _ _).mono ?_; rintro e w' ⟨rfl, rfl⟩)
        go_ret2
        exact ⟨_, ret_vc HE.out.1.symm, by rw [HE.out.2]; exact HR.out, hbw.alloc (by omega) _⟩
    · have h2 := holdAsk_bad (d := d) (L := L) (x := x) (by rw [← HC1.out]; exact h0)
      have HE : Hid (c1 = c ∧ K = []) := by
        have := HNo.out (by rw [h2, ← HC1.out]; exact h0)
        exact ⟨by rw [this.1, h2]; exact HC1.out, this.2⟩
      have h00 : (c1 != 0) = true := by simp [h0]
      clear h0 h2 HNo HFu HOk
      go_enter Try.func16, Try.ntmps16
      go_wp2_with fail
      rw [← hW0]
      clear hW0
      refine HAs.out.mono ?_
      rintro e w1 ⟨rfl, hb1⟩
      obtain ⟨hbw, hbs⟩ := HOld.out _ hb1
      have HR := hide (hrow_none w1 w.heap.size (by omega))
      clear x0 x1 x2 y0 y1 y2
      go_wp2_with fail
      go_ret2
      exact ⟨_, ret_vc HE.out.1, by rw [HE.out.2]; exact HR.out, hbw.alloc (by omega) _⟩
end Go.Proofs.Ytfjhpfgffbghdaa

namespace Go.Proofs.Ytfjhpfgffbghdaa
open Go.RowKit

set_option maxHeartbeats 2000000 in
set_option maxRecDepth 100000 in
theorem implPutHold_any (n₀ : Nat) (d : PDoc) (s v : Value) (L : List PHold) (x : PHold) (w : World) (hN : NodesAt n₀ w s d.nodes) (hV : HoldsAt n₀ w v L) (hn : n₀ ≤ w.heap.size) (hl : d.nodes.length ≤ 1048576) (hwf : WfDoc d) (hL : L.length ≤ 1048576) (c : Int) (K : List PHold) (hc : c = putCode d L x) (hK : K = putAns d L x) :
    Calls Try.prog 18 #[.agg #[.int .i64 d.root, .int .i64 d.next, s], v, holdVal x] w (HoldsPost w K c) := by
  obtain ⟨W0, hW0⟩ : ∃ W0, W0 = (w.alloc (.cells #[.int .i64 d.root, .int .i64 d.next, s] 31)).alloc (.cells #[.int .i64 x.session, .int .i64 x.node, .int .i64 x.mode] 42) := ⟨_, rfl⟩
  have hw0 : Below w.heap.size w W0 := by rw [hW0]; exact ((Below.refl w.heap.size w).alloc (Nat.le_refl _) _).alloc (by simp) _
  have hs0 : w.heap.size ≤ W0.heap.size := by rw [hW0]; simp; omega
  have HC := hide hc
  have HK := hide hK
  have HLf := hide (locksFor_any n₀ d s v L x W0 (hN.below (Nat.le_refl _) (hw0.mono hn)) (hV.below (Nat.le_refl _) (hw0.mono hn)) (by omega) hl hwf hL)
  obtain ⟨a, cap, rfl⟩ := hV.form
  obtain ⟨sa, sc, rfl, -⟩ := hN
  have HW0 := hide hw0
  clear hc hK hV hwf hw0
  go_enter Try.func18, Try.ntmps18
  go_wp2_with fail
  rw [← hW0]
  clear hW0
  refine HLf.out.mono ?_
  rintro e w1 (⟨p, c2, rfl, hc, hc1, hb1⟩ | ⟨lb, tb, ad, up, kv, rfl, hok, hgr, hlk, hb1⟩)
  · have hbad := put_bad (d := d) (L := L) (x := x) (by rw [← hc.out.2]; exact hc.out.1)
    have HE : Hid (c2 = c ∧ K = []) := ⟨by rw [HC.out, hbad.1]; exact hc.out.2, HK.out.trans hbad.2⟩
    clear hbad
    have hs1 := hb1.size
    have hbw := HW0.out.trans (hb1.mono hs0)
    go_wp2_with fail
    go_ret2
    exact ⟨.slice none 0 0, ret_vc HE.out.1, by rw [HE.out.2]; exact World.ownsRow_nil _ _ _ _, hbw.alloc (by omega) _⟩
  · obtain ⟨hlp, hxp⟩ := holdAsk_zero hok.out
    have hs1 := hb1.size
    have hbw := HW0.out.trans (hb1.mono hs0)
    have hltb := hlk.lt
    obtain ⟨W2, hW2⟩ : ∃ W2, W2 = w1.alloc (.cells #[.int .i64 x.session, .int .i64 x.mode, .pointer (some ⟨ad x.node, 0, none⟩)] 72) := ⟨_, rfl⟩
    have hh2 : W2.heap[w1.heap.size]? = some (.cells #[.int .i64 x.session, .int .i64 x.mode, .pointer (some ⟨ad x.node, 0, none⟩)] 72 (0, 0)) := by rw [hW2]; exact alloc_new w1 _
    have h12 : Below w1.heap.size w1 W2 := by rw [hW2]; exact (Below.refl _ _).alloc (Nat.le_refl _) _
    have hz2 : w1.heap.size < W2.heap.size := (Array.getElem?_eq_some_iff.1 hh2).1
    have hb2 := hbw.trans (h12.mono (by omega))
    have HIn : Hid (∀ j, j < L.length → (L[j]?.getD holdNil).node ∈ idsOf d.nodes) := fun j hj => (hlp.holds.ok j hj).1.2.1
    have HMd : Hid (∀ j, j < L.length → ModeP (L[j]?.getD holdNil).mode) := fun j hj => by
      have := (hlp.holds.ok j hj).1.2.2; exact ⟨by omega, this.2⟩
    have HSo : Hid (SortedH L) := fun i j h1 h2 => hlp.holds.less h1 h2
    have HMx : Hid (ModeP x.mode) := ⟨by have := hxp.2.2.1; omega, hxp.2.2.2⟩
    have hl30 := hlp.holds.len
    have HLk2 := hide (hlk.below (Nat.le_refl _) h12)
    have HGr2 := hide (hgr.below (Nat.le_refl _) (h12.mono (by omega)))
    obtain ⟨r, hr⟩ : ∃ r : Bool, r = true ↔ RoomAt L x := ⟨dec _, dec_iff _⟩
    have HRoom := hide (hasRoomFor_any _ _ lb tb d ad up kv L x W2 HLk2.out HGr2.out.out HIn.out hxp.2.1 (by omega) HSo.out r hr)
    have HPut : Hid (∀ wx, Below W2.heap.size W2 wx → Calls Try.prog 43 #[.pointer (some ⟨lb, 0, none⟩), lockVal ad x] wx fun e w' => e = .returned (.tuple #[]) ∧ LocksOwn W0.heap.size w' lb tb ad (putL L x) ∧ Below lb wx w') := fun wx hb =>
      put_any _ lb tb d ad up kv L x wx (HLk2.out.below (Nat.le_refl _) hb) (HGr2.out.below (Nat.le_refl _) (hb.mono (by omega))) HIn.out hxp.2.1 HMx.out HMd.out (by omega) HSo.out
    have HR := hide hr
    have HX := hide hxp.2.1
    have hsz2 : lb < W2.heap.size := by omega
    have HOk := hide hok.out
    clear hgr hlk h12 hlp hxp hr hok
    go_wp2_with fail
    rw [← hW2]
    clear hW2
    have q0 := cell_of_heap hh2 0
    have q1 := cell_of_heap hh2 1
    have q2 := cell_of_heap hh2 2
    simp only [List.getElem?_toArray, List.getElem?_cons_succ, List.getElem?_cons_zero] at q0 q1 q2
    cases r
    · have HE : Hid ((7 : Int) = c ∧ K = []) := by
        have h := put_no HOk.out (fun h => by have := HR.out.2 h; cases this)
        exact ⟨by rw [HC.out, h.1], HK.out.trans h.2⟩
      go_wp2_with fail
      refine HRoom.out.mono ?_
      rintro e w3 ⟨rfl, hb3⟩
      have hb4 := hb2.trans (hb3.mono (by omega))
      go_wp2_with fail
      go_ret2
      exact ⟨.slice none 0 0, ret_vc HE.out.1, by rw [HE.out.2]; exact World.ownsRow_nil _ _ _ _, hb4⟩
    · have HE : Hid ((0 : Int) = c ∧ K = putL L x) := by
        have h := put_ok HOk.out (HR.out.1 rfl)
        exact ⟨by rw [HC.out, h.1], HK.out.trans h.2⟩
      go_wp2_with fail
      refine HRoom.out.mono ?_
      rintro e w3 ⟨rfl, hb3⟩
      have hs3 := hb3.size
      have hb4 := hb2.trans (hb3.mono (by omega))
      have HP3 := hide (HPut.out w3 hb3)
      have h3 := (hb3.block w1.heap.size hz2).trans hh2
      have p0 := cell_of_heap h3 0
      have p1 := cell_of_heap h3 1
      have p2 := cell_of_heap h3 2
      simp only [List.getElem?_toArray, List.getElem?_cons_succ, List.getElem?_cons_zero] at p0 p1 p2
      have hz3 : w1.heap.size < w3.heap.size := by omega
      have HGr3 := hide (HGr2.out.below (Nat.le_refl _) (hb3.mono (by omega)))
      clear h3
      go_wp2_with fail
      refine HP3.out.mono ?_
      rintro e w4 ⟨rfl, hlk4, hb34⟩
      have hw4 : Below w.heap.size w w4 := hb4.trans (hb34.mono (by have := HW0.out.size; omega))
      have HIn4 : Hid (∀ j, j < (putL L x).length → ((putL L x)[j]?.getD holdNil).node ∈ idsOf d.nodes) := fun j hj => putL_node HSo.out HMx.out.1 HIn.out HX.out j hj
      have HL4 : Hid ((putL L x).length ≤ 1048576) := by
        rcases putL_len HSo.out HMx.out.1 with ⟨_, h⟩ | ⟨_, h⟩ <;> (rw [Hid, h]; omega)
      obtain ⟨_, u, hbox, hrow⟩ := hlk4
      have hlb4 : lb < w4.heap.size := (Array.getElem?_eq_some_iff.1 hbox).1
      have HHs := hide (holdsOf_any (lb + 1) _ tb d ad up kv u (putL L x) w4 hrow (HGr3.out.below (Nat.le_refl _) hb34).out HIn4.out HL4.out)
      obtain ⟨ua, uc, rfl⟩ := slice_form hrow
      have b1 := cell_of_heap hbox 1
      simp only [List.getElem?_toArray, List.getElem?_cons_succ, List.getElem?_cons_zero] at b1
      clear hbox hrow
      go_wp2_with fail
      refine HHs.out.mono ?_
      rintro e w5 ⟨u5, rfl, hrow5, hb5⟩
      have HRow := hide hrow5
      have hs4 := hw4.size
      clear hrow5
      go_wp2_with fail
      go_ret2
      exact ⟨_, ret_vc HE.out.1, by rw [HE.out.2]; exact ownsRow_base3 HRow.out (by omega), hw4.trans (hb5.mono (by omega))⟩
end Go.Proofs.Ytfjhpfgffbghdaa
