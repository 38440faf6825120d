/-
  What the program's branchesOf answers: the branches of a document's nodes, a block each, and a map to them; or that a node is not right.
-/
import Derived.Test.YtfjhpfgffbghdaaGreatDoorJoinB
import Derived.Test.YtfjhpfgffbghdaaGreatDoorJoinC
namespace Go.Proofs.YtfjhpfgffbghdaaGreatDoor
open Go.RowKit

/-- What branchesOf asks of a document. -/
structure Base (d : PDoc) : Prop where
  n1 : 1 ≤ d.nodes.length
  n40 : d.nodes.length ≤ 40
  nx2 : 2 ≤ d.next
  nxm : d.next ≤ 999999
  fine : ∀ x ∈ d.nodes, NodeFine d.next x
  rise : (idsOf d.nodes).Pairwise (· < ·)

theorem Flat.base {d : PDoc} (F : Flat d) : Base d := ⟨F.n1, F.n40, F.nx2, F.nxm, F.fine, F.rise⟩

/-- Each node of the list has a block of its own, hung up nowhere. -/
structure Fresh (n₀ : Nat) (W : World) (l : List PNode) (ad : Int → Nat) : Prop where
  base : ∀ x ∈ l, n₀ ≤ ad x.id
  node : ∀ x ∈ l, W.heap[ad x.id]? = some (.cells #[.int .i64 x.id, .int .i64 x.kind, .int .i64 x.attr, .string x.text, .pointer none, .slice none 0 0] 143 (0, 0))
  inj : ∀ x ∈ l, ∀ y ∈ l, ad x.id = ad y.id → x.id = y.id

theorem fresh_nil (n₀ : Nat) (W : World) (ad : Int → Nat) : Fresh n₀ W [] ad := ⟨by simp, by simp, by simp⟩

section
variable {n₀ : Nat} {W W' : World} {l : List PNode} {ad : Int → Nat}

theorem Fresh.lt (h : Fresh n₀ W l ad) {x : PNode} (hx : x ∈ l) : ad x.id < W.heap.size := (Array.getElem?_eq_some_iff.1 (h.node x hx)).1

theorem Fresh.heap (h : Fresh n₀ W l ad) (he : ∀ x ∈ l, W'.heap[ad x.id]? = W.heap[ad x.id]?) : Fresh n₀ W' l ad :=
  ⟨h.base, fun x hx => (he x hx).trans (h.node x hx), h.inj⟩

theorem Fresh.below (h : Fresh n₀ W l ad) (hb : Below W.heap.size W W') : Fresh n₀ W' l ad := h.heap fun _ hx => hb.block _ (h.lt hx)

theorem Fresh.snoc (h : Fresh n₀ W l ad) {x : PNode} {B : Nat} (hno : x.id ∉ idsOf l) (hB : n₀ ≤ B) (hfar : ∀ y ∈ l, ad y.id ≠ B)
    (hx : W.heap[B]? = some (.cells #[.int .i64 x.id, .int .i64 x.kind, .int .i64 x.attr, .string x.text, .pointer none, .slice none 0 0] 143 (0, 0))) : Fresh n₀ W (l ++ [x]) (fun i => if i = x.id then B else ad i) := by
  have hne : ∀ y ∈ l, y.id ≠ x.id := fun y hy e => hno (e ▸ List.mem_map_of_mem hy)
  refine ⟨fun y hy => ?_, fun y hy => ?_, fun y hy z hz he => ?_⟩
  · rcases List.mem_append.1 hy with hy | hy
    · rw [if_neg (hne y hy)]; exact h.base y hy
    · simp at hy; subst hy; simpa using hB
  · rcases List.mem_append.1 hy with hy | hy
    · rw [if_neg (hne y hy)]; exact h.node y hy
    · simp at hy; subst hy; simpa using hx
  · rcases List.mem_append.1 hy with hy' | hy' <;> rcases List.mem_append.1 hz with hz' | hz'
    · rw [if_neg (hne y hy'), if_neg (hne z hz')] at he; exact h.inj y hy' z hz' he
    · simp at hz'; subst hz'; rw [if_neg (hne y hy'), if_pos rfl] at he; exact absurd he (hfar y hy')
    · simp at hy'; subst hy'; rw [if_pos rfl, if_neg (hne z hz')] at he; exact absurd he.symm (hfar z hz')
    · simp at hy' hz'; subst hy'; subst hz'; rfl
end

/-- The map of the ids of a list. -/
def idMap (l : List PNode) (ad : Int → Nat) (i : Int) : Option Nat := if i ∈ idsOf l then some (ad i) else none

theorem idMap_snoc (l : List PNode) (ad : Int → Nat) (x : PNode) (B : Nat) : (fun j => if j = x.id then some B else idMap l ad j) = idMap (l ++ [x]) (fun i => if i = x.id then B else ad i) := by
  funext j
  by_cases e : j = x.id
  · subst e; simp [idMap, idsOf]
  · simp [idMap, idsOf, e]

theorem idMap_nil (ad : Int → Nat) : idMap [] ad = fun _ => none := by funext j; simp [idMap, idsOf]

def lastOf (l : List PNode) (k : Nat) : Int := if k = 0 then 0 else (l[k - 1]?.getD nodeNil).id

theorem lastOf_bd {d : PDoc} {k : Nat} (h : Seen d k []) (hk : k ≤ d.nodes.length) (h2 : 2 ≤ d.next) : 0 ≤ lastOf d.nodes k ∧ lastOf d.nodes k ≤ d.next - 1 := by
  unfold lastOf
  split
  · omega
  · have hk1 : k - 1 < d.nodes.length := by omega
    have := h.fine (d.nodes[k - 1]?.getD nodeNil) (by
      rw [List.getElem?_eq_getElem hk1]
      exact List.mem_take_iff_getElem.2 ⟨k - 1, by omega, rfl⟩)
    unfold NodeFine at this; omega

theorem lastOf_lt {d : PDoc} {k : Nat} (B : Base d) (hk : k < d.nodes.length) : lastOf d.nodes k < (d.nodes[k]?.getD nodeNil).id := by
  unfold lastOf
  split
  · have := B.fine (d.nodes[k]?.getD nodeNil) (by simp [hk]); unfold NodeFine at this; omega
  · exact rise_at B.rise hk (by omega)

/-- The branches, and the map to them; or none, where the document is not right. -/
def BranchesPost (w : World) (d : PDoc) (e : Ending) (w' : World) : Prop :=
  (∃ (mb n : Nat) (ad : Int → Nat), e = .returned (.tuple #[.map (some mb), .bool true]) ∧ Base d ∧ Fresh w.heap.size w' d.nodes ad ∧ PtrMap w' mb n (idMap d.nodes ad) ∧ w.heap.size ≤ mb ∧ Below w.heap.size w w') ∨
  (e = .returned (.tuple #[.map none, .bool false]) ∧ ¬ Base d ∧ Below w.heap.size w w')

theorem run_makeMap_hint (n : Int) (w : World) : (Instr.makeMap 177 (some (.int .i64 n))).run Tryz.prog w = .ok (.map (some w.heap.size)) (w.alloc (.map #[] 0)) := by kernel_rfl

set_option maxHeartbeats 1000000 in
set_option maxRecDepth 100000 in
theorem branchesOf_any (n₀ : Nat) (d : PDoc) (s : Value) (w : World) (hN : NodesAt n₀ w s d.nodes) (hn : n₀ ≤ w.heap.size) (hl : d.nodes.length ≤ 1048576) :
    Calls Tryz.prog 129 #[.agg #[.int .i64 d.root, .int .i64 d.next, s]] w (BranchesPost w d) := by
  have hN' := hN
  obtain ⟨a, cap, rfl, hk'⟩ := hN
  have hmm := run_makeMap_hint
  cases hA : inB (d.nodes.length : Int) 1 40 with
  | false =>
    have hf : Hid (¬ Base d) := fun G => by have := inB_iff.2 ⟨show (1 : Int) ≤ d.nodes.length by have := G.n1; omega, show (d.nodes.length : Int) ≤ 40 by have := G.n40; omega⟩; rw [hA] at this; cases this
    clear hk'
    go_enter Tryz.func129, Tryz.ntmps129
    go_wp2_with (go_at_call 57; refine (between_any _ _ _ _).mono ?_; rintro e w' ⟨rfl, rfl⟩)
    go_ret2
    exact .inr ⟨rfl, hf.out, (Below.refl _ _).alloc (Nat.le_refl _) _⟩
  | true =>
    cases hB : inB d.next 2 999999 with
    | false =>
      have hf : Hid (¬ Base d) := fun G => by have := inB_iff.2 ⟨G.nx2, G.nxm⟩; rw [hB] at this; cases this
      clear hk'
      go_enter Tryz.func129, Tryz.ntmps129
      go_wp2_with (go_at_call 57; refine (between_any _ _ _ _).mono ?_; rintro e w' ⟨rfl, rfl⟩)
      go_ret2
      exact .inr ⟨rfl, hf.out, (Below.refl _ _).alloc (Nat.le_refl _) _⟩
    | true =>
      have hA' := inB_iff.1 hA
      have hB' := inB_iff.1 hB
      obtain ⟨b, off, rfl, hb, hc⟩ := hk'.resolve_left (by intro e; rw [e] at hA'; simp at hA')
      have hbw : b < w.heap.size := by omega
      clear hk'
      have HCs := hide hc
      clear hc
      go_enter Tryz.func129, Tryz.ntmps129
      go_wp2_with (go_at_call 57; refine (between_any _ _ _ _).mono ?_; rintro e w' ⟨rfl, rfl⟩)
      go_loopw [5, 26] (fun lv i' wr => ∃ (k : Nat) (ad : Int → Nat), k ≤ d.nodes.length ∧ i' = .int .i64 k ∧ lv = .int .i64 (lastOf d.nodes k) ∧ Hid (Seen d k []) ∧ Hid (Fresh (w.heap.size + 1) wr (d.nodes.take k) ad) ∧ PtrMap wr (w.heap.size + 1) k (idMap (d.nodes.take k) ad) ∧ Below (w.heap.size + 1) (w.alloc (.cells #[.int .i64 d.root, .int .i64 d.next, .slice (some ⟨b, off, none⟩) d.nodes.length cap] 38)) wr) (fun _ i' _ => d.nodes.length - (intOf i').toNat)
      case atStart => exact ⟨0, fun _ => 0, Nat.zero_le _, rfl, rfl, Seen.start d, by simpa [Hid] using fresh_nil _ _ _, by have := ptrMap_made (w.alloc (.cells #[.int .i64 d.root, .int .i64 d.next, .slice (some ⟨b, off, none⟩) d.nodes.length cap] 38)); rw [List.take_zero, idMap_nil]; simpa using this, (Below.refl _ _).alloc (by simp) _⟩
      case round =>
        obtain ⟨k, ad, hkl', rfl, rfl, hse, hfr, hpm, hbr⟩ := hrel
        obtain ⟨hcx, hfx⟩ := bcell (W := w.alloc _) (by simpa using hbr)
        have hsz := hbr.size
        simp only [World.size_alloc] at hsz
        have hszl : w.heap.size < wr.heap.size := by omega
        have hbr1 : b < wr.heap.size := by omega
        by_cases hlt : k < d.nodes.length
        · have hAt := HCs.out k hlt
          have g0 := hAt.c0
          have g1 := hAt.c1
          have g2 := hAt.c2
          have g3 := hAt.c3
          obtain ⟨vk, g4, ak, ck, rfl, hka⟩ := hAt.c4
          clear hAt hka
          have HSN := hide (@Seen.node d k [] hse.out hlt)
          have HTK : Hid (d.nodes.take (k + 1) = d.nodes.take k ++ [d.nodes[k]?.getD nodeNil]) := by rw [Hid, List.take_succ_eq_append_getElem hlt]; simp [hlt]
          have HMem : Hid ((d.nodes[k]?.getD nodeNil) ∈ d.nodes) := by simp [Hid, hlt]
          have HLt : Hid (Base d → lastOf d.nodes k < (d.nodes[k]?.getD nodeNil).id) := fun B => lastOf_lt B hlt
          have HLast : Hid (lastOf d.nodes (k + 1) = (d.nodes[k]?.getD nodeNil).id) := by simp [Hid, lastOf]
          have HPrev : Hid (k = 0 ∨ (d.nodes[k - 1]?.getD nodeNil).id = lastOf d.nodes k) := by unfold Hid lastOf; split <;> simp_all
          have HNo : Hid (lastOf d.nodes k < (d.nodes[k]?.getD nodeNil).id → (d.nodes[k]?.getD nodeNil).id ∉ idsOf (d.nodes.take k)) := by
            intro h hm
            cases k with
            | zero => simp [idsOf] at hm
            | succ m => have := pw_last (by omega) hse.out.rise _ hm; simp only [lastOf, Nat.add_sub_cancel] at h; rw [if_neg (by omega)] at h; omega
          have hlb := lastOf_bd hse.out hkl' hB'.1
          generalize lastOf d.nodes k = pv at *
          generalize (d.nodes[k - 1]?.getD nodeNil).id = pi at *
          generalize d.nodes[k]?.getD nodeNil = x at *
          cases hin : inB x.id (pv + 1) (d.next - 1) with
          | false =>
            have hf : Hid (¬ Base d) := fun B => by
              have h1 := HLt.out B
              have h2 := (B.fine x HMem.out).2.1
              rw [inB_iff.2 ⟨by omega, h2⟩] at hin; cases hin
            go_wp2_with (go_at_call 57; refine (between_any _ _ _ _).mono ?_; rintro e w' ⟨rfl, rfl⟩)
            go_ret2
            exact .inr ⟨rfl, hf.out, ((((Below.refl _ _).alloc (Nat.le_refl _) _).trans (hbr.mono (by omega))).alloc (by omega) _)⟩
          | true =>
            cases hok : okB x with
            | false =>
              have hf : Hid (¬ Base d) := fun B => by
                have := (okB_iff hin hlb.1).2 (B.fine x HMem.out); rw [hok] at this; cases this
              go_wp2_with (first | (go_at_call 57; refine (between_any _ _ _ _).mono ?_; rintro e w' ⟨rfl, rfl⟩) | (go_at_call 151; refine (nodeOK_any _ _ _ _).mono ?_; rintro e w1 ⟨rfl, hb1⟩))
              go_ret2
              exact .inr ⟨rfl, hf.out, (((((Below.refl _ _).alloc (Nat.le_refl _) _).trans (hbr.mono (by omega))).alloc (by omega) _).trans (hb1.mono (by simp; omega)))⟩
            | true =>
              have hxid := inB_iff.1 hin
              have hwx : Hid (Wf64 x.id) := wf64_of (by omega) (by omega)
              have HSe : Hid (Seen d (k + 1) []) := HSN.out ((okB_iff hin hlb.1).1 hok) (HPrev.out.imp id (fun e => by omega))
              have HNi := hide (HNo.out (by omega))
              obtain ⟨D, hown, hD2, hD3⟩ := hpm
              have HD2 := hide hD2
              have HD3 := hide hD3
              clear hD2 hD3 HSN HLt HPrev HNo hse
              go_wp2_with (first | (go_at_call 57; refine (between_any _ _ _ _).mono ?_; rintro e w' ⟨rfl, rfl⟩) | (go_at_call 151; refine (nodeOK_any _ _ _ _).mono ?_; rintro e w1 ⟨rfl, hb1⟩; clear hcx hfx; obtain ⟨hcx, hfx⟩ := bcell hb1; have hm1 := ownsMap_below (hown.alloc _) hb1) | (at_mapUpdate; refine wpList_mapUpdate_own _ rfl _ _ _ 177 rfl 3 93 (Maps.int_keyed Tryz.underlying3) Tryz.underlying177 ptrR (w.heap.size + 1) k D rfl (hm1.alloc _) (by unfold maxLen; omega) _ _ _ rfl rfl (Maps.keyOf_int_mk Tryz.underlying3 hwx.out) (.lit (.int .i64 (w1.heap.size : Int))) [] rfl ?_))
              intro w2 hown2 hgr2
              have hs1 := hb1.size
              simp only [World.size_alloc] at hs1
              have hs2 := hgr2.size
              simp only [World.size_alloc] at hs2
              have hbx1 : w1.heap[wr.heap.size]? = some (.cells #[.int .i64 x.id, .int .i64 x.kind, .int .i64 x.attr, .string x.text, .slice ak x.kids.length ck] 84 (0, 0)) := (hb1.block wr.heap.size (by simp)).trans (alloc_new wr _)
              have hbx2 := (hgr2.block wr.heap.size (by simp; omega) (by intro e; have := ownsMap_far hm1 hbx1; simp at e; omega)).trans ((Below.heap_alloc w1 _ _ (by omega)).trans hbx1)
              have hx0 := cell_of_heap hbx2 0
              simp only [List.getElem?_toArray, List.getElem?_cons_zero] at hx0
              have hbr2 : Below (w.heap.size + 1) (w.alloc (.cells #[.int .i64 d.root, .int .i64 d.next, .slice (some ⟨b, off, none⟩) d.nodes.length cap] 38)) w2 :=
                ((((hbr.alloc (by omega) _).trans (hb1.mono (by simp; omega))).alloc (by omega) _).grown hgr2 (by simp; omega) (fun g hg => by simp at hg; omega))
              have HPM : Hid (PtrMap w2 (w.heap.size + 1) (k + 1) (idMap (d.nodes.take (k + 1)) (fun i => if i = x.id then w1.heap.size else ad i))) := by
                have := PtrMap.put (i := x.id) (c := w1.heap.size) HD2.out HD3.out hown2
                rw [idMap_snoc] at this
                unfold Hid; rw [HTK.out]; exact this
              have HFr : Hid (Fresh (w.heap.size + 1) w2 (d.nodes.take (k + 1)) (fun i => if i = x.id then w1.heap.size else ad i)) := by
                have f1 : Fresh (w.heap.size + 1) w1 (d.nodes.take k) ad := (hfr.out.below ((Below.refl _ _).alloc (Nat.le_refl _) _)).below hb1
                have f2 : Fresh (w.heap.size + 1) (w1.alloc (.cells #[.int .i64 x.id, .int .i64 x.kind, .int .i64 x.attr, .string x.text, .pointer none, .slice none 0 0] 143)) (d.nodes.take k ++ [x]) (fun i => if i = x.id then w1.heap.size else ad i) :=
                  (f1.below ((Below.refl _ _).alloc (Nat.le_refl _) _)).snoc HNi.out (by omega) (fun y hy => by have := f1.lt hy; omega) (alloc_new w1 _)
                unfold Hid; rw [HTK.out]
                refine f2.heap fun y hy => hgr2.block _ (f2.lt hy) ?_
                intro e
                have := ownsMap_far (hm1.alloc _) (f2.node y hy)
                simp at e; exact this e
              clear hown2 hgr2 hbx1 hbx2 hm1 hown hcx hfx
              go_wp2_with fail
              go_roundw
              case rel => exact ⟨k + 1, _, by omega, by go_num, by rw [HLast.out], HSe, HFr, HPM.out, hbr2⟩
              case measure => simp [intOf]; omega
        · have hkn : k = d.nodes.length := by omega
          have HB : Hid (Base d) := by
            have hfine := hse.out.fine
            have hrise := hse.out.rise
            rw [List.take_of_length_le (by omega)] at hfine hrise
            exact ⟨by omega, by omega, hB'.1, hB'.2, hfine, hrise⟩
          have HFr : Hid (Fresh w.heap.size wr d.nodes ad) := by
            have h := hfr.out
            rw [List.take_of_length_le (by omega)] at h
            exact ⟨fun x hx => by have := h.base x hx; omega, h.node, h.inj⟩
          rw [List.take_of_length_le (by omega)] at hpm
          have HPM := hide hpm
          clear hpm hfr hse hkn
          go_wp2_with fail
          go_ret2
          exact .inl ⟨_, _, ad, rfl, HB.out, HFr.out, HPM.out, by omega, ((Below.refl _ _).alloc (Nat.le_refl _) _).trans (hbr.mono (by omega))⟩
end Go.Proofs.YtfjhpfgffbghdaaGreatDoor
