/-
  What the program's branchesOf answers: the branches of a document's nodes, a block each, and a map to them; or that a node is not right.
  Branches in memory that are being hung up: each node's block, its parent's pointer, and the list of pointers to its kids so far.
  What the program's hangUp answers: all nodes hung up on their parents; or that a kid is not there, or hangs twice.
-/
import Derived.Test.YtmcopoonnhcdjaaDoorJoin3
import Derived.Test.YtmcopoonnhcdjaaDoorJoin4
import Derived.Deep.AppendLies
import Derived.OneCell
namespace Go.Proofs.YtmcopoonnhcdjaaDoor
open Go.RowKit

/-- What branchesOf asks of a document. -/
structure Base (d : PDoc) : Prop where
  n1 : 1 ≤ d.nodes.length
  n40 : d.nodes.length ≤ 40
  nx2 : 2 ≤ d.next
  nxm : d.next ≤ 999999
  fine : ∀ x ∈ d.nodes, NodeFine d.next x
  rise : (idsOf d.nodes).Pairwise (· < ·)

theorem Flat.base {d : PDoc} (F : Flat d) : Base d := ⟨F.n1, F.n40, F.nx2, F.nxm, F.fine, F.rise⟩

/-- Each node of the list has a block of its own, hung up nowhere. -/
structure Fresh (n₀ : Nat) (W : World) (l : List PNode) (ad : Int → Nat) : Prop where
  base : ∀ x ∈ l, n₀ ≤ ad x.id
  node : ∀ x ∈ l, W.heap[ad x.id]? = some (.cells #[.int .i64 x.id, .int .i64 x.kind, .int .i64 x.attr, .string x.text, .pointer none, .slice none 0 0] 92 (0, 0))
  inj : ∀ x ∈ l, ∀ y ∈ l, ad x.id = ad y.id → x.id = y.id

theorem fresh_nil (n₀ : Nat) (W : World) (ad : Int → Nat) : Fresh n₀ W [] ad := ⟨by simp, by simp, by simp⟩

section
variable {n₀ : Nat} {W W' : World} {l : List PNode} {ad : Int → Nat}

theorem Fresh.lt (h : Fresh n₀ W l ad) {x : PNode} (hx : x ∈ l) : ad x.id < W.heap.size := (Array.getElem?_eq_some_iff.1 (h.node x hx)).1

theorem Fresh.heap (h : Fresh n₀ W l ad) (he : ∀ x ∈ l, W'.heap[ad x.id]? = W.heap[ad x.id]?) : Fresh n₀ W' l ad :=
  ⟨h.base, fun x hx => (he x hx).trans (h.node x hx), h.inj⟩

theorem Fresh.below (h : Fresh n₀ W l ad) (hb : Below W.heap.size W W') : Fresh n₀ W' l ad := h.heap fun _ hx => hb.block _ (h.lt hx)

theorem Fresh.snoc (h : Fresh n₀ W l ad) {x : PNode} {B : Nat} (hno : x.id ∉ idsOf l) (hB : n₀ ≤ B) (hfar : ∀ y ∈ l, ad y.id ≠ B)
    (hx : W.heap[B]? = some (.cells #[.int .i64 x.id, .int .i64 x.kind, .int .i64 x.attr, .string x.text, .pointer none, .slice none 0 0] 92 (0, 0))) : Fresh n₀ W (l ++ [x]) (fun i => if i = x.id then B else ad i) := by
  have hne : ∀ y ∈ l, y.id ≠ x.id := fun y hy e => hno (e ▸ List.mem_map_of_mem hy)
  refine ⟨fun y hy => ?_, fun y hy => ?_, fun y hy z hz he => ?_⟩
  · rcases List.mem_append.1 hy with hy | hy
    · rw [if_neg (hne y hy)]; exact h.base y hy
    · simp at hy; subst hy; simpa using hB
  · rcases List.mem_append.1 hy with hy | hy
    · rw [if_neg (hne y hy)]; exact h.node y hy
    · simp at hy; subst hy; simpa using hx
  · rcases List.mem_append.1 hy with hy' | hy' <;> rcases List.mem_append.1 hz with hz' | hz'
    · rw [if_neg (hne y hy'), if_neg (hne z hz')] at he; exact h.inj y hy' z hz' he
    · simp at hz'; subst hz'; rw [if_neg (hne y hy'), if_pos rfl] at he; exact absurd he (hfar y hy')
    · simp at hy'; subst hy'; rw [if_pos rfl, if_neg (hne z hz')] at he; exact absurd he.symm (hfar z hz')
    · simp at hy' hz'; subst hy'; subst hz'; rfl
end

/-- The map of the ids of a list. -/
def idMap (l : List PNode) (ad : Int → Nat) (i : Int) : Option Nat := if i ∈ idsOf l then some (ad i) else none

theorem idMap_snoc (l : List PNode) (ad : Int → Nat) (x : PNode) (B : Nat) : (fun j => if j = x.id then some B else idMap l ad j) = idMap (l ++ [x]) (fun i => if i = x.id then B else ad i) := by
  funext j
  by_cases e : j = x.id
  · subst e; simp [idMap, idsOf]
  · simp [idMap, idsOf, e]

theorem idMap_nil (ad : Int → Nat) : idMap [] ad = fun _ => none := by funext j; simp [idMap, idsOf]

def lastOf (l : List PNode) (k : Nat) : Int := if k = 0 then 0 else (l[k - 1]?.getD nodeNil).id

theorem lastOf_bd {d : PDoc} {k : Nat} (h : Seen d k []) (hk : k ≤ d.nodes.length) (h2 : 2 ≤ d.next) : 0 ≤ lastOf d.nodes k ∧ lastOf d.nodes k ≤ d.next - 1 := by
  unfold lastOf
  split
  · omega
  · have hk1 : k - 1 < d.nodes.length := by omega
    have := h.fine (d.nodes[k - 1]?.getD nodeNil) (by
      rw [List.getElem?_eq_getElem hk1]
      exact List.mem_take_iff_getElem.2 ⟨k - 1, by omega, rfl⟩)
    unfold NodeFine at this; omega

theorem lastOf_lt {d : PDoc} {k : Nat} (B : Base d) (hk : k < d.nodes.length) : lastOf d.nodes k < (d.nodes[k]?.getD nodeNil).id := by
  unfold lastOf
  split
  · have := B.fine (d.nodes[k]?.getD nodeNil) (by simp [hk]); unfold NodeFine at this; omega
  · exact rise_at B.rise hk (by omega)

/-- The branches, and the map to them; or none, where the document is not right. -/
def BranchesPost (w : World) (d : PDoc) (e : Ending) (w' : World) : Prop :=
  (∃ (mb n : Nat) (ad : Int → Nat), e = .returned (.tuple #[.map (some mb), .bool true]) ∧ Base d ∧ Fresh w.heap.size w' d.nodes ad ∧ PtrMap w' mb n (idMap d.nodes ad) ∧ w.heap.size ≤ mb ∧ Below w.heap.size w w') ∨
  (e = .returned (.tuple #[.map none, .bool false]) ∧ ¬ Base d ∧ Below w.heap.size w w')

theorem run_makeMap_hint (n : Int) (w : World) : (Instr.makeMap 118 (some (.int .i64 n))).run Tryd.prog w = .ok (.map (some w.heap.size)) (w.alloc (.map #[] 0)) := by kernel_rfl

set_option maxHeartbeats 1000000 in
set_option maxRecDepth 100000 in
theorem branchesOf_any (n₀ : Nat) (d : PDoc) (s : Value) (w : World) (hN : NodesAt n₀ w s d.nodes) (hn : n₀ ≤ w.heap.size) (hl : d.nodes.length ≤ 1048576) :
    Calls Tryd.prog 76 #[.agg #[.int .i64 d.root, .int .i64 d.next, s]] w (BranchesPost w d) := by
  have hN' := hN
  obtain ⟨a, cap, rfl, hk'⟩ := hN
  have hmm := run_makeMap_hint
  cases hA : inB (d.nodes.length : Int) 1 40 with
  | false =>
    have hf : Hid (¬ Base d) := fun G => by have := inB_iff.2 ⟨show (1 : Int) ≤ d.nodes.length by have := G.n1; omega, show (d.nodes.length : Int) ≤ 40 by have := G.n40; omega⟩; rw [hA] at this; cases this
    clear hk'
    go_enter Tryd.func76, Tryd.ntmps76
    go_wp2_with (go_at_call 59; refine (between_any _ _ _ _).mono ?_; rintro e w' ⟨rfl, rfl⟩)
    go_ret2
    exact .inr ⟨rfl, hf.out, (Below.refl _ _).alloc (Nat.le_refl _) _⟩
  | true =>
    cases hB : inB d.next 2 999999 with
    | false =>
      have hf : Hid (¬ Base d) := fun G => by have := inB_iff.2 ⟨G.nx2, G.nxm⟩; rw [hB] at this; cases this
      clear hk'
      go_enter Tryd.func76, Tryd.ntmps76
      go_wp2_with (go_at_call 59; refine (between_any _ _ _ _).mono ?_; rintro e w' ⟨rfl, rfl⟩)
      go_ret2
      exact .inr ⟨rfl, hf.out, (Below.refl _ _).alloc (Nat.le_refl _) _⟩
    | true =>
      have hA' := inB_iff.1 hA
      have hB' := inB_iff.1 hB
      obtain ⟨b, off, rfl, hb, hc⟩ := hk'.resolve_left (by intro e; rw [e] at hA'; simp at hA')
      have hbw : b < w.heap.size := by omega
      clear hk'
      have HCs := hide hc
      clear hc
      go_enter Tryd.func76, Tryd.ntmps76
      go_wp2_with (go_at_call 59; refine (between_any _ _ _ _).mono ?_; rintro e w' ⟨rfl, rfl⟩)
      go_loopw [5, 26] (fun lv i' wr => ∃ (k : Nat) (ad : Int → Nat), k ≤ d.nodes.length ∧ i' = .int .i64 k ∧ lv = .int .i64 (lastOf d.nodes k) ∧ Hid (Seen d k []) ∧ Hid (Fresh (w.heap.size + 1) wr (d.nodes.take k) ad) ∧ PtrMap wr (w.heap.size + 1) k (idMap (d.nodes.take k) ad) ∧ Below (w.heap.size + 1) (w.alloc (.cells #[.int .i64 d.root, .int .i64 d.next, .slice (some ⟨b, off, none⟩) d.nodes.length cap] 33)) wr) (fun _ i' _ => d.nodes.length - (intOf i').toNat)
      case atStart => exact ⟨0, fun _ => 0, Nat.zero_le _, rfl, rfl, Seen.start d, by simpa [Hid] using fresh_nil _ _ _, by have := ptrMap_made (w.alloc (.cells #[.int .i64 d.root, .int .i64 d.next, .slice (some ⟨b, off, none⟩) d.nodes.length cap] 33)); rw [List.take_zero, idMap_nil]; simpa using this, (Below.refl _ _).alloc (by simp) _⟩
      case round =>
        obtain ⟨k, ad, hkl', rfl, rfl, hse, hfr, hpm, hbr⟩ := hrel
        obtain ⟨hcx, hfx⟩ := bcell (W := w.alloc _) (by simpa using hbr)
        have hsz := hbr.size
        simp only [World.size_alloc] at hsz
        have hszl : w.heap.size < wr.heap.size := by omega
        have hbr1 : b < wr.heap.size := by omega
        by_cases hlt : k < d.nodes.length
        · have hAt := HCs.out k hlt
          have g0 := hAt.c0
          have g1 := hAt.c1
          have g2 := hAt.c2
          have g3 := hAt.c3
          obtain ⟨vk, g4, ak, ck, rfl, hka⟩ := hAt.c4
          clear hAt hka
          have HSN := hide (@Seen.node d k [] hse.out hlt)
          have HTK : Hid (d.nodes.take (k + 1) = d.nodes.take k ++ [d.nodes[k]?.getD nodeNil]) := by rw [Hid, List.take_succ_eq_append_getElem hlt]; simp [hlt]
          have HMem : Hid ((d.nodes[k]?.getD nodeNil) ∈ d.nodes) := by simp [Hid, hlt]
          have HLt : Hid (Base d → lastOf d.nodes k < (d.nodes[k]?.getD nodeNil).id) := fun B => lastOf_lt B hlt
          have HLast : Hid (lastOf d.nodes (k + 1) = (d.nodes[k]?.getD nodeNil).id) := by simp [Hid, lastOf]
          have HPrev : Hid (k = 0 ∨ (d.nodes[k - 1]?.getD nodeNil).id = lastOf d.nodes k) := by unfold Hid lastOf; split <;> simp_all
          have HNo : Hid (lastOf d.nodes k < (d.nodes[k]?.getD nodeNil).id → (d.nodes[k]?.getD nodeNil).id ∉ idsOf (d.nodes.take k)) := by
            intro h hm
            cases k with
            | zero => simp [idsOf] at hm
            | succ m => have := pw_last (by omega) hse.out.rise _ hm; simp only [lastOf, Nat.add_sub_cancel] at h; rw [if_neg (by omega)] at h; omega
          have hlb := lastOf_bd hse.out hkl' hB'.1
          generalize lastOf d.nodes k = pv at *
          generalize (d.nodes[k - 1]?.getD nodeNil).id = pi at *
          generalize d.nodes[k]?.getD nodeNil = x at *
          cases hin : inB x.id (pv + 1) (d.next - 1) with
          | false =>
            have hf : Hid (¬ Base d) := fun B => by
              have h1 := HLt.out B
              have h2 := (B.fine x HMem.out).2.1
              rw [inB_iff.2 ⟨by omega, h2⟩] at hin; cases hin
            go_wp2_with (go_at_call 59; refine (between_any _ _ _ _).mono ?_; rintro e w' ⟨rfl, rfl⟩)
            go_ret2
            exact .inr ⟨rfl, hf.out, ((((Below.refl _ _).alloc (Nat.le_refl _) _).trans (hbr.mono (by omega))).alloc (by omega) _)⟩
          | true =>
            cases hok : okB x with
            | false =>
              have hf : Hid (¬ Base d) := fun B => by
                have := (okB_iff hin hlb.1).2 (B.fine x HMem.out); rw [hok] at this; cases this
              go_wp2_with (first | (go_at_call 59; refine (between_any _ _ _ _).mono ?_; rintro e w' ⟨rfl, rfl⟩) | (go_at_call 102; refine (nodeOK_any _ _ _ _).mono ?_; rintro e w1 ⟨rfl, hb1⟩))
              go_ret2
              exact .inr ⟨rfl, hf.out, (((((Below.refl _ _).alloc (Nat.le_refl _) _).trans (hbr.mono (by omega))).alloc (by omega) _).trans (hb1.mono (by simp; omega)))⟩
            | true =>
              have hxid := inB_iff.1 hin
              have hwx : Hid (Wf64 x.id) := wf64_of (by omega) (by omega)
              have HSe : Hid (Seen d (k + 1) []) := HSN.out ((okB_iff hin hlb.1).1 hok) (HPrev.out.imp id (fun e => by omega))
              have HNi := hide (HNo.out (by omega))
              obtain ⟨D, hown, hD2, hD3⟩ := hpm
              have HD2 := hide hD2
              have HD3 := hide hD3
              clear hD2 hD3 HSN HLt HPrev HNo hse
              go_wp2_with (first | (go_at_call 59; refine (between_any _ _ _ _).mono ?_; rintro e w' ⟨rfl, rfl⟩) | (go_at_call 102; refine (nodeOK_any _ _ _ _).mono ?_; rintro e w1 ⟨rfl, hb1⟩; clear hcx hfx; obtain ⟨hcx, hfx⟩ := bcell hb1; have hm1 := ownsMap_below (hown.alloc _) hb1) | (at_mapUpdate; refine wpList_mapUpdate_own _ rfl _ _ _ 118 rfl 3 75 (Maps.int_keyed Tryd.underlying3) Tryd.underlying118 ptrR (w.heap.size + 1) k D rfl (hm1.alloc _) (by unfold maxLen; omega) _ _ _ rfl rfl (Maps.keyOf_int_mk Tryd.underlying3 hwx.out) (.lit (.int .i64 (w1.heap.size : Int))) [] rfl ?_))
              intro w2 hown2 hgr2
              have hs1 := hb1.size
              simp only [World.size_alloc] at hs1
              have hs2 := hgr2.size
              simp only [World.size_alloc] at hs2
              have hbx1 : w1.heap[wr.heap.size]? = some (.cells #[.int .i64 x.id, .int .i64 x.kind, .int .i64 x.attr, .string x.text, .slice ak x.kids.length ck] 69 (0, 0)) := (hb1.block wr.heap.size (by simp)).trans (alloc_new wr _)
              have hbx2 := (hgr2.block wr.heap.size (by simp; omega) (by intro e; have := ownsMap_far hm1 hbx1; simp at e; omega)).trans ((Below.heap_alloc w1 _ _ (by omega)).trans hbx1)
              have hx0 := cell_of_heap hbx2 0
              simp only [List.getElem?_toArray, List.getElem?_cons_zero] at hx0
              have hbr2 : Below (w.heap.size + 1) (w.alloc (.cells #[.int .i64 d.root, .int .i64 d.next, .slice (some ⟨b, off, none⟩) d.nodes.length cap] 33)) w2 :=
                ((((hbr.alloc (by omega) _).trans (hb1.mono (by simp; omega))).alloc (by omega) _).grown hgr2 (by simp; omega) (fun g hg => by simp at hg; omega))
              have HPM : Hid (PtrMap w2 (w.heap.size + 1) (k + 1) (idMap (d.nodes.take (k + 1)) (fun i => if i = x.id then w1.heap.size else ad i))) := by
                have := PtrMap.put (i := x.id) (c := w1.heap.size) HD2.out HD3.out hown2
                rw [idMap_snoc] at this
                unfold Hid; rw [HTK.out]; exact this
              have HFr : Hid (Fresh (w.heap.size + 1) w2 (d.nodes.take (k + 1)) (fun i => if i = x.id then w1.heap.size else ad i)) := by
                have f1 : Fresh (w.heap.size + 1) w1 (d.nodes.take k) ad := (hfr.out.below ((Below.refl _ _).alloc (Nat.le_refl _) _)).below hb1
                have f2 : Fresh (w.heap.size + 1) (w1.alloc (.cells #[.int .i64 x.id, .int .i64 x.kind, .int .i64 x.attr, .string x.text, .pointer none, .slice none 0 0] 92)) (d.nodes.take k ++ [x]) (fun i => if i = x.id then w1.heap.size else ad i) :=
                  (f1.below ((Below.refl _ _).alloc (Nat.le_refl _) _)).snoc HNi.out (by omega) (fun y hy => by have := f1.lt hy; omega) (alloc_new w1 _)
                unfold Hid; rw [HTK.out]
                refine f2.heap fun y hy => hgr2.block _ (f2.lt hy) ?_
                intro e
                have := ownsMap_far (hm1.alloc _) (f2.node y hy)
                simp at e; exact this e
              clear hown2 hgr2 hbx1 hbx2 hm1 hown hcx hfx
              go_wp2_with fail
              go_roundw
              case rel => exact ⟨k + 1, _, by omega, by go_num, by rw [HLast.out], HSe, HFr, HPM.out, hbr2⟩
              case measure => simp [intOf]; omega
        · have hkn : k = d.nodes.length := by omega
          have HB : Hid (Base d) := by
            have hfine := hse.out.fine
            have hrise := hse.out.rise
            rw [List.take_of_length_le (by omega)] at hfine hrise
            exact ⟨by omega, by omega, hB'.1, hB'.2, hfine, hrise⟩
          have HFr : Hid (Fresh w.heap.size wr d.nodes ad) := by
            have h := hfr.out
            rw [List.take_of_length_le (by omega)] at h
            exact ⟨fun x hx => by have := h.base x hx; omega, h.node, h.inj⟩
          rw [List.take_of_length_le (by omega)] at hpm
          have HPM := hide hpm
          clear hpm hfr hse hkn
          go_wp2_with fail
          go_ret2
          exact .inl ⟨_, _, ad, rfl, HB.out, HFr.out, HPM.out, by omega, ((Below.refl _ _).alloc (Nat.le_refl _) _).trans (hbr.mono (by omega))⟩
end Go.Proofs.YtmcopoonnhcdjaaDoor

namespace Go.Proofs.YtmcopoonnhcdjaaDoor
open Go.RowKit

/-- up: the parent that a node hangs on; kd: its kids so far; kv: the value of its list of kids. -/
structure Hung (n₀ : Nat) (W : World) (l : List PNode) (ad : Int → Nat) (up : Int → Option Int) (kd : Int → List Int) (kv : Int → Value) : Prop where
  base : ∀ x ∈ l, n₀ ≤ ad x.id
  node : ∀ x ∈ l, W.heap[ad x.id]? = some (.cells #[.int .i64 x.id, .int .i64 x.kind, .int .i64 x.attr, .string x.text, ptrTo ((up x.id).map ad), kv x.id] 92 (0, 0))
  row : ∀ x ∈ l, W.ownsRow n₀ 75 1 (kv x.id) (kd x.id).length ((kd x.id).map fun k => ptrTo (some (ad k)))
  inj : ∀ x ∈ l, ∀ y ∈ l, ad x.id = ad y.id → x.id = y.id
  apart : ∀ x ∈ l, ∀ y ∈ l, x.id ≠ y.id → (kv x.id).ownBlock = none ∨ (kv x.id).ownBlock ≠ (kv y.id).ownBlock

theorem Fresh.hung {n₀ : Nat} {W : World} {l : List PNode} {ad : Int → Nat} (h : Fresh n₀ W l ad) : Hung n₀ W l ad (fun _ => none) (fun _ => []) (fun _ => .slice none 0 0) where
  base := h.base
  node := h.node
  row := fun _ _ => World.ownsRow_nil _ _ _ _
  inj := h.inj
  apart := fun _ _ _ _ _ => .inl rfl

section
variable {n₀ : Nat} {W W' w1 : World} {l : List PNode} {ad : Int → Nat} {up : Int → Option Int} {kd : Int → List Int} {kv : Int → Value}

theorem Hung.lt (h : Hung n₀ W l ad up kd kv) {x : PNode} (hx : x ∈ l) : ad x.id < W.heap.size := (Array.getElem?_eq_some_iff.1 (h.node x hx)).1

theorem Hung.below (h : Hung n₀ W l ad up kd kv) (hb : Below W.heap.size W W') : Hung n₀ W' l ad up kd kv where
  base := h.base
  node := fun x hx => (hb.block _ (h.lt hx)).trans (h.node x hx)
  row := fun x hx => ownsRow_below (h.row x hx) hb
  inj := h.inj
  apart := h.apart

theorem Hung.setUp (h : Hung n₀ W l ad up kd kv) {i : Int} (p : Int) (hi : i ∈ idsOf l) : Hung n₀ (W.setCell ⟨ad i, 4, none⟩ (ptrTo (some (ad p)))) l ad (fun j => if j = i then some p else up j) kd kv := by
  obtain ⟨z, hz, rfl⟩ := List.mem_map.1 hi
  refine ⟨h.base, fun y hy => ?_, fun y hy => ?_, h.inj, h.apart⟩
  · by_cases e : y.id = z.id
    · rw [e, heap_setCell_same _ _ _ _ _ _ (h.node z hz)]
      have hyz := h.node y hy
      rw [e, h.node z hz] at hyz
      simp only [Option.some.injEq, Obj.cells.injEq] at hyz
      rw [hyz.1]
      simp [List.setIfInBounds_toArray]
    · rw [heap_setCell_other _ _ _ _ (fun e' => e (h.inj y hy z hz e')), h.node y hy]
      simp [e]
  · exact ownsRow_setCell_other (h.row y hy) (own_other (h.row y hy) (h.node z hz) (by decide)) _

theorem Hung.append (h : Hung n₀ W l ad up kd kv) {x : PNode} (hx : x ∈ l) {i : Int} {g cap : Nat}
    (hown : w1.ownsRow n₀ 75 1 (.slice (some ⟨g, 0, none⟩) ((kd x.id).length + 1) cap) ((kd x.id).length + 1) ((kd x.id).map (fun k => ptrTo (some (ad k))) ++ [ptrTo (some (ad i))]))
    (hgrow : W.grownBy w1 (kv x.id).ownBlock) (hat : (kv x.id).ownBlock = some g ∨ g = W.heap.size) :
    Hung n₀ (w1.setCell ⟨ad x.id, 5, none⟩ (.slice (some ⟨g, 0, none⟩) ((kd x.id).length + 1) cap)) l ad up (fun j => if j = x.id then kd j ++ [i] else kd j) (fun j => if j = x.id then .slice (some ⟨g, 0, none⟩) ((kd x.id).length + 1) cap else kv j) := by
  have hnode1 : ∀ y ∈ l, w1.heap[ad y.id]? = some (.cells #[.int .i64 y.id, .int .i64 y.kind, .int .i64 y.attr, .string y.text, ptrTo ((up y.id).map ad), kv y.id] 92 (0, 0)) := fun y hy =>
    (hgrow.block _ (h.lt hy) (fun e => own_other (h.row x hx) (h.node y hy) (by decide) e.symm)).trans (h.node y hy)
  refine ⟨h.base, fun y hy => ?_, fun y hy => ?_, h.inj, fun y hy z hz hne => ?_⟩
  · by_cases e : y.id = x.id
    · have hyx := h.node y hy
      rw [e, h.node x hx] at hyx
      simp only [Option.some.injEq, Obj.cells.injEq] at hyx
      rw [e, heap_setCell_same _ _ _ _ _ _ (hnode1 x hx), hyx.1]
      simp [List.setIfInBounds_toArray]
    · rw [heap_setCell_other _ _ _ _ (fun e' => e (h.inj y hy x hx e')), hnode1 y hy]
      simp [e]
  · by_cases e : y.id = x.id
    · rw [e, if_pos rfl, if_pos rfl]
      refine ownsRow_setCell_other ?_ (own_other hown (hnode1 x hx) (by decide)) _
      simpa using hown
    · rw [if_neg e, if_neg e]
      have h1 := (h.row y hy).kept hgrow (h.apart y hy x hx e)
      exact ownsRow_setCell_other h1 (own_other h1 (hnode1 x hx) (by decide)) _
  · by_cases e : y.id = x.id
    · have ez : z.id ≠ x.id := fun e' => hne (e.trans e'.symm)
      rw [if_pos e, if_neg ez]
      right
      intro e2
      rcases hat with hg | hg
      · rcases h.apart z hz x hx ez with h0 | h0
        · rw [h0] at e2; cases e2
        · exact h0 (e2.symm.trans hg.symm)
      · have := ((h.row z hz).lt g e2.symm).2
        omega
    · rw [if_neg e]
      by_cases ez : z.id = x.id
      · rw [if_pos ez]
        cases hb : (kv y.id).ownBlock with
        | none => exact .inl rfl
        | some gy =>
          right
          intro e2
          simp only [Value.ownBlock, Option.some.injEq] at e2
          rcases hat with hg | hg
          · rcases h.apart y hy x hx e with h0 | h0
            · rw [h0] at hb; cases hb
            · exact h0 (by rw [hb, hg, e2])
          · have := ((h.row y hy).lt gy hb).2
            omega
      · rw [if_neg ez]; exact h.apart y hy z hz hne
end
end Go.Proofs.YtmcopoonnhcdjaaDoor

namespace Go.Proofs.YtmcopoonnhcdjaaDoor
open Go.RowKit

/-- What holds when so many nodes are hung with all their kids, and the next one with so many of its own. -/
structure HangInv (l : List PNode) (k m : Nat) (up : Int → Option Int) (kd : Int → List Int) : Prop where
  there : ∀ j ∈ allKids (l.take k) ++ (l[k]?.getD nodeNil).kids.take m, j ∈ idsOf l
  once : (allKids (l.take k) ++ (l[k]?.getD nodeNil).kids.take m).Nodup
  done : ∀ j, j < k → kd (l[j]?.getD nodeNil).id = (l[j]?.getD nodeNil).kids
  cur : k < l.length → kd (l[k]?.getD nodeNil).id = (l[k]?.getD nodeNil).kids.take m
  rest : ∀ j, k < j → j < l.length → kd (l[j]?.getD nodeNil).id = []
  upNone : ∀ i, up i = none ↔ i ∉ allKids (l.take k) ++ (l[k]?.getD nodeNil).kids.take m
  upKid : ∀ i p, up i = some p → i ∈ kidsAt l p

theorem HangInv.start (l : List PNode) : HangInv l 0 0 (fun _ => none) (fun _ => []) :=
  ⟨by simp [allKids], by simp [allKids], fun _ h => by omega, by simp, by simp, by simp [allKids], by simp⟩

theorem id_inj {l : List PNode} (hr : (idsOf l).Pairwise (· < ·)) {i j : Nat} (hi : i < l.length) (hj : j < l.length) (he : (l[i]?.getD nodeNil).id = (l[j]?.getD nodeNil).id) : i = j := by
  rcases Nat.lt_trichotomy i j with h | h | h
  · have := pw_at hr h (by rw [idsOf_len]; exact hj); simp [idsOf] at this; simp [hi, hj] at he; omega
  · exact h
  · have := pw_at hr h (by rw [idsOf_len]; exact hi); simp [idsOf] at this; simp [hi, hj] at he; omega

theorem HangInv.kid {l : List PNode} {k m : Nat} {up : Int → Option Int} {kd : Int → List Int} (h : HangInv l k m up kd) (hr : (idsOf l).Pairwise (· < ·)) (hk : k < l.length) (hm : m < (l[k]?.getD nodeNil).kids.length)
    (h1 : (l[k]?.getD nodeNil).kids[m]?.getD 0 ∈ idsOf l) (h2 : up ((l[k]?.getD nodeNil).kids[m]?.getD 0) = none) :
    HangInv l k (m + 1) (fun j => if j = (l[k]?.getD nodeNil).kids[m]?.getD 0 then some (l[k]?.getD nodeNil).id else up j) (fun j => if j = (l[k]?.getD nodeNil).id then kd j ++ [(l[k]?.getD nodeNil).kids[m]?.getD 0] else kd j) := by
  have hno := (h.upNone _).1 h2
  have hx : l[k]?.getD nodeNil ∈ l := by simp [hk]
  have hin : (l[k]?.getD nodeNil).kids[m]?.getD 0 ∈ kidsAt l (l[k]?.getD nodeNil).id := by
    rw [kidsAt_of hr hx, List.getElem?_eq_getElem hm]; exact List.getElem_mem hm
  have hsn := int_snoc hm
  generalize hy : (l[k]?.getD nodeNil).kids[m]?.getD 0 = y at *
  have e1 : allKids (l.take k) ++ (l[k]?.getD nodeNil).kids.take (m + 1) = (allKids (l.take k) ++ (l[k]?.getD nodeNil).kids.take m) ++ [y] := by rw [hsn, List.append_assoc]
  refine ⟨?_, ?_, fun j hj => ?_, fun _ => ?_, fun j h3 h4 => ?_, fun i => ?_, fun i p hp => ?_⟩
  · rw [e1]; intro j hj; rcases List.mem_append.1 hj with hj | hj
    · exact h.there j hj
    · simp at hj; subst hj; exact h1
  · rw [e1, List.nodup_append]; exact ⟨h.once, by simp, by intro a ha b hb e; simp at hb; subst hb; subst e; exact hno ha⟩
  · have := fun e => id_inj hr (by omega) hk e (i := j)
    rw [if_neg (fun e => by have := this e; omega)]; exact h.done j hj
  · rw [if_pos rfl, h.cur hk, hsn]
  · have := fun e => id_inj hr h4 hk e
    rw [if_neg (fun e => by have := this e; omega)]; exact h.rest j h3 h4
  · rw [e1]
    by_cases e : i = y
    · subst e; simp
    · rw [if_neg e, h.upNone]; simp [e]
  · by_cases e : i = y
    · subst e; rw [if_pos rfl] at hp; cases hp; exact hin
    · rw [if_neg e] at hp; exact h.upKid i p hp

theorem HangInv.next {l : List PNode} {k m : Nat} {up : Int → Option Int} {kd : Int → List Int} (h : HangInv l k m up kd) (hk : k < l.length) (hm : (l[k]?.getD nodeNil).kids.length ≤ m) : HangInv l (k + 1) 0 up kd := by
  have e1 : allKids (l.take (k + 1)) ++ (l[k + 1]?.getD nodeNil).kids.take 0 = allKids (l.take k) ++ (l[k]?.getD nodeNil).kids.take m := by
    rw [kids_snoc hk, List.take_of_length_le (l := (l[k]?.getD nodeNil).kids) hm]; simp
  refine ⟨by rw [e1]; exact h.there, by rw [e1]; exact h.once, fun j hj => ?_, fun hlt => ?_, fun j h3 h4 => h.rest j (by omega) h4, by rw [e1]; exact h.upNone, h.upKid⟩
  · rcases Nat.lt_succ_iff_lt_or_eq.1 hj with hlt | rfl
    · exact h.done j hlt
    · rw [h.cur hk, List.take_of_length_le hm]
  · rw [h.rest (k + 1) (by omega) hlt]; simp

theorem kid_new {l : List PNode} (hn : (allKids l).Nodup) {k m : Nat} (hk : k < l.length) (hm : m < (l[k]?.getD nodeNil).kids.length) :
    (l[k]?.getD nodeNil).kids[m]?.getD 0 ∉ allKids (l.take k) ++ (l[k]?.getD nodeNil).kids.take m := by
  have e1 : l = l.take k ++ (l[k]?.getD nodeNil) :: l.drop (k + 1) := by simp [hk]
  have e2 : (l[k]?.getD nodeNil).kids = (l[k]?.getD nodeNil).kids.take m ++ (l[k]?.getD nodeNil).kids[m]?.getD 0 :: (l[k]?.getD nodeNil).kids.drop (m + 1) := by
    rw [List.getElem?_eq_getElem hm]; simp
  have e3 : allKids l = allKids (l.take k) ++ ((l[k]?.getD nodeNil).kids ++ allKids (l.drop (k + 1))) := by
    conv => lhs; rw [e1]
    simp [allKids]
  have e : allKids l = (allKids (l.take k) ++ (l[k]?.getD nodeNil).kids.take m) ++ ((l[k]?.getD nodeNil).kids[m]?.getD 0 :: ((l[k]?.getD nodeNil).kids.drop (m + 1) ++ allKids (l.drop (k + 1)))) := by
    rw [e3]
    conv => lhs; rw [e2]
    simp
  rw [e, List.nodup_append] at hn
  intro hmem
  exact hn.2.2 _ hmem _ (List.mem_cons_self) rfl

theorem row_cells {w : World} {base : Nat} {e : TypeId} {size : Nat} {v : Value} {n : Nat} {xs : List Value} (h : w.ownsRow base e size v n xs) {g : Nat} (hg : v.ownBlock = some g) : ∃ (c : Nat) (cur : Array Value) (u : Nat), w.heap[g]? = some (.cells cur e (0, 0)) ∧ c = u := by
  obtain ⟨_, ⟨rfl, _⟩ | ⟨g', cap, cur, rfl, _, hh, _⟩⟩ := h
  · cases hg
  · simp only [Value.ownBlock, Option.some.injEq] at hg
    subst hg
    exact ⟨0, cur, 0, hh, rfl⟩

def HangPost (base mb n : Nat) (w : World) (l : List PNode) (ad : Int → Nat) (e : Ending) (w' : World) : Prop :=
  (∃ (up : Int → Option Int) (kv : Int → Value), e = .returned (.bool true) ∧ (∀ j ∈ allKids l, j ∈ idsOf l) ∧ (allKids l).Nodup ∧ Hung base w' l ad up (kidsAt l) kv ∧ (∀ i, up i = none ↔ i ∉ allKids l) ∧ (∀ i p, up i = some p → i ∈ kidsAt l p) ∧ PtrMap w' mb n (idMap l ad) ∧ Below base w w') ∨
  (e = .returned (.bool false) ∧ ¬ ((∀ j ∈ allKids l, j ∈ idsOf l) ∧ (allKids l).Nodup) ∧ Below base w w')

theorem Hung.kids {n₀ : Nat} {W : World} {l : List PNode} {ad : Int → Nat} {up : Int → Option Int} {kd kd' : Int → List Int} {kv : Int → Value} (h : Hung n₀ W l ad up kd kv) (he : ∀ x ∈ l, kd x.id = kd' x.id) : Hung n₀ W l ad up kd' kv :=
  ⟨h.base, h.node, fun x hx => by rw [← he x hx]; exact h.row x hx, h.inj, h.apart⟩

theorem hangInfo : (Tryd.prog.info? 75).map (fun i => (i.zero, i.size, i.bytes)) = some (some (.pointer none), 1, 8) := by kernel_rfl

set_option maxHeartbeats 1000000 in
set_option maxRecDepth 100000 in
theorem hangUp_any (n₀ base mb n : Nat) (s : Value) (l : List PNode) (ad : Int → Nat) (w : World) (hN : NodesAt n₀ w s l) (hn : n₀ ≤ base) (hbase : base ≤ w.heap.size) (hl : l.length ≤ 40) (hkl : ∀ x ∈ l, x.kids.length ≤ 12) (hid : ∀ x ∈ l, Wf64 x.id) (hwf : ∀ x ∈ l, ∀ k ∈ x.kids, Wf64 k) (hr : (idsOf l).Pairwise (· < ·))
    (hH : Hung base w l ad (fun _ => none) (fun _ => []) (fun _ => .slice none 0 0)) (hM : PtrMap w mb n (idMap l ad)) :
    Calls Tryd.prog 77 #[.map (some mb), s] w (HangPost base mb n w l ad) := by
  obtain ⟨i0, hi, hz0, hz1, hz2⟩ := info_parts hangInfo
  have HKL := hide hkl
  have HWF := hide hwf
  have HID := hide hid
  have HRise := hide hr
  clear hkl hwf hr hid
  obtain ⟨a, cap, rfl, hk'⟩ := hN
  go_enter Tryd.func77, Tryd.ntmps77
  go_wp2_with fail
  go_loopw [13] (fun i' wr => ∃ (k : Nat) (up : Int → Option Int) (kd : Int → List Int) (kv : Int → Value), k ≤ l.length ∧ i' = .int .i64 k ∧ Hid (HangInv l k 0 up kd) ∧ Hid (Hung base wr l ad up kd kv) ∧ Hid (PtrMap wr mb n (idMap l ad)) ∧ Below base w wr) (fun i' _ => l.length - (intOf i').toNat)
  case atStart => exact ⟨0, _, _, _, Nat.zero_le _, rfl, HangInv.start l, hH, hM, Below.refl _ _⟩
  case round =>
    obtain ⟨wo, hwo⟩ : ∃ wo, wo = wr := ⟨_, rfl⟩
    subst hwo
    obtain ⟨k, up, kd, kv, hkl', rfl, hinv, hhg, hpm, hbr⟩ := hrel
    clear hH hM
    have hsz := hbr.size
    by_cases hlt : k < l.length
    · obtain ⟨b, off, rfl, hb, hc⟩ := hk'.resolve_left (by intro e; simp [e] at hlt)
      have hAt := (hc k hlt).below hb hn (hbr.mono hn)
      have g0 := hAt.c0
      have g1 := hAt.c1
      have g2 := hAt.c2
      have g3 := hAt.c3
      obtain ⟨vk, g4, hik⟩ := hAt.c4
      obtain ⟨ak, ck, rfl, hka⟩ := hik
      have HX : Hid ((l[k]?.getD nodeNil) ∈ l) := by simp [Hid, hlt]
      have hkx := HKL.out _ HX.out
      have hix : idMap l ad (l[k]?.getD nodeNil).id = some (ad (l[k]?.getD nodeNil).id) := by unfold idMap; rw [if_pos (show (l[k]?.getD nodeNil).id ∈ idsOf l from List.mem_map_of_mem HX.out)]
      have hlook := fun o => ((hpm.out.alloc o).look (HID.out _ HX.out))
      rw [hix] at hlook
      simp only [ptrTo, Option.map_some] at hlook
      have HWx := hide (HWF.out _ HX.out)
      clear hAt hc hk' HKL HWF hix
      generalize hxe : l[k]?.getD nodeNil = x at *
      have HXe := hide hxe
      clear hxe
      go_wp2_with fail
      go_loopw [24] (fun i' wq => ∃ (m : Nat) (up : Int → Option Int) (kd : Int → List Int) (kv : Int → Value), m ≤ x.kids.length ∧ i' = .int .i64 m ∧ Hid (HangInv l k m up kd) ∧ Hid (Hung base wq l ad up kd kv) ∧ Hid (PtrMap wq mb n (idMap l ad)) ∧ Below base w wq) (fun i' _ => x.kids.length - (intOf i').toNat)
      case atStart => exact ⟨0, up, kd, kv, Nat.zero_le _, rfl, hinv, hhg.out.below ((Below.refl _ _).alloc (Nat.le_refl _) _), hpm.out.alloc _, hbr.alloc (by omega) _⟩
      case round =>
        clear hlook hinv hhg hpm
        obtain ⟨m, up, kd, kv, hm, rfl, hinv, hhg, hpm, hbq⟩ := hrel
        have hszq := hbq.size
        by_cases hlm : m < x.kids.length
        · obtain ⟨bk, offk, rfl, hbk, hck⟩ := hka.resolve_left (by intro e; simp [e] at hlm)
          have hcm0 : w.cell? ⟨bk, offk + m, none⟩ = some (.int .i64 (x.kids[m]?.getD 0)) := (hbr.cell (p := ⟨bk, offk + m, none⟩) hbk).symm.trans (hck m hlm)
          have hcm := (hbq.cell (p := ⟨bk, offk + m, none⟩) hbk).trans hcm0
          have hbkr : bk < wr.heap.size := by omega
          have hwy : Wf64 (x.kids[m]?.getD 0) := HWx.out _ (by rw [List.getElem?_eq_getElem hlm]; exact List.getElem_mem hlm)
          have hlook := hpm.out.look hwy
          have HMy : Hid (x.kids[m]?.getD 0 ∈ allKids l) := List.mem_flatMap.2 ⟨x, HX.out, by rw [List.getElem?_eq_getElem hlm]; exact List.getElem_mem hlm⟩
          have HKid : Hid (x.kids[m]?.getD 0 ∈ idsOf l → up (x.kids[m]?.getD 0) = none → HangInv l k (m + 1) (fun j => if j = x.kids[m]?.getD 0 then some x.id else up j) (fun j => if j = x.id then kd j ++ [x.kids[m]?.getD 0] else kd j)) := by
            intro h1 h2
            have h := HangInv.kid hinv.out HRise.out hlt (by rw [HXe.out]; exact hlm) (by rw [HXe.out]; exact h1) (by rw [HXe.out]; exact h2)
            rw [HXe.out] at h; exact h
          have HNew : Hid ((allKids l).Nodup → up (x.kids[m]?.getD 0) = none) := by
            intro h
            have h2 := kid_new h hlt (m := m) (by rw [HXe.out]; exact hlm)
            refine (hinv.out.upNone _).2 ?_
            rw [HXe.out] at h2 ⊢; exact h2
          clear hck hka hcm0 hwy
          generalize x.kids[m]?.getD 0 = y at *
          by_cases hin : y ∈ idsOf l
          · rw [show idMap l ad y = some (ad y) from if_pos hin] at hlook
            simp only [ptrTo, Option.map_some] at hlook
            obtain ⟨z, hz, hzy⟩ := List.mem_map.1 hin
            have hnz := hhg.out.node z hz
            rw [hzy] at hnz
            have h4 := cell_of_heap hnz 4
            have hf4 := frozen_of_heap hnz 4
            simp only [List.getElem?_toArray, List.getElem?_cons_succ, List.getElem?_cons_zero] at h4
            have hyl : ad y < wr.heap.size := (Array.getElem?_eq_some_iff.1 hnz).1
            cases hup : up y with
            | some p =>
              rw [hup] at h4
              simp only [Option.map_some, ptrTo] at h4
              have hf : Hid (¬ ((∀ j ∈ allKids l, j ∈ idsOf l) ∧ (allKids l).Nodup)) := fun h => by have := HNew.out h.2; rw [hup] at this; cases this
              clear hup hzy hin
              go_wp2_with fail
              go_ret
              exact .inr ⟨rfl, hf.out, hbq⟩
            | none =>
              rw [hup] at h4
              simp only [Option.map_none, ptrTo] at h4
              have HInv2 := hide (HKid.out hin hup)
              have HUp := hide hup
              have hh1 := hhg.out.setUp x.id hin
              have hn1 := hh1.node x HX.out
              have hx5 := cell_of_heap hn1 5
              have hx6 := cell_of_heap (hhg.out.node x HX.out) 5
              simp only [List.getElem?_toArray, List.getElem?_cons_succ, List.getElem?_cons_zero, ptrTo, Option.map_some] at hx5 hx6
              have hxl := hhg.out.lt HX.out
              have hkl2 : (kd x.id).length ≤ 12 := by
                have := hinv.out.cur hlt
                rw [HXe.out] at this; rw [this, List.length_take]; omega
              have HH1 := hide hh1
              have HPM1 : Hid (PtrMap (wr.setCell ⟨ad y, 4, none⟩ (.pointer (some ⟨ad x.id, 0, none⟩))) mb n (idMap l ad)) := hpm.out.heap (heap_setCell_other _ _ _ _ (fun e => by
                obtain ⟨D, hD, _⟩ := hpm.out
                exact ownsMap_far hD hnz e.symm))
              have hrow := hh1.row x HX.out
              simp only [ptrTo, Option.map_some] at hrow
              clear hh1 hn1 hup hzy hnz HKid HNew
              go_wp2_with (at_builtin; refine wpList_append_lies _ rfl _ _ 90 rfl base 75 i0 (.pointer none) 1 8 Tryd.underlying90 hi hz0 hz1 hz2 rfl (by decide) _ _ _ rfl (hrow.alloc _) ⟨wr.heap.size, 0, none⟩ 1 1 [Value.pointer (some ⟨ad y, 0, none⟩)] rfl rfl ?c1 ?c2 (by decide) (by unfold maxLen; omega) (by omega) (by simp; omega) _ rfl ?_)
              case c1 => have hc1 := cell_one_new (wr.setCell ⟨ad y, 4, none⟩ (.pointer (some ⟨ad x.id, 0, none⟩))) (.pointer (some ⟨ad y, 0, none⟩)) 75; simpa using hc1
              case c2 => intro u hu; simp at hu; subst hu; rfl
              intro g cap2 w1 hown' hgrow hat hltg
              have hA1 := HH1.out.below ((Below.refl _ _).alloc (Nat.le_refl _) (.cells #[.pointer (some ⟨ad y, 0, none⟩)] 75))
              have HH2 : Hid (Hung base (w1.setCell ⟨ad x.id, 5, none⟩ (.slice (some ⟨g, 0, none⟩) ((kd x.id).length + 1) cap2)) l ad (fun j => if j = y then some x.id else up j) (fun j => if j = x.id then kd j ++ [y] else kd j) (fun j => if j = x.id then .slice (some ⟨g, 0, none⟩) ((kd x.id).length + 1) cap2 else kv j)) :=
                hA1.append HX.out hown' hgrow (by simpa using hat)
              have hn2 : w1.heap[ad x.id]? = _ := (hgrow.block _ (by simp; omega) (fun e => own_other (hA1.row x HX.out) (hA1.node x HX.out) (by decide) e.symm)).trans (hA1.node x HX.out)
              have hx7 := cell_of_heap hn2 5
              have hf7 := frozen_of_heap hn2 5
              simp only [List.getElem?_toArray, List.getElem?_cons_succ, List.getElem?_cons_zero] at hx7
              have hs1 := hgrow.size
              simp only [World.size_alloc, World.size_setCell] at hs1
              have hby : base ≤ ad y := by obtain ⟨z, hz, rfl⟩ := List.mem_map.1 hin; exact hhg.out.base z hz
              have hbx := hhg.out.base x HX.out
              have HB2 : Hid (Below base w (w1.setCell ⟨ad x.id, 5, none⟩ (.slice (some ⟨g, 0, none⟩) ((kd x.id).length + 1) cap2))) :=
                (((((hbq.setCell (p := ⟨ad y, 4, none⟩) hby _).alloc (by simp; omega) _).grown hgrow (by simp; omega) (fun g hg => (hrow.lt g hg).1))).setCell (p := ⟨ad x.id, 5, none⟩) hbx _)
              have HPM2 : Hid (PtrMap (w1.setCell ⟨ad x.id, 5, none⟩ (.slice (some ⟨g, 0, none⟩) ((kd x.id).length + 1) cap2)) mb n (idMap l ad)) := by
                obtain ⟨D, hD, _⟩ := HPM1.out
                refine ((HPM1.out.alloc _).kept hgrow ?_).heap (heap_setCell_other _ _ _ _ ?_)
                · intro e
                  obtain ⟨_, cur, _, hcur, _⟩ := row_cells hrow e.symm
                  exact ownsMap_far hD hcur rfl
                · intro e
                  exact ownsMap_far hD (HH1.out.node x HX.out) e.symm
              clear hown' hgrow hat hA1 hn2 HH1 HPM1 hrow hhg hpm hinv
              go_wp2_with fail
              go_roundw
              case rel => exact ⟨m + 1, _, _, _, by omega, by go_num, HInv2, HH2, HPM2, HB2.out⟩
              case measure => simp [intOf]; omega
          · rw [show idMap l ad y = none from if_neg hin] at hlook
            simp only [ptrTo, Option.map_none] at hlook
            have hf : Hid (¬ ((∀ j ∈ allKids l, j ∈ idsOf l) ∧ (allKids l).Nodup)) := fun h => hin (h.1 y HMy.out)
            clear hin
            go_wp2_with fail
            go_ret
            exact .inr ⟨rfl, hf.out, hbq⟩
        · have HInv2 : Hid (HangInv l (k + 1) 0 up kd) := hinv.out.next hlt (by rw [HXe.out]; omega)
          clear hka hinv
          go_wp2_with fail
          exact ⟨⟨k + 1, up, kd, kv, by omega, by go_num, HInv2, hhg, hpm, hbq⟩, by simp [intOf]; omega⟩
    · have HInv := hinv.out
      have hkn : k = l.length := by omega
      have e1 : allKids (l.take k) ++ (l[k]?.getD nodeNil).kids.take 0 = allKids l := by rw [List.take_of_length_le (by omega)]; simp
      have h1 := HInv.there
      have h2 := HInv.once
      have h3 := HInv.upNone
      rw [e1] at h1 h2
      have h3' : ∀ i, up i = none ↔ i ∉ allKids l := fun i => by have := h3 i; rwa [e1] at this
      have hk2 : Hung base wo l ad up (kidsAt l) kv := hhg.out.kids fun x hx => by
        obtain ⟨j, hj, rfl⟩ := List.mem_iff_getElem.1 hx
        have := HInv.done j (by omega)
        rw [List.getElem?_eq_getElem hj] at this
        rw [kidsAt_of HRise.out (List.getElem_mem hj)]; exact this
      have HAll : Hid (HangPost base mb n w l ad (.returned (.bool true)) wo) := .inl ⟨up, kv, rfl, h1, h2, hk2, h3', HInv.upKid, hpm.out, hbr⟩
      clear h1 h2 h3 h3' hk2 HInv hinv hhg hpm e1 hk' hkn
      go_wp2_with fail
      go_ret
      exact HAll.out
end Go.Proofs.YtmcopoonnhcdjaaDoor
