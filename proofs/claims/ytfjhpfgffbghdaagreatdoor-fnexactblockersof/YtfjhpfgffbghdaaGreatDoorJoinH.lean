/-
  The program's locks in memory: a box with the tree and a list of locks, each with the pointer to its branch.
  What the program asks of a session and a node, and of a hold, of a tree in memory.
  How the program compares two locks: cmp.Compare, cmp.Or, compareLocks.
  What the program's locksOf answers: a tree and its locks in memory of what is right; a code of all else.
  A block of three cells, written cell by cell.
  Lists of locks in memory, cell by cell.
  The program's sets of numbers: a map of one's own; setOf of no elements, has, add.
-/
import Derived.Test.YtfjhpfgffbghdaaGreatDoorJoinE
import Derived.Deep.AppendLies
import Derived.Test.YtfjhpfgffbghdaaGreatDoorJoinG
import Derived.Deep.RegionHeld3
import Derived.Test.YtfjhpfgffbghdaaGreatDoorJoinC
import Derived.Deep.RegionLaw
import Derived.Test.YtfjhpfgffbghdaaGreatDoorJoinA
import Derived.Maps.OwnSet
import Derived.Maps.Views
namespace Go.Proofs.YtfjhpfgffbghdaaGreatDoor
open Go.RowKit

/-- A lock's cells. -/
def lockCells (ad : Int → Nat) (x : PHold) : List Value := [.int .i64 x.session, .int .i64 x.mode, .pointer (some ⟨ad x.node, 0, none⟩)]
def lockVals (ad : Int → Nat) (L : List PHold) : List Value := L.flatMap (lockCells ad)
@[reducible] def lockVal (ad : Int → Nat) (x : PHold) : Value := .agg #[.int .i64 x.session, .int .i64 x.mode, .pointer (some ⟨ad x.node, 0, none⟩)]

theorem lockVals_cons (ad : Int → Nat) (x : PHold) (L : List PHold) : lockVals ad (x :: L) = lockCells ad x ++ lockVals ad L := rfl
theorem lockVals_snoc (ad : Int → Nat) (L : List PHold) (x : PHold) : lockVals ad (L ++ [x]) = lockVals ad L ++ lockCells ad x := by simp [lockVals]

theorem lockVals_get (ad : Int → Nat) : ∀ {L : List PHold} {j o : Nat}, j < L.length → o < 3 → (lockVals ad L)[j * 3 + o]? = (lockCells ad (L[j]?.getD holdNil))[o]?
  | [], _, _, h, _ => by simp at h
  | x :: L, 0, o, _, ho => by
    rw [lockVals_cons, Nat.zero_mul, Nat.zero_add, List.getElem?_append_left (by simp [lockCells]; omega)]; rfl
  | x :: L, j + 1, o, h, ho => by
    have hl : (lockCells ad x).length = 3 := rfl
    rw [lockVals_cons, List.getElem?_append_right (by rw [hl]; omega), hl, show (j + 1) * 3 + o - 3 = j * 3 + o by omega]
    have := lockVals_get ad (L := L) (j := j) (o := o) (by simpa using h) ho
    rw [this]; rfl

/-- Three cells are a lock. -/
structure LockAt (w : World) (ad : Int → Nat) (b o : Nat) (x : PHold) : Prop where
  c0 : w.cell? ⟨b, o, none⟩ = some (.int .i64 x.session)
  c1 : w.cell? ⟨b, o + 1, none⟩ = some (.int .i64 x.mode)
  c2 : w.cell? ⟨b, o + 2, none⟩ = some (.pointer (some ⟨ad x.node, 0, none⟩))

theorem LockAt.below {n₀ : Nat} {w w' : World} {ad : Int → Nat} {b o : Nat} {x : PHold} (h : LockAt w ad b o x) (hlt : b < n₀) (hb : Below n₀ w w') : LockAt w' ad b o x where
  c0 := (hb.cell (p := ⟨b, o, none⟩) hlt).trans h.c0
  c1 := (hb.cell (p := ⟨b, o + 1, none⟩) hlt).trans h.c1
  c2 := (hb.cell (p := ⟨b, o + 2, none⟩) hlt).trans h.c2

/-- The box of locks at a block: the tree, and the locks of a list. -/
def LocksAt (n₁ : Nat) (w : World) (lb tb : Nat) (ad : Int → Nat) (L : List PHold) : Prop :=
  lb < n₁ ∧ w.cell? ⟨lb, 0, none⟩ = some (.pointer (some ⟨tb, 0, none⟩)) ∧ ∃ a cap, w.cell? ⟨lb, 1, none⟩ = some (.slice a L.length cap) ∧ (L = [] ∨ ∃ b, a = some ⟨b, 0, none⟩ ∧ b < n₁ ∧ ∀ j, j < L.length → LockAt w ad b (j * 3) (L[j]?.getD holdNil))

theorem LocksAt.below {n₁ n₂ : Nat} {w w' : World} {lb tb : Nat} {ad : Int → Nat} {L : List PHold} (h : LocksAt n₁ w lb tb ad L) (hn : n₁ ≤ n₂) (hb : Below n₁ w w') : LocksAt n₂ w' lb tb ad L := by
  obtain ⟨h0, h1, a, cap, h2, h3⟩ := h
  refine ⟨by omega, (hb.cell (p := ⟨lb, 0, none⟩) h0).trans h1, a, cap, (hb.cell (p := ⟨lb, 1, none⟩) h0).trans h2, h3.imp id ?_⟩
  rintro ⟨b, rfl, hlt, hc⟩
  exact ⟨b, rfl, by omega, fun j hj => (hc j hj).below hlt hb⟩

theorem locks_of_row {w : World} {base lb tb cap : Nat} {T e : TypeId} {ad : Int → Nat} {L : List PHold} {v : Value} (hbox : w.heap[lb]? = some (.cells #[.pointer (some ⟨tb, 0, none⟩), v] T (0, 0))) (hv : ∃ a, v = .slice a L.length cap) (h : w.ownsRow base e 3 v L.length (lockVals ad L)) : LocksAt w.heap.size w lb tb ad L := by
  obtain ⟨a, rfl⟩ := hv
  have h' := h
  refine ⟨(Array.getElem?_eq_some_iff.1 hbox).1, cell_of_heap hbox 0, a, cap, cell_of_heap hbox 1, ?_⟩
  obtain ⟨_, ⟨e1, h0⟩ | ⟨g, cap', cur, e1, hg, hh, _⟩⟩ := h
  · exact .inl (List.eq_nil_of_length_eq_zero h0)
  · simp only [Value.slice.injEq, true_and] at e1
    obtain ⟨rfl, rfl⟩ := e1
    refine .inr ⟨g, rfl, (Array.getElem?_eq_some_iff.1 hh).1, fun j hj => ?_⟩
    have G : ∀ o u, o < 3 → (lockCells ad (L[j]?.getD holdNil))[o]? = some u → w.cell? ⟨g, j * 3 + o, none⟩ = some u := fun o u ho hu => by
      have := h'.cells (g := g) rfl (j * 3 + o) u ((lockVals_get ad hj ho).trans hu)
      rwa [Go.WideShapes.add_plain, Nat.zero_add] at this
    exact ⟨by simpa using G 0 _ (by decide) rfl, G 1 _ (by decide) rfl, G 2 _ (by decide) rfl⟩

/-- A lock of an owned row, cell by cell. -/
theorem row_lockAt {w : World} {base g cap n : Nat} {e : TypeId} {ad : Int → Nat} {L : List PHold} (h : w.ownsRow base e 3 (.slice (some ⟨g, 0, none⟩) n cap) n (lockVals ad L)) {j : Nat} (hj : j < L.length) : LockAt w ad g (j * 3) (L[j]?.getD holdNil) := by
  have G : ∀ o u, o < 3 → (lockCells ad (L[j]?.getD holdNil))[o]? = some u → w.cell? ⟨g, j * 3 + o, none⟩ = some u := fun o u ho hu => by
    have := h.cells (g := g) rfl (j * 3 + o) u ((lockVals_get ad hj ho).trans hu)
    rwa [Go.WideShapes.add_plain, Nat.zero_add] at this
  exact ⟨by simpa using G 0 _ (by decide) rfl, G 1 _ (by decide) rfl, G 2 _ (by decide) rfl⟩

theorem row_block {w : World} {base n size : Nat} {e : TypeId} {v : Value} {xs : List Value} (h : w.ownsRow base e size v n xs) (hn : 0 < n) : ∃ g cap, v = .slice (some ⟨g, 0, none⟩) n cap ∧ g < w.heap.size ∧ base ≤ g := by
  obtain ⟨_, ⟨rfl, h0⟩ | ⟨g, cap, cur, rfl, hg, hh, _⟩⟩ := h
  · omega
  · exact ⟨g, cap, rfl, (Array.getElem?_eq_some_iff.1 hh).1, hg⟩

theorem slice_form {w : World} {B : Nat} {e : TypeId} {size : Nat} {v : Value} {n : Nat} {xs : List Value} (h : w.ownsRow B e size v n xs) : ∃ a cap, v = .slice a n cap := by
  obtain ⟨_, ⟨rfl, rfl⟩ | ⟨g, cap, cur, rfl, _⟩⟩ := h
  · exact ⟨none, 0, rfl⟩
  · exact ⟨_, cap, rfl⟩

/-- The box of locks, and the list in it, which is its own. -/
def LocksOwn (lo : Nat) (w : World) (lb tb : Nat) (ad : Int → Nat) (L : List PHold) : Prop :=
  lo ≤ lb ∧ ∃ u, w.heap[lb]? = some (.cells #[.pointer (some ⟨tb, 0, none⟩), u] 101 (0, 0)) ∧ w.ownsRow (lb + 1) 109 3 u L.length (lockVals ad L)

theorem LocksOwn.at {lo : Nat} {w : World} {lb tb : Nat} {ad : Int → Nat} {L : List PHold} (h : LocksOwn lo w lb tb ad L) : LocksAt w.heap.size w lb tb ad L := by
  obtain ⟨_, u, hb, hr⟩ := h
  obtain ⟨a, c, rfl⟩ := slice_form hr
  exact locks_of_row hb ⟨a, rfl⟩ hr

theorem LocksOwn.below {lo lo' : Nat} {w w' : World} {lb tb : Nat} {ad : Int → Nat} {L : List PHold} (h : LocksOwn lo w lb tb ad L) (hl : lo' ≤ lo) (hb : Below w.heap.size w w') : LocksOwn lo' w' lb tb ad L := by
  obtain ⟨h0, u, h1, h2⟩ := h
  exact ⟨by omega, u, (hb.block lb (Array.getElem?_eq_some_iff.1 h1).1).trans h1, ownsRow_below h2 hb⟩

theorem LocksOwn.lt {lo : Nat} {w : World} {lb tb : Nat} {ad : Int → Nat} {L : List PHold} (h : LocksOwn lo w lb tb ad L) : lo ≤ lb ∧ lb < w.heap.size := by
  obtain ⟨h0, u, h1, _⟩ := h
  exact ⟨h0, (Array.getElem?_eq_some_iff.1 h1).1⟩

/-- Other blocks below the box may be written. -/
theorem LocksOwn.aside {lo : Nat} {w w' : World} {lb tb b : Nat} {ad : Int → Nat} {L : List PHold} (h : LocksOwn lo w lb tb ad L) (hlt : b < lo) (ho : ∀ m, m ≠ b → w'.heap[m]? = w.heap[m]?) : LocksOwn lo w' lb tb ad L := by
  obtain ⟨h0, u, h1, h2⟩ := h
  refine ⟨h0, u, (ho _ (by omega)).trans h1, ?_⟩
  obtain ⟨hl, h3 | ⟨g, cap, cur, e, hg, hh, h4⟩⟩ := h2
  · exact ⟨hl, .inl h3⟩
  · exact ⟨hl, .inr ⟨g, cap, cur, e, hg, (ho _ (by omega)).trans hh, h4⟩⟩

/-- A branch's number in memory. -/
theorem Grown.idCell {n₀ : Nat} {W : World} {d : PDoc} {tb : Nat} {ad : Int → Nat} {up : Int → Option Int} {kv : Int → Value} (h : Grown n₀ W d tb ad up kv) {i : Int} (hi : i ∈ idsOf d.nodes) : W.cell? ⟨ad i, 0, none⟩ = some (.int .i64 i) ∧ ad i < W.heap.size := by
  obtain ⟨x, hx, rfl⟩ := List.mem_map.1 hi
  exact ⟨cell_of_heap (h.hung.node x hx) 0, h.hung.lt hx⟩

/-- The tree lies in blocks from lo to below hi, and stays there. -/
def GrownIn (lo hi : Nat) (w : World) (d : PDoc) (tb : Nat) (ad : Int → Nat) (up : Int → Option Int) (kv : Int → Value) : Prop :=
  ∃ (w1 : World) (b0 : Nat), lo ≤ b0 ∧ Grown b0 w1 d tb ad up kv ∧ w1.heap.size ≤ hi ∧ b0 ≤ tb ∧ ∀ b, b0 ≤ b → b < hi → w.heap[b]? = w1.heap[b]?

theorem Grown.lower {lo lo' : Nat} {w : World} {d : PDoc} {tb : Nat} {ad : Int → Nat} {up : Int → Option Int} {kv : Int → Value} (h : Grown lo w d tb ad up kv) (hl : lo' ≤ lo) : Grown lo' w d tb ad up kv := ⟨h.hung.mono hl, h.upNone, h.upKid, h.top⟩

theorem GrownIn.out {lo hi : Nat} {w : World} {d : PDoc} {tb : Nat} {ad : Int → Nat} {up : Int → Option Int} {kv : Int → Value} (h : GrownIn lo hi w d tb ad up kv) : Grown lo w d tb ad up kv := by
  obtain ⟨w1, b0, hl, g, hs, ht, hk⟩ := h
  have htl := (Array.getElem?_eq_some_iff.1 g.top).1
  refine Grown.lower (lo := b0) ?_ hl
  exact
    { hung :=
        { base := g.hung.base
          node := fun x hx => (hk _ (g.hung.base x hx) (by have := g.hung.lt hx; omega)).trans (g.hung.node x hx)
          row := fun x hx => by
            obtain ⟨hl, h3 | ⟨b, cap, cur, e, hg, hh, h4⟩⟩ := g.hung.row x hx
            · exact ⟨hl, .inl h3⟩
            · exact ⟨hl, .inr ⟨b, cap, cur, e, hg, (hk b hg (by have := (Array.getElem?_eq_some_iff.1 hh).1; omega)).trans hh, h4⟩⟩
          inj := g.hung.inj
          apart := g.hung.apart }
      upNone := g.upNone
      upKid := g.upKid
      top := (hk tb ht (by omega)).trans g.top }

theorem GrownIn.kept {lo hi : Nat} {w w' : World} {d : PDoc} {tb : Nat} {ad : Int → Nat} {up : Int → Option Int} {kv : Int → Value} (h : GrownIn lo hi w d tb ad up kv) (hk : ∀ b, lo ≤ b → b < hi → w'.heap[b]? = w.heap[b]?) : GrownIn lo hi w' d tb ad up kv := by
  obtain ⟨w1, b0, hl, g, hs, ht, h1⟩ := h
  exact ⟨w1, b0, hl, g, hs, ht, fun b h2 h3 => (hk b (by omega) h3).trans (h1 b h2 h3)⟩

theorem GrownIn.below {lo lo' hi : Nat} {w w' : World} {d : PDoc} {tb : Nat} {ad : Int → Nat} {up : Int → Option Int} {kv : Int → Value} (h : GrownIn lo hi w d tb ad up kv) (hl : lo' ≤ lo) (hb : Below hi w w') : GrownIn lo' hi w' d tb ad up kv := by
  obtain ⟨w1, b0, hl0, g, hs, ht, h1⟩ := h
  exact ⟨w1, b0, by omega, g, hs, ht, fun b h2 h3 => (hb.block b h3).trans (h1 b h2 h3)⟩

/-- The code of what is asked of a session and a node of a right document. -/
noncomputable def forCode (d : PDoc) (s i : Int) : Int := by
  classical exact if 1 ≤ s ∧ s ≤ 999 then if i ∈ idsOf d.nodes then 0 else 5 else 4
theorem forCode_range {d : PDoc} {s i : Int} (h : ¬ (1 ≤ s ∧ s ≤ 999)) : forCode d s i = 4 := by unfold forCode; rw [if_neg h]
theorem forCode_none {d : PDoc} {s i : Int} (h : 1 ≤ s ∧ s ≤ 999) (hi : i ∉ idsOf d.nodes) : forCode d s i = 5 := by unfold forCode; rw [if_pos h, if_neg hi]
theorem forCode_ok {d : PDoc} {s i : Int} (h : 1 ≤ s ∧ s ≤ 999) (hi : i ∈ idsOf d.nodes) : forCode d s i = 0 := by unfold forCode; rw [if_pos h, if_pos hi]
theorem forCode_zero {d : PDoc} {s i : Int} (h : forCode d s i = 0) : (1 ≤ s ∧ s ≤ 999) ∧ i ∈ idsOf d.nodes := by
  unfold forCode at h
  split at h
  · rename_i hs
    split at h
    · rename_i hi; exact ⟨hs, hi⟩
    · cases h
  · cases h
theorem lockAsk_for {d : PDoc} {L : List PHold} {s i : Int} (h : heldAsk d L = 0) : lockAsk d L s i = forCode d s i := by unfold lockAsk forCode; rw [if_pos h]

/-- The code of what is asked of a hold of a right document. -/
noncomputable def ofCode (d : PDoc) (x : PHold) : Int := if forCode d x.session x.node = 0 then if 1 ≤ x.mode ∧ x.mode ≤ 5 then 0 else 19 else forCode d x.session x.node
theorem ofCode_zero {d : PDoc} {x : PHold} : ofCode d x = 0 ↔ HoldP d x := by
  unfold ofCode
  constructor
  · intro h
    split at h
    · rename_i h0
      obtain ⟨a, b⟩ := forCode_zero h0
      split at h
      · rename_i hm; exact ⟨a, b, hm⟩
      · cases h
    · rename_i h0; exact absurd h h0
  · rintro ⟨a, b, c⟩
    rw [if_pos (forCode_ok a b), if_pos c]
theorem holdAsk_of {d : PDoc} {L : List PHold} {x : PHold} (h : heldAsk d L = 0) : holdAsk d L x = ofCode d x := by unfold holdAsk ofCode; rw [lockAsk_for h]
end Go.Proofs.YtfjhpfgffbghdaaGreatDoor

namespace Go.Proofs.YtfjhpfgffbghdaaGreatDoor
open Go.RowKit Go.Shelf

theorem between_no {a lo hi : Int} (h : ¬ (lo ≤ a ∧ a ≤ hi)) : inB a lo hi = false := by rw [← Bool.not_eq_true, inB_iff]; exact h

set_option maxHeartbeats 1000000 in
set_option maxRecDepth 100000 in
theorem branchFor_any (d : PDoc) (hg : Good d) (n₁ tb : Nat) (ad : Int → Nat) (up : Int → Option Int) (kv : Int → Value) (W : World) (hgr : Grown n₁ W d tb ad up kv) (ss id c : Int) (hc : c = forCode d ss id) (r : Option Addr) (hr : r = if c = 0 then some ⟨ad id, 0, none⟩ else none) :
    Calls Tryz.prog 58 #[.pointer (some ⟨tb, 0, none⟩), .int .i64 ss, .int .i64 id] W fun e w' => e = .returned (.tuple #[.pointer r, .int .i64 c]) ∧ Below W.heap.size W w' := by
  have HC := hide hc
  have HRr := hide hr
  clear hc hr
  by_cases hs : 1 ≤ ss ∧ ss ≤ 999
  · have hs1 : inB ss 1 999 = true := inB_iff.2 hs
    have htop : W.cell? ⟨tb, 0, none⟩ = some (.pointer (some ⟨ad d.root, 0, none⟩)) := by simpa using cell_of_heap hgr.top 0
    have htb : tb < W.heap.size := (Array.getElem?_eq_some_iff.1 hgr.top).1
    have F := hg.toFlat
    obtain ⟨q, hq⟩ : ∃ q : Option Addr, q = if id ∈ order d.nodes d.nodes.length d.root then some ⟨ad id, 0, none⟩ else none := ⟨_, rfl⟩
    have HF : Hid (Calls Tryz.prog 90 #[.pointer (some ⟨ad d.root, 0, none⟩), .int .i64 id] W fun e W' => e = .returned (.pointer q) ∧ Below W.heap.size W W') :=
      find_any d.nodes ad up F.walkable W.heap.size d.nodes.length d.root F.rootIn F.low id W (Nat.le_refl _) (hgr.tree hg) q hq
    by_cases hin : id ∈ idsOf d.nodes
    · rw [if_pos ((hg.order_iff id).2 hin)] at hq
      subst hq
      have HE : Hid (c = 0) := HC.out.trans (forCode_ok hs hin)
      have HE2 : Hid (r = some ⟨ad id, 0, none⟩) := by have := HRr.out; rwa [if_pos HE.out] at this
      clear hgr hg F hin hs
      go_enter Tryz.func58, Tryz.ntmps58
      go_wp2_with (first | (go_at_call 57; refine (between_any _ _ _ _).mono ?_; rintro e w' ⟨rfl, rfl⟩) | (go_at_call 90; refine HF.out.mono ?_; rintro e w2 ⟨rfl, hb2⟩))
      go_ret2
      exact ⟨by rw [HE.out, HE2.out]; rfl, hb2⟩
    · rw [if_neg (fun h => hin ((hg.order_iff id).1 h))] at hq
      subst hq
      have HE : Hid (c = 5) := HC.out.trans (forCode_none hs hin)
      have HE2 : Hid (r = none) := by have := HRr.out; rwa [if_neg (by rw [HE.out]; decide)] at this
      clear hgr hg F hin hs
      go_enter Tryz.func58, Tryz.ntmps58
      go_wp2_with (first | (go_at_call 57; refine (between_any _ _ _ _).mono ?_; rintro e w' ⟨rfl, rfl⟩) | (go_at_call 90; refine HF.out.mono ?_; rintro e w2 ⟨rfl, hb2⟩))
      go_ret2
      exact ⟨by rw [HE.out, HE2.out]; rfl, hb2⟩
  · have hs1 := between_no hs
    have HE : Hid (c = 4) := HC.out.trans (forCode_range hs)
    have HE2 : Hid (r = none) := by have := HRr.out; rwa [if_neg (by rw [HE.out]; decide)] at this
    clear hgr hg hs
    go_enter Tryz.func58, Tryz.ntmps58
    go_wp2_with (go_at_call 57; refine (between_any _ _ _ _).mono ?_; rintro e w' ⟨rfl, rfl⟩)
    go_ret2
    exact ⟨by rw [HE.out, HE2.out]; rfl, Below.refl _ _⟩

/-- What the program makes of a hold: a lock, or nothing. -/
@[reducible] def lockRes (ad : Int → Nat) (x : PHold) : Bool → Value
  | true => lockVal ad x
  | false => .agg #[.int .i64 0, .int .i64 0, .pointer none]

set_option maxHeartbeats 1000000 in
set_option maxRecDepth 100000 in
theorem lockOf_any (d : PDoc) (hg : Good d) (n₁ tb : Nat) (ad : Int → Nat) (up : Int → Option Int) (kv : Int → Value) (W : World) (hgr : Grown n₁ W d tb ad up kv) (x : PHold) (c : Int) (hc : c = ofCode d x) (r : Bool) (hr : r = decide (c = 0)) :
    Calls Tryz.prog 88 #[.pointer (some ⟨tb, 0, none⟩), holdVal x] W fun e w' => e = .returned (.tuple #[lockRes ad x r, .int .i64 c]) ∧ Below W.heap.size W w' := by
  have hb0 := ((Below.refl W.heap.size W).alloc (Nat.le_refl _) (.cells #[.int .i64 x.session, .int .i64 x.node, .int .i64 x.mode] 86)).alloc (by simp) (.cells #[.int .i64 0, .int .i64 0, .pointer none] 109)
  obtain ⟨c1, hc1⟩ : ∃ c1, c1 = forCode d x.session x.node := ⟨_, rfl⟩
  obtain ⟨p, hp⟩ : ∃ p : Option Addr, p = if c1 = 0 then some ⟨ad x.node, 0, none⟩ else none := ⟨_, rfl⟩
  have HB := hide (branchFor_any d hg n₁ tb ad up kv _ (hgr.below hb0) x.session x.node c1 hc1 p hp)
  have HC := hide hc
  have HC1 := hide hc1
  have HP := hide hp
  have HRr := hide hr
  clear hc hc1 hp hr hgr hg
  by_cases h1 : c1 = 0
  · have HP1 : Hid (p = some ⟨ad x.node, 0, none⟩) := by have := HP.out; rwa [if_pos h1] at this
    have HZ := hide h1
    have hp := HP1.out
    subst h1 hp
    by_cases hm : 1 ≤ x.mode ∧ x.mode ≤ 5
    · have hm1 := inB_iff.2 hm
      have HE : Hid (c = 0) := by rw [Hid, HC.out]; unfold ofCode; rw [if_pos HC1.out.symm, if_pos hm]
      have HE2 : Hid (r = true) := by rw [Hid, HRr.out, HE.out]; rfl
      clear hm HP HP1 HZ
      go_enter Tryz.func88, Tryz.ntmps88
      go_wp2_with fail
      refine HB.out.mono ?_
      rintro e w1 ⟨rfl, hb1⟩
      simp only [World.size_alloc] at hb1
      have hs1 := hb1.size
      simp only [World.size_alloc] at hs1
      obtain ⟨hcx, hfx⟩ := bcell (W := (W.alloc (.cells #[.int .i64 x.session, .int .i64 x.node, .int .i64 x.mode] 86)).alloc (.cells #[.int .i64 0, .int .i64 0, .pointer none] 109)) (by simpa using hb1)
      have hz1 : W.heap.size < w1.heap.size := by omega
      have hz2 : W.heap.size + 1 < w1.heap.size := by omega
      go_wp2_with (go_at_call 57; refine (between_any _ _ _ _).mono ?_; rintro e w' ⟨rfl, rfl⟩)
      refine bodyPost_ret (v := .tuple #[lockVal ad x, .int .i64 0]) (by simp [results, Tryz.results88, go_sem, hcx]) rfl ⟨by rw [HE.out, HE2.out], ?_⟩
      exact ((((hb0.trans (hb1.mono (by omega))).setCell (p := ⟨W.heap.size + 1, 0, none⟩) (by simp) _).setCell (p := ⟨W.heap.size + 1, 1, none⟩) (by simp) _).setCell (p := ⟨W.heap.size + 1, 2, none⟩) (by simp) _)
    · have hm1 := between_no hm
      have HE : Hid (c = 19) := by rw [Hid, HC.out]; unfold ofCode; rw [if_pos HC1.out.symm, if_neg hm]
      have HE2 : Hid (r = false) := by rw [Hid, HRr.out, HE.out]; rfl
      clear hm HP HP1 HZ
      go_enter Tryz.func88, Tryz.ntmps88
      go_wp2_with fail
      refine HB.out.mono ?_
      rintro e w1 ⟨rfl, hb1⟩
      simp only [World.size_alloc] at hb1
      have hs1 := hb1.size
      simp only [World.size_alloc] at hs1
      obtain ⟨hcx, hfx⟩ := bcell (W := (W.alloc (.cells #[.int .i64 x.session, .int .i64 x.node, .int .i64 x.mode] 86)).alloc (.cells #[.int .i64 0, .int .i64 0, .pointer none] 109)) (by simpa using hb1)
      have hz1 : W.heap.size < w1.heap.size := by omega
      have hz2 : W.heap.size + 1 < w1.heap.size := by omega
      go_wp2_with (go_at_call 57; refine (between_any _ _ _ _).mono ?_; rintro e w' ⟨rfl, rfl⟩)
      refine bodyPost_ret (v := .tuple #[.agg #[.int .i64 0, .int .i64 0, .pointer none], .int .i64 19]) (by simp [results, Tryz.results88, go_sem, hcx]) rfl ⟨by rw [HE.out, HE2.out], ?_⟩
      exact ((((hb0.trans (hb1.mono (by omega))).setCell (p := ⟨W.heap.size + 1, 0, none⟩) (by simp) _).setCell (p := ⟨W.heap.size + 1, 1, none⟩) (by simp) _).setCell (p := ⟨W.heap.size + 1, 2, none⟩) (by simp) _)
  · have HP1 : Hid (p = none) := by have := HP.out; rwa [if_neg h1] at this
    have hp := HP1.out
    subst hp
    have HE : Hid (c = c1) := by rw [Hid, HC.out]; unfold ofCode; rw [if_neg (by rw [← HC1.out]; exact h1)]; exact HC1.out.symm
    have HE2 : Hid (r = false) := by rw [Hid, HRr.out, HE.out]; simp [h1]
    have h11 : (c1 != 0) = true := by simp [h1]
    clear h1 HP HP1
    go_enter Tryz.func88, Tryz.ntmps88
    go_wp2_with fail
    refine HB.out.mono ?_
    rintro e w1 ⟨rfl, hb1⟩
    simp only [World.size_alloc] at hb1
    have hs1 := hb1.size
    simp only [World.size_alloc] at hs1
    obtain ⟨hcx, hfx⟩ := bcell (W := (W.alloc (.cells #[.int .i64 x.session, .int .i64 x.node, .int .i64 x.mode] 86)).alloc (.cells #[.int .i64 0, .int .i64 0, .pointer none] 109)) (by simpa using hb1)
    have hz1 : W.heap.size < w1.heap.size := by omega
    have hz2 : W.heap.size + 1 < w1.heap.size := by omega
    go_wp2_with fail
    refine bodyPost_ret (v := .tuple #[.agg #[.int .i64 0, .int .i64 0, .pointer none], .int .i64 c1]) (by simp [results, Tryz.results88, go_sem, hcx]) rfl ⟨by rw [HE.out, HE2.out], ?_⟩
    exact ((((hb0.trans (hb1.mono (by omega))).setCell (p := ⟨W.heap.size + 1, 0, none⟩) (by simp) _).setCell (p := ⟨W.heap.size + 1, 1, none⟩) (by simp) _).setCell (p := ⟨W.heap.size + 1, 2, none⟩) (by simp) _)
end Go.Proofs.YtfjhpfgffbghdaaGreatDoor

namespace Go.Proofs.YtfjhpfgffbghdaaGreatDoor
open Go.RowKit

def cmpI (a b : Int) : Int := if a < b then -1 else if b < a then 1 else 0

theorem isNaN_any (a : Int) (w : World) : Calls Tryz.prog 152 #[.int .i64 a] w fun e w' => e = .returned (.bool false) ∧ w' = w := by
  go_enter Tryz.func152, Tryz.ntmps152
  go_wp2
  go_ret
  exact ⟨rfl, rfl⟩

theorem compare_any (a b : Int) (w : World) : Calls Tryz.prog 134 #[.int .i64 a, .int .i64 b] w fun e w' => e = .returned (.int .i64 (cmpI a b)) ∧ w' = w := by
  by_cases h1 : a < b
  · have HR : Hid (cmpI a b = -1) := by simp [Hid, cmpI, h1]
    go_enter Tryz.func134, Tryz.ntmps134
    go_wp2_with (go_at_call 152; refine (isNaN_any _ _).mono ?_; rintro e w' ⟨rfl, rfl⟩)
    go_ret
    exact ⟨ret_int HR.out.symm, rfl⟩
  · by_cases h2 : b < a
    · have HR : Hid (cmpI a b = 1) := by simp [Hid, cmpI, h1, h2]
      go_enter Tryz.func134, Tryz.ntmps134
      go_wp2_with (go_at_call 152; refine (isNaN_any _ _).mono ?_; rintro e w' ⟨rfl, rfl⟩)
      go_ret
      exact ⟨ret_int HR.out.symm, rfl⟩
    · have HR : Hid (cmpI a b = 0) := by simp [Hid, cmpI, h1, h2]
      go_enter Tryz.func134, Tryz.ntmps134
      go_wp2_with (go_at_call 152; refine (isNaN_any _ _).mono ?_; rintro e w' ⟨rfl, rfl⟩)
      go_ret
      exact ⟨ret_int HR.out.symm, rfl⟩

def orI (a b : Int) : Int := if a = 0 then b else a

set_option maxHeartbeats 1000000 in
theorem or_any (a b : Int) (g : Nat) (w : World) (hh : w.heap[g]? = some (.cells #[.int .i64 a, .int .i64 b] 3 (0, 0))) :
    Calls Tryz.prog 133 #[.slice (some ⟨g, 0, none⟩) 2 2] w fun e w' => e = .returned (.int .i64 (orI a b)) ∧ w' = w := by
  have c0 := cell_of_heap hh 0
  have c1 := cell_of_heap hh 1
  simp only [List.getElem?_toArray, List.getElem?_cons_succ, List.getElem?_cons_zero] at c0 c1
  have hg : g < w.heap.size := (Array.getElem?_eq_some_iff.1 hh).1
  clear hh
  by_cases ha : a = 0
  · have HR : Hid (orI a b = b) := if_pos ha
    have ha1 : (a != 0) = false := by simp [ha]
    by_cases hb : b = 0
    · have hb1 : (b != 0) = false := by simp [hb]
      have HB := hide hb
      clear ha hb
      go_enter Tryz.func133, Tryz.ntmps133
      go_wp2_with fail
      go_loop [8] (fun i => ∃ k : Nat, k ≤ 2 ∧ i = .int .i64 k) (fun i => 2 - (intOf i).toNat)
      case atStart => exact ⟨0, by omega, rfl⟩
      case round =>
        obtain ⟨k, hk, rfl⟩ := hrel
        rcases (by omega : k = 0 ∨ k = 1 ∨ k = 2) with rfl | rfl | rfl
        · go_wp2_with fail
          go_round
          case rel => first | exact ⟨1, by omega, by go_num⟩ | exact ⟨1, by omega, rfl⟩
          case measure => simp [intOf]
        · go_wp2_with fail
          go_round
          case rel => first | exact ⟨2, by omega, by go_num⟩ | exact ⟨2, by omega, rfl⟩
          case measure => simp [intOf]
        · go_wp2_with fail
          go_ret
          exact ⟨ret_int (by rw [HR.out, HB.out]), rfl⟩
    · have hb1 : (b != 0) = true := by simp [hb]
      clear ha hb
      go_enter Tryz.func133, Tryz.ntmps133
      go_wp2_with fail
      go_loop [8] (fun i => ∃ k : Nat, k ≤ 1 ∧ i = .int .i64 k) (fun i => 2 - (intOf i).toNat)
      case atStart => exact ⟨0, by omega, rfl⟩
      case round =>
        obtain ⟨k, hk, rfl⟩ := hrel
        rcases (by omega : k = 0 ∨ k = 1) with rfl | rfl
        · go_wp2_with fail
          go_round
          case rel => first | exact ⟨1, by omega, by go_num⟩ | exact ⟨1, by omega, rfl⟩
          case measure => simp [intOf]
        · go_wp2_with fail
          go_ret
          exact ⟨ret_int HR.out.symm, rfl⟩
  · have HR : Hid (orI a b = a) := if_neg ha
    have ha1 : (a != 0) = true := by simp [ha]
    clear ha
    go_enter Tryz.func133, Tryz.ntmps133
    go_wp2_with fail
    go_loop [8] (fun i => i = .int .i64 0) (fun _ => 0)
    case atStart => rfl
    case round =>
      obtain rfl := hrel
      go_wp2_with fail
      go_ret
      exact ⟨ret_int HR.out.symm, rfl⟩

def cmpH (x y : PHold) : Int := orI (cmpI x.session y.session) (cmpI x.node y.node)

theorem cmpH_less {x y : PHold} : cmpH x y < 0 ↔ lessB x y = true := by
  rw [lessB_iff]; unfold cmpH orI cmpI
  split <;> split <;> first | omega | (split <;> first | omega | (split <;> omega))
theorem cmpH_zero {x y : PHold} : cmpH x y = 0 ↔ x.session = y.session ∧ x.node = y.node := by
  unfold cmpH orI cmpI
  split <;> split <;> first | omega | (split <;> first | omega | (split <;> omega))
theorem cmpH_range (x y : PHold) : -1 ≤ cmpH x y ∧ cmpH x y ≤ 1 := by
  unfold cmpH orI cmpI
  split <;> split <;> first | omega | (split <;> first | omega | (split <;> omega))

set_option maxHeartbeats 2000000 in
set_option maxRecDepth 100000 in
theorem compareLocks_any (ad : Int → Nat) (x y : PHold) (w : World) (hx : w.cell? ⟨ad x.node, 0, none⟩ = some (.int .i64 x.node)) (hy : w.cell? ⟨ad y.node, 0, none⟩ = some (.int .i64 y.node)) (hxl : ad x.node < w.heap.size) (hyl : ad y.node < w.heap.size) :
    Calls Tryz.prog 112 #[lockVal ad x, lockVal ad y] w fun e w' => e = .returned (.int .i64 (cmpH x y)) ∧ Below w.heap.size w w' := by
  obtain ⟨px, hpx⟩ : ∃ px, px = ad x.node := ⟨_, rfl⟩
  obtain ⟨py, hpy⟩ : ∃ py, py = ad y.node := ⟨_, rfl⟩
  have ex : lockVal ad x = .agg #[.int .i64 x.session, .int .i64 x.mode, .pointer (some ⟨px, 0, none⟩)] := by rw [hpx]
  have ey : lockVal ad y = .agg #[.int .i64 y.session, .int .i64 y.mode, .pointer (some ⟨py, 0, none⟩)] := by rw [hpy]
  rw [ex, ey]
  rw [← hpx] at hx hxl
  rw [← hpy] at hy hyl
  clear hpx hpy ex ey
  obtain ⟨W2, hW2⟩ : ∃ W2, W2 = (w.alloc (.cells #[.int .i64 x.session, .int .i64 x.mode, .pointer (some ⟨px, 0, none⟩)] 109)).alloc (.cells #[.int .i64 y.session, .int .i64 y.mode, .pointer (some ⟨py, 0, none⟩)] 109) := ⟨_, rfl⟩
  have hW : Below w.heap.size w W2 := by rw [hW2]; exact ((Below.refl w.heap.size w).alloc (Nat.le_refl _) _).alloc (by simp) _
  have hs2 : W2.heap.size = w.heap.size + 1 + 1 := by rw [hW2]; simp
  have h0 : W2.heap[w.heap.size]? = some (.cells #[.int .i64 x.session, .int .i64 x.mode, .pointer (some ⟨px, 0, none⟩)] 109 (0, 0)) := by
    rw [hW2]; exact (Below.heap_alloc _ _ w.heap.size (by simp)).trans (alloc_new w _)
  have h1 : W2.heap[w.heap.size + 1]? = some (.cells #[.int .i64 y.session, .int .i64 y.mode, .pointer (some ⟨py, 0, none⟩)] 109 (0, 0)) := by
    rw [hW2]
    have := alloc_new (w.alloc (.cells #[.int .i64 x.session, .int .i64 x.mode, .pointer (some ⟨px, 0, none⟩)] 109)) (.cells #[.int .i64 y.session, .int .i64 y.mode, .pointer (some ⟨py, 0, none⟩)] 109)
    simpa using this
  have HS : Hid (∀ wx, Below W2.heap.size W2 wx → wx.cell? ⟨w.heap.size, 0, none⟩ = some (.int .i64 x.session) ∧ wx.cell? ⟨w.heap.size, 2, none⟩ = some (.pointer (some ⟨px, 0, none⟩)) ∧ wx.cell? ⟨w.heap.size + 1, 0, none⟩ = some (.int .i64 y.session) ∧ wx.cell? ⟨w.heap.size + 1, 2, none⟩ = some (.pointer (some ⟨py, 0, none⟩)) ∧ wx.cell? ⟨px, 0, none⟩ = some (.int .i64 x.node) ∧ wx.cell? ⟨py, 0, none⟩ = some (.int .i64 y.node)) := fun wx hb => by
    have j0 := (hb.block w.heap.size (by omega)).trans h0
    have j1 := (hb.block (w.heap.size + 1) (by omega)).trans h1
    have hb2 := hW.trans (hb.mono (by omega))
    exact ⟨cell_of_heap j0 0, cell_of_heap j0 2, cell_of_heap j1 0, cell_of_heap j1 2, (hb2.cell (p := ⟨px, 0, none⟩) hxl).trans hx, (hb2.cell (p := ⟨py, 0, none⟩) hyl).trans hy⟩
  have HCm : Hid (∀ wx a b, Below W2.heap.size W2 wx → Calls Tryz.prog 134 #[.int .i64 a, .int .i64 b] wx fun e w' => e = .returned (.int .i64 (cmpI a b)) ∧ Below W2.heap.size W2 w') := fun wx a b hb =>
    (compare_any a b wx).mono fun e w' ⟨he, hw'⟩ => ⟨he, by rw [hw']; exact hb⟩
  have HOr : Hid (∀ wx : World, Below W2.heap.size W2 wx → Calls Tryz.prog 133 #[.slice (some ⟨wx.heap.size, 0, none⟩) 2 2] (wx.alloc (.cells #[.int .i64 (cmpI x.session y.session), .int .i64 (cmpI x.node y.node)] 3)) fun e w' => e = .returned (.int .i64 (cmpH x y)) ∧ Below W2.heap.size W2 w') := fun wx hb =>
    (or_any _ _ _ _ (alloc_new wx _)).mono fun e w' ⟨he, hw'⟩ => ⟨he, by rw [hw']; exact hb.alloc hb.size _⟩
  have hd : Below W2.heap.size W2 W2.drew := (Below.refl _ _).drew
  have hsz := hs2
  have HW := hide hW
  clear h0 h1 hs2 hW hx hy hxl hyl
  go_enter Tryz.func112, Tryz.ntmps112
  go_wp2_with fail
  rw [← hW2]
  clear hW2
  have HSz := hide hsz
  clear hsz
  go_region_held3 (fun wx => wx.cell? ⟨w.heap.size, 0, none⟩ = some (.int .i64 x.session) ∧ wx.cell? ⟨w.heap.size, 2, none⟩ = some (.pointer (some ⟨px, 0, none⟩)) ∧ wx.cell? ⟨w.heap.size + 1, 0, none⟩ = some (.int .i64 y.session) ∧ wx.cell? ⟨w.heap.size + 1, 2, none⟩ = some (.pointer (some ⟨py, 0, none⟩)) ∧ wx.cell? ⟨px, 0, none⟩ = some (.int .i64 x.node) ∧ wx.cell? ⟨py, 0, none⟩ = some (.int .i64 y.node)) (first | exact HS.out _ (by assumption) | go_keep)
    (first
      | (go_at_call 134; refine (HCm.out _ _ _ (by assumption)).mono ?_; rintro e w' ⟨rfl, hb⟩)
      | (go_at_call 133; refine (HOr.out _ (by assumption)).mono ?_; rintro e w' ⟨rfl, hb2⟩))
  all_goals
    go_wp2_with fail
    go_ret
    exact ⟨rfl, HW.out.trans (hb2.mono (by have := HSz.out; omega))⟩
end Go.Proofs.YtfjhpfgffbghdaaGreatDoor

namespace Go.Proofs.YtfjhpfgffbghdaaGreatDoor
open Go.RowKit Go.Shelf

def LocksPost (w : World) (d : PDoc) (L : List PHold) (e : Ending) (w' : World) : Prop :=
  (∃ c : Int, e = .returned (.tuple #[.pointer none, .int .i64 c]) ∧ Hid (c ≠ 0 ∧ c = heldAsk d L) ∧ (c != 0) = true ∧ Below w.heap.size w w') ∨
  (∃ (lb tb : Nat) (ad : Int → Nat) (up : Int → Option Int) (kv : Int → Value), e = .returned (.tuple #[.pointer (some ⟨lb, 0, none⟩), .int .i64 0]) ∧ Hid (LocksP d L) ∧ GrownIn w.heap.size lb w' d tb ad up kv ∧ LocksOwn w.heap.size w' lb tb ad L ∧ Below w.heap.size w w')

theorem lockInfo : (Tryz.prog.info? 109).map (fun i => (i.zero, i.size, i.bytes)) = some (some (.agg #[.int .i64 0, .int .i64 0, .pointer none]), 3, 24) := by kernel_rfl

theorem lock_one (ad : Int → Nat) (x : PHold) : ∀ u ∈ lockCells ad x, u.oneCell' = true := by
  intro u hu
  simp only [lockCells, List.mem_cons, List.not_mem_nil, or_false] at hu
  rcases hu with rfl | rfl | rfl <;> rfl

theorem box_grow {w w' : World} {B : Nat} {e T : TypeId} {size : Nat} {v : Value} {n : Nat} {xs : List Value} {b : Nat} {cs : Array Value} (h : w.ownsRow B e size v n xs) (hg : w.grownBy w' v.ownBlock) (hT : T ≠ e) (hb : w.heap[b]? = some (.cells cs T (0, 0))) : w'.heap[b]? = some (.cells cs T (0, 0)) :=
  (hg.block b (Array.getElem?_eq_some_iff.1 hb).1 (fun e => own_other h hb hT e.symm)).trans hb

set_option maxHeartbeats 4000000 in
set_option maxRecDepth 100000 in
theorem locksOf_any (n₀ : Nat) (d : PDoc) (s v : Value) (L : List PHold) (w : World) (hN : NodesAt n₀ w s d.nodes) (hV : HoldsAt n₀ w v L) (hn : n₀ ≤ w.heap.size) (hl : d.nodes.length ≤ 1048576) (hwf : WfDoc d) (hL : L.length ≤ 1048576) :
    Calls Tryz.prog 87 #[.agg #[.int .i64 d.root, .int .i64 d.next, s], v] w (LocksPost w d L) := by
  obtain ⟨i0, hinf, hq0, hq1, hq2⟩ := info_parts lockInfo
  have hW := (Below.refl w.heap.size w).alloc (Nat.le_refl _) (.cells #[.int .i64 d.root, .int .i64 d.next, s] 38)
  have HT : Hid (Calls Tryz.prog 111 #[.agg #[.int .i64 d.root, .int .i64 d.next, s]] (w.alloc (.cells #[.int .i64 d.root, .int .i64 d.next, s] 38)) (TreePost (w.alloc (.cells #[.int .i64 d.root, .int .i64 d.next, s] 38)) d)) :=
    treeOf_any n₀ d s _ (hN.below (Nat.le_refl _) (hW.mono hn)) (by simp; omega) hl hwf
  obtain ⟨a, cap, rfl, hk⟩ := hV
  obtain ⟨sa, sc, rfl, -⟩ := hN
  clear hwf
  by_cases hlong : (4096 : Int) < (L.length : Int)
  · have HE : Hid ((2 : Int) ≠ 0 ∧ (2 : Int) = heldAsk d L) := ⟨by decide, (heldAsk_long (by omega)).symm⟩
    go_enter Tryz.func87, Tryz.ntmps87
    go_wp2_with fail
    go_ret2
    exact .inl ⟨2, rfl, HE, rfl, hW⟩
  have HBad : Hid (¬ LocksP d L → (1 : Int) ≠ 0 ∧ (1 : Int) = heldAsk d L) := fun h => ⟨by decide, (heldAsk_bad (by omega) h).symm⟩
  go_enter Tryz.func87, Tryz.ntmps87
  go_wp2_with fail
  refine HT.out.mono ?_
  rintro e w1 (⟨tb, ad, up, kv, rfl, hg, hgr, htb, hb1⟩ | ⟨rfl, hno, hb1⟩)
  · simp only [World.size_alloc] at hb1 hgr htb
    have hs1 := hb1.size
    simp only [World.size_alloc] at hs1
    have hw1 := hW.trans (hb1.mono (by omega))
    have HGr := hide hgr
    have HG := hide hg
    clear hgr hg HT
    by_cases h30 : (30 : Int) < (L.length : Int)
    · have HE := hide (HBad.out fun h => by have := h.holds.len; omega)
      clear hk
      go_wp2_with fail
      go_ret2
      exact .inl ⟨1, rfl, HE.out, rfl, hw1⟩
    · obtain ⟨lb, hlb⟩ : ∃ lb, lb = w1.heap.size := ⟨_, rfl⟩
      obtain ⟨W2, hW2⟩ : ∃ W2, W2 = w1.alloc (.cells #[.pointer (some ⟨tb, 0, none⟩), .slice none 0 0] 101) := ⟨_, rfl⟩
      have H2 : Hid (W2.heap[lb]? = some (.cells #[.pointer (some ⟨tb, 0, none⟩), .slice none 0 0] 101 (0, 0))) := by rw [hlb, hW2]; exact alloc_new w1 _
      have hB2 : Below lb w1 W2 := by rw [hlb, hW2]; exact (Below.refl _ _).alloc (Nat.le_refl _) _
      have hs2 : lb < W2.heap.size := (Array.getElem?_eq_some_iff.1 H2.out).1
      go_wp2_with fail
      rw [← hW2]
      rw [← hlb]
      have HNone := hide (World.ownsRow_nil W2 (lb + 1) 109 3)
      have HLb := hide hlb
      have hlb1 : lb ≤ w1.heap.size := by omega
      have hlb2 : w1.heap.size ≤ lb := by omega
      clear hW2 hlb
      go_loopw [33] (fun i wr => ∃ (k : Nat) (u : Value), k ≤ L.length ∧ i = .int .i64 k ∧ Hid (∀ j, j < k → OkAt d L j) ∧ Hid (wr.heap[lb]? = some (.cells #[.pointer (some ⟨tb, 0, none⟩), u] 101 (0, 0))) ∧ Hid (wr.ownsRow (lb + 1) 109 3 u k (lockVals ad (L.take k))) ∧ Below lb w1 wr ∧ lb < wr.heap.size) (fun i _ => L.length - (intOf i).toNat)
      case atStart => exact ⟨0, .slice none 0 0, Nat.zero_le _, rfl, fun j hj => absurd hj (by omega), H2, HNone, hB2, hs2⟩
      case round =>
        obtain ⟨k, u, hkl, rfl, hall, hbox, hrow, hbr, hlr⟩ := hrel
        have hwr := hw1.trans (hbr.mono (by omega))
        have HGr1 := hide (HGr.out.below (HLb.out ▸ hbr))
        by_cases hlt : k < L.length
        · obtain ⟨b, off, rfl, hb, hc⟩ := hk.resolve_left (by intro e; simp [e] at hlt)
          have hA := (hc k hlt).below hb (hwr.mono hn)
          have g0 := hA.c0
          have g1 := hA.c1
          have g2 := hA.c2
          have hlt1 : (k : Int) < (L.length : Int) := by omega
          have hbl : b < wr.heap.size := by have := hwr.size; omega
          obtain ⟨W3, hW3⟩ : ∃ W3, W3 = wr.alloc (.cells #[.int .i64 (L[k]?.getD holdNil).session, .int .i64 (L[k]?.getD holdNil).node, .int .i64 (L[k]?.getD holdNil).mode] 86) := ⟨_, rfl⟩
          have hb3 : Below wr.heap.size wr W3 := by rw [hW3]; exact (Below.refl _ _).alloc (Nat.le_refl _) _
          have hs3 : W3.heap.size = wr.heap.size + 1 := by rw [hW3]; simp
          have hh3 : W3.heap[wr.heap.size]? = some (.cells #[.int .i64 (L[k]?.getD holdNil).session, .int .i64 (L[k]?.getD holdNil).node, .int .i64 (L[k]?.getD holdNil).mode] 86 (0, 0)) := by rw [hW3]; exact alloc_new wr _
          obtain ⟨c, hcc⟩ : ∃ c, c = ofCode d (L[k]?.getD holdNil) := ⟨_, rfl⟩
          obtain ⟨r, hr⟩ : ∃ r, r = decide (c = 0) := ⟨_, rfl⟩
          have hs3a : W3.heap.size ≤ wr.heap.size + 1 := by omega
          have hs3b : wr.heap.size + 1 ≤ W3.heap.size := by omega
          clear hs3
          have HLo := hide (lockOf_any d HG.out _ tb ad up kv W3 (HGr1.out.below hb3) (L[k]?.getD holdNil) c hcc r hr)
          have j0 := cell_of_heap hh3 0
          have j1 := cell_of_heap hh3 1
          have j2 := cell_of_heap hh3 2
          simp only [List.getElem?_toArray, List.getElem?_cons_succ, List.getElem?_cons_zero] at j0 j1 j2
          have HCc := hide hcc
          have HRr := hide hr
          clear hcc hr hA
          have hZ : Hid (∀ t, Below wr.heap.size wr t → Below w.heap.size w t) := fun t ht => hwr.trans (ht.mono (by have := hwr.size; omega))
          generalize hx : L[k]?.getD holdNil = x at *
          have HX := hide hx
          clear hx
          go_wp2_with fail
          rw [← hW3]
          clear hW3
          refine HLo.out.mono ?_
          rintro e w4 ⟨rfl, hb4⟩
          have hs4 := hb4.size
          have hh4 := (hb4.block wr.heap.size (by omega)).trans hh3
          have y0 := cell_of_heap hh4 0
          have y1 := cell_of_heap hh4 1
          have y2 := cell_of_heap hh4 2
          simp only [List.getElem?_toArray, List.getElem?_cons_succ, List.getElem?_cons_zero] at y0 y1 y2
          have hb34 : Below wr.heap.size wr w4 := hb3.trans (hb4.mono (by omega))
          clear j0 j1 j2 HLo
          cases r
          · have hc0 : c ≠ 0 := by have := HRr.out; intro h; rw [h] at this; revert this; decide
            have hc1 : (c != 0) = true := by simp [hc0]
            have HE := hide (HBad.out fun h => by have := (h.holds.ok k hlt).1; rw [HX.out] at this; exact hc0 (HCc.out.trans (ofCode_zero.2 this)))
            clear hk hc hc0
            obtain ⟨W5, hW5⟩ : ∃ W5, W5 = w4.alloc (.cells #[.int .i64 0, .int .i64 0, .pointer none] 109) := ⟨_, rfl⟩
            have hb5 : Below w4.heap.size w4 W5 := by rw [hW5]; exact (Below.refl _ _).alloc (Nat.le_refl _) _
            go_wp2_with fail
            rw [← hW5]
            refine wp_region_calm (by kernel_rfl) (by kernel_rfl) ?_
            repeat (go_big_quiet_step (fail))
            refine wpQuiet_nil ?_
            rintro _ ⟨t, rfl⟩
            have ht := t.below
            go_wp2_with fail
            go_ret2
            exact .inl ⟨1, rfl, HE.out, rfl, hZ.out _ (hb34.trans ((hb5.mono (by omega)).trans (ht.mono (by have := hb5.size; omega))))⟩
          · have hc0 : c = 0 := by have := HRr.out; simpa using this.symm
            have HP := hide (ofCode_zero.1 (HCc.out.symm.trans hc0))
            subst hc0
            obtain ⟨W5, hW5⟩ : ∃ W5, W5 = w4.alloc (.cells #[.int .i64 x.session, .int .i64 x.mode, .pointer (some ⟨ad x.node, 0, none⟩)] 109) := ⟨_, rfl⟩
            have hb5 : Below w4.heap.size w4 W5 := by rw [hW5]; exact (Below.refl _ _).alloc (Nat.le_refl _) _
            have hs5 : W5.heap.size = w4.heap.size + 1 := by rw [hW5]; simp
            have hh5 : Hid (W5.heap[w4.heap.size]? = some (.cells #[.int .i64 x.session, .int .i64 x.mode, .pointer (some ⟨ad x.node, 0, none⟩)] 109 (0, 0))) := by rw [hW5]; exact alloc_new w4 _
            have hb35 : Below wr.heap.size wr W5 := hb34.trans (hb5.mono (by omega))
            obtain ⟨okb, hok⟩ : ∃ okb : Bool, okb = true ↔ (0 < k → lessB (L[k - 1]?.getD holdNil) (L[k]?.getD holdNil) = true) := ⟨dec _, dec_iff _⟩
            have HOk := hide hok
            have z0 := cell_of_heap hh5.out 0
            have z1 := cell_of_heap hh5.out 1
            have z2 := cell_of_heap hh5.out 2
            simp only [List.getElem?_toArray, List.getElem?_cons_succ, List.getElem?_cons_zero] at z0 z1 z2
            have hwz : w4.heap.size < W5.heap.size := by omega
            have hs5a : W5.heap.size ≤ w4.heap.size + 1 := by omega
            have hs5b : w4.heap.size + 1 ≤ W5.heap.size := by omega
            clear hs5
            clear hok y0 y1 y2
            go_wp2_with fail
            rw [← hW5]
            clear hW5
            go_cut [62] (fun v62 wc => v62 = .bool (!okb) ∧ Below W5.heap.size W5 wc)
            case first =>
              by_cases h0 : k = 0
              · subst h0
                have h1 : okb = true := HOk.out.2 (fun h => absurd h (by omega))
                subst h1
                clear hk hc
                refine wp_region_calm (by kernel_rfl) (by kernel_rfl) ?_
                repeat (go_big_quiet_step (fail))
                refine wpQuiet_nil ?_
                rintro _ ⟨t, rfl⟩
                have ht := t.below
                go_wp2_with fail
                go_meet
                exact ⟨rfl, ht⟩
              · have hk0 : (0 : Int) < (k : Int) := by omega
                obtain ⟨p, rfl⟩ : ∃ p, k = p + 1 := ⟨k - 1, by omega⟩
                obtain ⟨g, capu, rfl, hgz, hgb⟩ := row_block hrow.out (by omega)
                have hA' := (row_lockAt hrow.out (j := p) (by rw [List.length_take]; omega)).below hgz hb35
                have hpt : (L.take (p + 1))[p]? = L[p]? := by rw [List.getElem?_take, if_pos (by omega)]
                rw [hpt] at hA'
                have f0 := hA'.c0
                have f1 := hA'.c1
                have f2 := hA'.c2
                have b1 := cell_of_heap ((hb35.block lb hlr).trans hbox.out) 1
                simp only [List.getElem?_toArray, List.getElem?_cons_succ, List.getElem?_cons_zero] at b1
                have hbl5 : g < W5.heap.size := by omega
                have hlz5 : lb < W5.heap.size := by omega
                have hcal := calm_cell W5
                have HG5 := hide (HGr1.out.below hb35)
                have HPp : Hid ((L[p]?.getD holdNil).node ∈ idsOf d.nodes) := (hall.out p (by omega)).1.2.1
                have HCm : Hid (∀ t : Calm W5, Calls Tryz.prog 112 #[lockVal ad (L[p]?.getD holdNil), lockVal ad x] t.out fun e w' => e = .returned (.int .i64 (cmpH (L[p]?.getD holdNil) x)) ∧ Below t.out.heap.size t.out w') := fun t => by
                  have hgt := HG5.out.below t.below
                  obtain ⟨k1, k2⟩ := hgt.idCell HPp.out
                  obtain ⟨k3, k4⟩ := hgt.idCell HP.out.2.1
                  exact compareLocks_any ad _ _ t.out k1 k3 k2 k4
                have hlo := cmpH_less (x := L[p]?.getD holdNil) (y := x)
                have HO2 := HOk.out
                rw [Nat.add_sub_cancel, HX.out] at HO2
                clear hA' hk hc
                generalize L[p]?.getD holdNil = y at *
                generalize cmpH y x = z at *
                cases okb
                · have hz : 0 ≤ z := by
                    rcases Int.lt_or_le z 0 with h | h
                    · have := HO2.2 (fun _ => hlo.1 h); cases this
                    · exact h
                  clear HO2 hlo
                  refine wp_region_calm (by kernel_rfl) (by kernel_rfl) ?_
                  repeat (go_big_quiet_step ((go_at_call 112; exact calm_of (HCm.out _))))
                  refine wpQuiet_nil ?_
                  rintro _ ⟨t, rfl⟩
                  have ht := t.below
                  go_wp2_with fail
                  go_meet
                  exact ⟨rfl, ht⟩
                · have hz : z < 0 := hlo.2 (HO2.1 rfl (by omega))
                  clear HO2 hlo
                  refine wp_region_calm (by kernel_rfl) (by kernel_rfl) ?_
                  repeat (go_big_quiet_step ((go_at_call 112; exact calm_of (HCm.out _))))
                  refine wpQuiet_nil ?_
                  rintro _ ⟨t, rfl⟩
                  have ht := t.below
                  go_wp2_with fail
                  go_meet
                  exact ⟨by first | rfl | (simp; omega), ht⟩
            case rest =>
              obtain ⟨rfl, hbc⟩ := hcut
              have hsc := hbc.size
              cases okb
              · have HE := hide (HBad.out fun h => by have := HOk.out.2 (h.holds.ok k hlt).2; cases this)
                clear hk hc
                go_wp2_with fail
                go_ret2
                exact .inl ⟨1, rfl, HE.out, rfl, hZ.out _ (hb35.trans (hbc.mono (by omega)))⟩
              · have HA2 : Hid (∀ j, j < k + 1 → OkAt d L j) := fun j hj => by
                  by_cases e : j = k
                  · subst e; exact ⟨by rw [HX.out]; exact HP.out, HOk.out.1 rfl⟩
                  · exact hall.out j (by omega)
                have hbr4 : Below wr.heap.size wr wc := hb35.trans (hbc.mono (by omega))
                have hbr5 : Below wr.heap.size wr wc.drew := hbr4.drew
                have hh5c := (hbc.block w4.heap.size (by omega)).trans hh5.out
                have q0 := cell_of_heap hh5c 0
                have q1 := cell_of_heap hh5c 1
                have q2 := cell_of_heap hh5c 2
                simp only [List.getElem?_toArray, List.getElem?_cons_succ, List.getElem?_cons_zero] at q0 q1 q2
                have HBoxc := hide ((hbr5.block lb hlr).trans hbox.out)
                have HRowc := hide (ownsRow_below hrow.out hbr5)
                have b1 := cell_of_heap ((hbr4.block lb hlr).trans hbox.out) 1
                simp only [List.getElem?_toArray, List.getElem?_cons_succ, List.getElem?_cons_zero] at b1
                have hlz : lb < wc.heap.size := by omega
                have hwz4 : w4.heap.size < wc.heap.size := by omega
                have hkl30 : k ≤ 30 := by omega
                have HTk : Hid (lockVals ad (L.take (k + 1)) = lockVals ad (L.take k) ++ lockCells ad x) := by
                  rw [Hid, List.take_succ_eq_append_getElem hlt, lockVals_snoc]
                  have := HX.out
                  rw [List.getElem?_eq_getElem hlt, Option.getD_some] at this
                  rw [this]
                clear hk hc z0 z1 z2
                go_wp2_with fail
                go_region_law (refine step_append_lies _ rfl (.tmp 67) (.tmp 69) 96 rfl (lb + 1) 109 i0 (.agg #[.int .i64 0, .int .i64 0, .pointer none]) 3 24 Tryz.underlying96 hinf hq0 hq1 hq2 rfl (by decide) _ _ _ rfl (HRowc.out.alloc _) ⟨wc.heap.size, 0, none⟩ 1 1 (lockCells ad x) rfl rfl (World.news_of_block (alloc_new wc.drew _)) (lock_one ad x) (by decide) (by unfold maxLen; omega) (by omega) (by simp; omega) _ rfl ?_; intro g7 c7 w7 hown7 hgrow7 hgg7 hlt7; have HBx7 := hide (box_grow (HRowc.out.alloc _) hgrow7 (by decide) ((Below.heap_alloc wc.drew _ lb hlz).trans HBoxc.out)); have d0 := cell_of_heap HBx7.out 1; have d1 := frozen_of_heap HBx7.out 1)
                all_goals
                  have hb7 : Below lb w1 w7 := ((hbr.trans (hbr5.mono (by omega))).alloc (by simp; omega) _).grown hgrow7 (by simp; omega) (fun g' hg' => by have := (HRowc.out.lt g' hg').1; omega)
                  have HB8 := hide (hb7.setCell (p := ⟨lb, 1, none⟩) (Nat.le_refl _) (.slice (some ⟨g7, 0, none⟩) (k + 1) c7))
                  have HX8 : Hid ((w7.setCell ⟨lb, 1, none⟩ (.slice (some ⟨g7, 0, none⟩) (k + 1) c7)).heap[lb]? = some (.cells #[.pointer (some ⟨tb, 0, none⟩), .slice (some ⟨g7, 0, none⟩) (k + 1) c7] 101 (0, 0))) := by
                    rw [Hid, heap_setCell_same _ _ _ _ _ _ HBx7.out]; rfl
                  have HR8 : Hid ((w7.setCell ⟨lb, 1, none⟩ (.slice (some ⟨g7, 0, none⟩) (k + 1) c7)).ownsRow (lb + 1) 109 3 (.slice (some ⟨g7, 0, none⟩) (k + 1) c7) (k + 1) (lockVals ad (L.take (k + 1)))) := by
                    rw [Hid, HTk.out]; exact ownsRow_setCell_other hown7 (own_other hown7 HBx7.out (by decide)) _
                  have HZ8 : Hid (lb < (w7.setCell ⟨lb, 1, none⟩ (.slice (some ⟨g7, 0, none⟩) (k + 1) c7)).heap.size) := (Array.getElem?_eq_some_iff.1 HX8.out).1
                  clear hown7 hgrow7 hgg7 hb7 d0 d1 q0 q1 q2 b1
                  go_wp2_with fail
                  exact ⟨⟨k + 1, _, by omega, by go_num, HA2, HX8, HR8, HB8.out, HZ8.out⟩, by simp [intOf]; omega⟩
        · have hkL : k = L.length := by omega
          have HTk : Hid (L.take k = L) := by rw [Hid, hkL, List.take_length]
          have HOK : Hid (LocksP d L) := ⟨HG.out, by omega, fun i hi => hall.out i (by omega)⟩
          have HLk : Hid (LocksOwn w.heap.size wr lb tb ad L) := by
            have hr := hrow.out
            rw [HTk.out, hkL] at hr
            exact ⟨by have := HLb.out; omega, _, hbox.out, hr⟩
          have HGf : Hid (GrownIn w.heap.size lb wr d tb ad up kv) := ⟨w1, _, by omega, HGr.out, by have := HLb.out; omega, htb, fun b _ h2 => hbr.block b h2⟩
          clear hk hkL
          go_wp2_with fail
          go_ret2
          exact .inr ⟨lb, tb, ad, up, kv, rfl, HOK, HGf.out, HLk.out, hwr⟩
  · have HE := hide (HBad.out fun h => hno h.good)
    simp only [World.size_alloc] at hb1
    clear hno hk
    go_wp2_with fail
    go_ret2
    exact .inl ⟨1, rfl, HE.out, rfl, hW.trans (hb1.mono (by omega))⟩
end Go.Proofs.YtfjhpfgffbghdaaGreatDoor

namespace Go.Proofs.YtfjhpfgffbghdaaGreatDoor
open Go.RowKit

theorem three_cell (w : World) (b : Nat) (c0 c1 c2 : Value) (m o : Nat) (h : m ≠ b) : (((w.setCell ⟨b, 0, none⟩ c0).setCell ⟨b, 1, none⟩ c1).setCell ⟨b, 2, none⟩ c2).cell? ⟨m, o, none⟩ = w.cell? ⟨m, o, none⟩ := by
  rw [World.cell?_setCell_far _ _ _ _ (by exact h.symm), World.cell?_setCell_far _ _ _ _ (by exact h.symm), World.cell?_setCell_far _ _ _ _ (by exact h.symm)]

theorem three_heap (w : World) (b : Nat) (c0 c1 c2 a0 a1 a2 : Value) (T : TypeId) (h : w.heap[b]? = some (.cells #[a0, a1, a2] T (0, 0))) : (((w.setCell ⟨b, 0, none⟩ c0).setCell ⟨b, 1, none⟩ c1).setCell ⟨b, 2, none⟩ c2).heap[b]? = some (.cells #[c0, c1, c2] T (0, 0)) := by
  have := heap_setCell_same _ b 2 _ _ c2 (heap_setCell_same _ b 1 _ _ c1 (heap_setCell_same w b 0 _ _ c0 h))
  simpa using this

theorem three_other (w : World) (b : Nat) (c0 c1 c2 : Value) (m : Nat) (h : m ≠ b) : (((w.setCell ⟨b, 0, none⟩ c0).setCell ⟨b, 1, none⟩ c1).setCell ⟨b, 2, none⟩ c2).heap[m]? = w.heap[m]? := by
  iterate 3 rw [heap_setCell_other _ _ _ _ (by exact h)]
end Go.Proofs.YtfjhpfgffbghdaaGreatDoor

namespace Go.Proofs.YtfjhpfgffbghdaaGreatDoor
open Go.RowKit

theorem lockVals_app (ad : Int → Nat) (L K : List PHold) : lockVals ad (L ++ K) = lockVals ad L ++ lockVals ad K := by simp [lockVals]
theorem lockVals_len (ad : Int → Nat) : ∀ L : List PHold, (lockVals ad L).length = L.length * 3
  | [] => rfl
  | x :: L => by rw [lockVals_cons, List.length_append, lockVals_len ad L]; simp [lockCells]; omega
theorem lockCells_one (ad : Int → Nat) (x : PHold) : ∀ u ∈ lockCells ad x, u.oneCell' = true := by
  intro u hu
  simp only [lockCells, List.mem_cons, List.not_mem_nil, or_false] at hu
  rcases hu with rfl | rfl | rfl <;> rfl
theorem lockVals_one (ad : Int → Nat) (L : List PHold) : ∀ u ∈ lockVals ad L, u.oneCell' = true := by
  intro u hu
  obtain ⟨x, _, hx⟩ := List.mem_flatMap.1 hu
  exact lockCells_one ad x u hx
end Go.Proofs.YtfjhpfgffbghdaaGreatDoor

namespace Go.Proofs.YtfjhpfgffbghdaaGreatDoor
open Go.RowKit

/-- Block b is a set that has just the numbers of a list. -/
def IntSet (w : World) (b n : Nat) (S : List Int) : Prop :=
  ∃ D : DataW Unit, w.ownsMap Tryz.prog 3 unitElem b n D ∧ Maps.IsMap D ∧ ∀ i : Int, Maps.has D (.int .i64 i) = decide (i ∈ S)

theorem IntSet.lt {w : World} {b n : Nat} {S : List Int} (h : IntSet w b n S) : b < w.heap.size := let ⟨_, h, _⟩ := h; h.lt
theorem IntSet.heap {w w' : World} {b n : Nat} {S : List Int} (h : IntSet w b n S) (he : w'.heap[b]? = w.heap[b]?) : IntSet w' b n S := by
  obtain ⟨D, ⟨es, clock, hb, F, hs, hD⟩, h2, h3⟩ := h
  exact ⟨D, ⟨es, clock, he.trans hb, F, hs, hD⟩, h2, h3⟩
theorem IntSet.below {w w' : World} {b n : Nat} {S : List Int} (h : IntSet w b n S) (hb : Below w.heap.size w w') : IntSet w' b n S := h.heap (hb.block b h.lt)
/-- The block of a set is no block of cells. -/
theorem IntSet.far {w : World} {b n : Nat} {S : List Int} (h : IntSet w b n S) {c : Nat} {cs : Array Value} {t : TypeId} {fr : Nat × Nat} (hc : w.heap[c]? = some (.cells cs t fr)) : c ≠ b := by
  obtain ⟨D, ⟨es, clock, hh, _⟩, _⟩ := h
  intro e; subst e; rw [hh] at hc; cases hc

theorem set_zero (w : World) : (zeroValue 127).run Tryz.prog w = .ok (.agg #[]) w := by kernel_rfl

set_option maxHeartbeats 400000 in
theorem setOf_none (w : World) : Calls Tryz.prog 75 #[.slice none 0 0] w fun e w' => e = .returned (.map (some w.heap.size)) ∧ IntSet w' w.heap.size 0 [] ∧ Below w.heap.size w w' := by
  have hmm := @run_makeMap Tryz.prog
  have hset : IntSet (w.alloc (.map #[] 0)) w.heap.size 0 [] := ⟨.map [], World.ownsMap_made w _ _ _, ⟨[], rfl⟩, fun i => by simp [Maps.has]⟩
  go_enter Tryz.func75, Tryz.ntmps75
  go_wp2
  refine wp_loop_rounds 1 ?_
  rw [rounds_succ]
  go_wp2
  go_ret
  exact ⟨rfl, hset, (Below.refl _ _).alloc (Nat.le_refl _) _⟩

set_option maxHeartbeats 400000 in
theorem has_any (b n : Nat) (S : List Int) (i : Int) (w : World) (h : IntSet w b n S) (hi : Wf64 i) (r : Bool) (hr : r = decide (i ∈ S)) :
    Calls Tryz.prog 89 #[.map (some b), .int .i64 i] w fun e w' => e = .returned (.bool r) ∧ Below w.heap.size w w' := by
  obtain ⟨D, hown, hD, hhas⟩ := h
  have HR : Hid (Maps.has D (.int .i64 i) = r) := (hhas i).trans hr.symm
  clear hhas hr
  go_enter Tryz.func89, Tryz.ntmps89
  go_wp2_with (at_lookup; refine wpList_lookup_own_unit _ rfl _ _ 77 rfl 3 127 (Maps.int_keyed Tryz.underlying3) Tryz.underlying77 (set_zero _) b n D rfl hown _ _ rfl (Maps.keyOf_int_mk Tryz.underlying3 hi) ?_)
  go_ret
  exact ⟨ret_bool HR.out, (Below.refl _ _).alloc (Nat.le_refl _) _⟩

set_option maxHeartbeats 400000 in
theorem add_any (b n : Nat) (S : List Int) (i : Int) (w : World) (h : IntSet w b n S) (hn : n ≤ 1048576) (hi : Wf64 i) :
    Calls Tryz.prog 78 #[.map (some b), .int .i64 i] w fun e w' => e = .returned (.tuple #[]) ∧ IntSet w' b (n + 1) (i :: S) ∧ w.grownBy w' (some b) := by
  obtain ⟨D, hown, hD, hhas⟩ := h
  have HD := hide hD
  have HHas := hide hhas
  clear hD hhas
  go_enter Tryz.func78, Tryz.ntmps78
  go_wp2_with (at_mapUpdate; refine wpList_mapUpdate_own _ rfl _ _ _ 77 rfl 3 127 (Maps.int_keyed Tryz.underlying3) Tryz.underlying77 (unitElem (H := Unit)) b n D rfl hown (by unfold maxLen; omega) _ _ _ rfl rfl (Maps.keyOf_int_mk Tryz.underlying3 hi) _ [] unitElem_mk ?_)
  intro w2 hown2 hgr2
  have HS : Hid (IntSet w2 b (n + 1) (i :: S)) := by
    refine ⟨_, hown2, ?_, fun j => ?_⟩
    · obtain ⟨es, rfl⟩ := HD.out; exact ⟨_, rfl⟩
    · by_cases e : j = i
      · subst e; rw [Maps.has_put_same HD.out (by trivial)]; simp
      · rw [Maps.has_put_other (by intro h; simp at h; exact e h), HHas.out]; simp [e]
  clear hown2
  go_wp2
  exact bodyPost_end (v := .tuple #[]) (results_none rfl _ _ _) rfl ⟨rfl, HS.out, hgr2⟩
end Go.Proofs.YtfjhpfgffbghdaaGreatDoor
