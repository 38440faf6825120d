/-
  The program's locks in memory: a box with the tree and a list of locks, each with the pointer to its branch.
  What the program asks of a session and a node, and of a hold, of a tree in memory.
-/
import Derived.Test.YtfjhpfgffbghdaaJoinF
import Derived.Deep.AppendLies
namespace Go.Proofs.Ytfjhpfgffbghdaa
open Go.RowKit

/-- A lock's cells. -/
def lockCells (ad : Int → Nat) (x : PHold) : List Value := [.int .i64 x.session, .int .i64 x.mode, .pointer (some ⟨ad x.node, 0, none⟩)]
def lockVals (ad : Int → Nat) (L : List PHold) : List Value := L.flatMap (lockCells ad)
@[reducible] def lockVal (ad : Int → Nat) (x : PHold) : Value := .agg #[.int .i64 x.session, .int .i64 x.mode, .pointer (some ⟨ad x.node, 0, none⟩)]

theorem lockVals_cons (ad : Int → Nat) (x : PHold) (L : List PHold) : lockVals ad (x :: L) = lockCells ad x ++ lockVals ad L := rfl
theorem lockVals_snoc (ad : Int → Nat) (L : List PHold) (x : PHold) : lockVals ad (L ++ [x]) = lockVals ad L ++ lockCells ad x := by simp [lockVals]

theorem lockVals_get (ad : Int → Nat) : ∀ {L : List PHold} {j o : Nat}, j < L.length → o < 3 → (lockVals ad L)[j * 3 + o]? = (lockCells ad (L[j]?.getD holdNil))[o]?
  | [], _, _, h, _ => by simp at h
  | x :: L, 0, o, _, ho => by
    rw [lockVals_cons, Nat.zero_mul, Nat.zero_add, List.getElem?_append_left (by simp [lockCells]; omega)]; rfl
  | x :: L, j + 1, o, h, ho => by
    have hl : (lockCells ad x).length = 3 := rfl
    rw [lockVals_cons, List.getElem?_append_right (by rw [hl]; omega), hl, show (j + 1) * 3 + o - 3 = j * 3 + o by omega]
    have := lockVals_get ad (L := L) (j := j) (o := o) (by simpa using h) ho
    rw [this]; rfl

/-- Three cells are a lock. -/
structure LockAt (w : World) (ad : Int → Nat) (b o : Nat) (x : PHold) : Prop where
  c0 : w.cell? ⟨b, o, none⟩ = some (.int .i64 x.session)
  c1 : w.cell? ⟨b, o + 1, none⟩ = some (.int .i64 x.mode)
  c2 : w.cell? ⟨b, o + 2, none⟩ = some (.pointer (some ⟨ad x.node, 0, none⟩))

theorem LockAt.below {n₀ : Nat} {w w' : World} {ad : Int → Nat} {b o : Nat} {x : PHold} (h : LockAt w ad b o x) (hlt : b < n₀) (hb : Below n₀ w w') : LockAt w' ad b o x where
  c0 := (hb.cell (p := ⟨b, o, none⟩) hlt).trans h.c0
  c1 := (hb.cell (p := ⟨b, o + 1, none⟩) hlt).trans h.c1
  c2 := (hb.cell (p := ⟨b, o + 2, none⟩) hlt).trans h.c2

/-- The box of locks at a block: the tree, and the locks of a list. -/
def LocksAt (n₁ : Nat) (w : World) (lb tb : Nat) (ad : Int → Nat) (L : List PHold) : Prop :=
  lb < n₁ ∧ w.cell? ⟨lb, 0, none⟩ = some (.pointer (some ⟨tb, 0, none⟩)) ∧ ∃ a cap, w.cell? ⟨lb, 1, none⟩ = some (.slice a L.length cap) ∧ (L = [] ∨ ∃ b, a = some ⟨b, 0, none⟩ ∧ b < n₁ ∧ ∀ j, j < L.length → LockAt w ad b (j * 3) (L[j]?.getD holdNil))

theorem LocksAt.below {n₁ n₂ : Nat} {w w' : World} {lb tb : Nat} {ad : Int → Nat} {L : List PHold} (h : LocksAt n₁ w lb tb ad L) (hn : n₁ ≤ n₂) (hb : Below n₁ w w') : LocksAt n₂ w' lb tb ad L := by
  obtain ⟨h0, h1, a, cap, h2, h3⟩ := h
  refine ⟨by omega, (hb.cell (p := ⟨lb, 0, none⟩) h0).trans h1, a, cap, (hb.cell (p := ⟨lb, 1, none⟩) h0).trans h2, h3.imp id ?_⟩
  rintro ⟨b, rfl, hlt, hc⟩
  exact ⟨b, rfl, by omega, fun j hj => (hc j hj).below hlt hb⟩

theorem locks_of_row {w : World} {base lb tb cap : Nat} {T e : TypeId} {ad : Int → Nat} {L : List PHold} {v : Value} (hbox : w.heap[lb]? = some (.cells #[.pointer (some ⟨tb, 0, none⟩), v] T (0, 0))) (hv : ∃ a, v = .slice a L.length cap) (h : w.ownsRow base e 3 v L.length (lockVals ad L)) : LocksAt w.heap.size w lb tb ad L := by
  obtain ⟨a, rfl⟩ := hv
  have h' := h
  refine ⟨(Array.getElem?_eq_some_iff.1 hbox).1, cell_of_heap hbox 0, a, cap, cell_of_heap hbox 1, ?_⟩
  obtain ⟨_, ⟨e1, h0⟩ | ⟨g, cap', cur, e1, hg, hh, _⟩⟩ := h
  · exact .inl (List.eq_nil_of_length_eq_zero h0)
  · simp only [Value.slice.injEq, true_and] at e1
    obtain ⟨rfl, rfl⟩ := e1
    refine .inr ⟨g, rfl, (Array.getElem?_eq_some_iff.1 hh).1, fun j hj => ?_⟩
    have G : ∀ o u, o < 3 → (lockCells ad (L[j]?.getD holdNil))[o]? = some u → w.cell? ⟨g, j * 3 + o, none⟩ = some u := fun o u ho hu => by
      have := h'.cells (g := g) rfl (j * 3 + o) u ((lockVals_get ad hj ho).trans hu)
      rwa [Go.WideShapes.add_plain, Nat.zero_add] at this
    exact ⟨by simpa using G 0 _ (by decide) rfl, G 1 _ (by decide) rfl, G 2 _ (by decide) rfl⟩

/-- A lock of an owned row, cell by cell. -/
theorem row_lockAt {w : World} {base g cap n : Nat} {e : TypeId} {ad : Int → Nat} {L : List PHold} (h : w.ownsRow base e 3 (.slice (some ⟨g, 0, none⟩) n cap) n (lockVals ad L)) {j : Nat} (hj : j < L.length) : LockAt w ad g (j * 3) (L[j]?.getD holdNil) := by
  have G : ∀ o u, o < 3 → (lockCells ad (L[j]?.getD holdNil))[o]? = some u → w.cell? ⟨g, j * 3 + o, none⟩ = some u := fun o u ho hu => by
    have := h.cells (g := g) rfl (j * 3 + o) u ((lockVals_get ad hj ho).trans hu)
    rwa [Go.WideShapes.add_plain, Nat.zero_add] at this
  exact ⟨by simpa using G 0 _ (by decide) rfl, G 1 _ (by decide) rfl, G 2 _ (by decide) rfl⟩

theorem row_block {w : World} {base n size : Nat} {e : TypeId} {v : Value} {xs : List Value} (h : w.ownsRow base e size v n xs) (hn : 0 < n) : ∃ g cap, v = .slice (some ⟨g, 0, none⟩) n cap ∧ g < w.heap.size ∧ base ≤ g := by
  obtain ⟨_, ⟨rfl, h0⟩ | ⟨g, cap, cur, rfl, hg, hh, _⟩⟩ := h
  · omega
  · exact ⟨g, cap, rfl, (Array.getElem?_eq_some_iff.1 hh).1, hg⟩

theorem slice_form {w : World} {B : Nat} {e : TypeId} {size : Nat} {v : Value} {n : Nat} {xs : List Value} (h : w.ownsRow B e size v n xs) : ∃ a cap, v = .slice a n cap := by
  obtain ⟨_, ⟨rfl, rfl⟩ | ⟨g, cap, cur, rfl, _⟩⟩ := h
  · exact ⟨none, 0, rfl⟩
  · exact ⟨_, cap, rfl⟩

/-- The box of locks, and the list in it, which is its own. -/
def LocksOwn (lo : Nat) (w : World) (lb tb : Nat) (ad : Int → Nat) (L : List PHold) : Prop :=
  lo ≤ lb ∧ ∃ u, w.heap[lb]? = some (.cells #[.pointer (some ⟨tb, 0, none⟩), u] 81 (0, 0)) ∧ w.ownsRow (lb + 1) 72 3 u L.length (lockVals ad L)

theorem LocksOwn.at {lo : Nat} {w : World} {lb tb : Nat} {ad : Int → Nat} {L : List PHold} (h : LocksOwn lo w lb tb ad L) : LocksAt w.heap.size w lb tb ad L := by
  obtain ⟨_, u, hb, hr⟩ := h
  obtain ⟨a, c, rfl⟩ := slice_form hr
  exact locks_of_row hb ⟨a, rfl⟩ hr

theorem LocksOwn.below {lo lo' : Nat} {w w' : World} {lb tb : Nat} {ad : Int → Nat} {L : List PHold} (h : LocksOwn lo w lb tb ad L) (hl : lo' ≤ lo) (hb : Below w.heap.size w w') : LocksOwn lo' w' lb tb ad L := by
  obtain ⟨h0, u, h1, h2⟩ := h
  exact ⟨by omega, u, (hb.block lb (Array.getElem?_eq_some_iff.1 h1).1).trans h1, ownsRow_below h2 hb⟩

theorem LocksOwn.lt {lo : Nat} {w : World} {lb tb : Nat} {ad : Int → Nat} {L : List PHold} (h : LocksOwn lo w lb tb ad L) : lo ≤ lb ∧ lb < w.heap.size := by
  obtain ⟨h0, u, h1, _⟩ := h
  exact ⟨h0, (Array.getElem?_eq_some_iff.1 h1).1⟩

/-- Other blocks below the box may be written. -/
theorem LocksOwn.aside {lo : Nat} {w w' : World} {lb tb b : Nat} {ad : Int → Nat} {L : List PHold} (h : LocksOwn lo w lb tb ad L) (hlt : b < lo) (ho : ∀ m, m ≠ b → w'.heap[m]? = w.heap[m]?) : LocksOwn lo w' lb tb ad L := by
  obtain ⟨h0, u, h1, h2⟩ := h
  refine ⟨h0, u, (ho _ (by omega)).trans h1, ?_⟩
  obtain ⟨hl, h3 | ⟨g, cap, cur, e, hg, hh, h4⟩⟩ := h2
  · exact ⟨hl, .inl h3⟩
  · exact ⟨hl, .inr ⟨g, cap, cur, e, hg, (ho _ (by omega)).trans hh, h4⟩⟩

/-- A branch's number in memory. -/
theorem Grown.idCell {n₀ : Nat} {W : World} {d : PDoc} {tb : Nat} {ad : Int → Nat} {up : Int → Option Int} {kv : Int → Value} (h : Grown n₀ W d tb ad up kv) {i : Int} (hi : i ∈ idsOf d.nodes) : W.cell? ⟨ad i, 0, none⟩ = some (.int .i64 i) ∧ ad i < W.heap.size := by
  obtain ⟨x, hx, rfl⟩ := List.mem_map.1 hi
  exact ⟨cell_of_heap (h.hung.node x hx) 0, h.hung.lt hx⟩

/-- The tree lies in blocks from lo to below hi, and stays there. -/
def GrownIn (lo hi : Nat) (w : World) (d : PDoc) (tb : Nat) (ad : Int → Nat) (up : Int → Option Int) (kv : Int → Value) : Prop :=
  ∃ (w1 : World) (b0 : Nat), lo ≤ b0 ∧ Grown b0 w1 d tb ad up kv ∧ w1.heap.size ≤ hi ∧ b0 ≤ tb ∧ ∀ b, b0 ≤ b → b < hi → w.heap[b]? = w1.heap[b]?

theorem Grown.lower {lo lo' : Nat} {w : World} {d : PDoc} {tb : Nat} {ad : Int → Nat} {up : Int → Option Int} {kv : Int → Value} (h : Grown lo w d tb ad up kv) (hl : lo' ≤ lo) : Grown lo' w d tb ad up kv := ⟨h.hung.mono hl, h.upNone, h.upKid, h.top⟩

theorem GrownIn.out {lo hi : Nat} {w : World} {d : PDoc} {tb : Nat} {ad : Int → Nat} {up : Int → Option Int} {kv : Int → Value} (h : GrownIn lo hi w d tb ad up kv) : Grown lo w d tb ad up kv := by
  obtain ⟨w1, b0, hl, g, hs, ht, hk⟩ := h
  have htl := (Array.getElem?_eq_some_iff.1 g.top).1
  refine Grown.lower (lo := b0) ?_ hl
  exact
    { hung :=
        { base := g.hung.base
          node := fun x hx => (hk _ (g.hung.base x hx) (by have := g.hung.lt hx; omega)).trans (g.hung.node x hx)
          row := fun x hx => by
            obtain ⟨hl, h3 | ⟨b, cap, cur, e, hg, hh, h4⟩⟩ := g.hung.row x hx
            · exact ⟨hl, .inl h3⟩
            · exact ⟨hl, .inr ⟨b, cap, cur, e, hg, (hk b hg (by have := (Array.getElem?_eq_some_iff.1 hh).1; omega)).trans hh, h4⟩⟩
          inj := g.hung.inj
          apart := g.hung.apart }
      upNone := g.upNone
      upKid := g.upKid
      top := (hk tb ht (by omega)).trans g.top }

theorem GrownIn.kept {lo hi : Nat} {w w' : World} {d : PDoc} {tb : Nat} {ad : Int → Nat} {up : Int → Option Int} {kv : Int → Value} (h : GrownIn lo hi w d tb ad up kv) (hk : ∀ b, lo ≤ b → b < hi → w'.heap[b]? = w.heap[b]?) : GrownIn lo hi w' d tb ad up kv := by
  obtain ⟨w1, b0, hl, g, hs, ht, h1⟩ := h
  exact ⟨w1, b0, hl, g, hs, ht, fun b h2 h3 => (hk b (by omega) h3).trans (h1 b h2 h3)⟩

theorem GrownIn.below {lo lo' hi : Nat} {w w' : World} {d : PDoc} {tb : Nat} {ad : Int → Nat} {up : Int → Option Int} {kv : Int → Value} (h : GrownIn lo hi w d tb ad up kv) (hl : lo' ≤ lo) (hb : Below hi w w') : GrownIn lo' hi w' d tb ad up kv := by
  obtain ⟨w1, b0, hl0, g, hs, ht, h1⟩ := h
  exact ⟨w1, b0, by omega, g, hs, ht, fun b h2 h3 => (hb.block b h3).trans (h1 b h2 h3)⟩

/-- The code of what is asked of a session and a node of a right document. -/
noncomputable def forCode (d : PDoc) (s i : Int) : Int := by
  classical exact if 1 ≤ s ∧ s ≤ 999 then if i ∈ idsOf d.nodes then 0 else 5 else 4
theorem forCode_range {d : PDoc} {s i : Int} (h : ¬ (1 ≤ s ∧ s ≤ 999)) : forCode d s i = 4 := by unfold forCode; rw [if_neg h]
theorem forCode_none {d : PDoc} {s i : Int} (h : 1 ≤ s ∧ s ≤ 999) (hi : i ∉ idsOf d.nodes) : forCode d s i = 5 := by unfold forCode; rw [if_pos h, if_neg hi]
theorem forCode_ok {d : PDoc} {s i : Int} (h : 1 ≤ s ∧ s ≤ 999) (hi : i ∈ idsOf d.nodes) : forCode d s i = 0 := by unfold forCode; rw [if_pos h, if_pos hi]
theorem forCode_zero {d : PDoc} {s i : Int} (h : forCode d s i = 0) : (1 ≤ s ∧ s ≤ 999) ∧ i ∈ idsOf d.nodes := by
  unfold forCode at h
  split at h
  · rename_i hs
    split at h
    · rename_i hi; exact ⟨hs, hi⟩
    · cases h
  · cases h
theorem lockAsk_for {d : PDoc} {L : List PHold} {s i : Int} (h : heldAsk d L = 0) : lockAsk d L s i = forCode d s i := by unfold lockAsk forCode; rw [if_pos h]

/-- The code of what is asked of a hold of a right document. -/
noncomputable def ofCode (d : PDoc) (x : PHold) : Int := if forCode d x.session x.node = 0 then if 1 ≤ x.mode ∧ x.mode ≤ 5 then 0 else 19 else forCode d x.session x.node
theorem ofCode_zero {d : PDoc} {x : PHold} : ofCode d x = 0 ↔ HoldP d x := by
  unfold ofCode
  constructor
  · intro h
    split at h
    · rename_i h0
      obtain ⟨a, b⟩ := forCode_zero h0
      split at h
      · rename_i hm; exact ⟨a, b, hm⟩
      · cases h
    · rename_i h0; exact absurd h h0
  · rintro ⟨a, b, c⟩
    rw [if_pos (forCode_ok a b), if_pos c]
theorem holdAsk_of {d : PDoc} {L : List PHold} {x : PHold} (h : heldAsk d L = 0) : holdAsk d L x = ofCode d x := by unfold holdAsk ofCode; rw [lockAsk_for h]
end Go.Proofs.Ytfjhpfgffbghdaa

namespace Go.Proofs.Ytfjhpfgffbghdaa
open Go.RowKit Go.Shelf

theorem between_no {a lo hi : Int} (h : ¬ (lo ≤ a ∧ a ≤ hi)) : inB a lo hi = false := by rw [← Bool.not_eq_true, inB_iff]; exact h

set_option maxHeartbeats 1000000 in
set_option maxRecDepth 100000 in
theorem branchFor_any (d : PDoc) (hg : Good d) (n₁ tb : Nat) (ad : Int → Nat) (up : Int → Option Int) (kv : Int → Value) (W : World) (hgr : Grown n₁ W d tb ad up kv) (ss id c : Int) (hc : c = forCode d ss id) (r : Option Addr) (hr : r = if c = 0 then some ⟨ad id, 0, none⟩ else none) :
    Calls Try.prog 73 #[.pointer (some ⟨tb, 0, none⟩), .int .i64 ss, .int .i64 id] W fun e w' => e = .returned (.tuple #[.pointer r, .int .i64 c]) ∧ Below W.heap.size W w' := by
  have HC := hide hc
  have HRr := hide hr
  clear hc hr
  by_cases hs : 1 ≤ ss ∧ ss ≤ 999
  · have hs1 : inB ss 1 999 = true := inB_iff.2 hs
    have htop : W.cell? ⟨tb, 0, none⟩ = some (.pointer (some ⟨ad d.root, 0, none⟩)) := by simpa using cell_of_heap hgr.top 0
    have htb : tb < W.heap.size := (Array.getElem?_eq_some_iff.1 hgr.top).1
    have F := hg.toFlat
    obtain ⟨q, hq⟩ : ∃ q : Option Addr, q = if id ∈ order d.nodes d.nodes.length d.root then some ⟨ad id, 0, none⟩ else none := ⟨_, rfl⟩
    have HF : Hid (Calls Try.prog 94 #[.pointer (some ⟨ad d.root, 0, none⟩), .int .i64 id] W fun e W' => e = .returned (.pointer q) ∧ Below W.heap.size W W') :=
      find_any d.nodes ad up F.walkable W.heap.size d.nodes.length d.root F.rootIn F.low id W (Nat.le_refl _) (hgr.tree hg) q hq
    by_cases hin : id ∈ idsOf d.nodes
    · rw [if_pos ((hg.order_iff id).2 hin)] at hq
      subst hq
      have HE : Hid (c = 0) := HC.out.trans (forCode_ok hs hin)
      have HE2 : Hid (r = some ⟨ad id, 0, none⟩) := by have := HRr.out; rwa [if_pos HE.out] at this
      clear hgr hg F hin hs
      go_enter Try.func73, Try.ntmps73
      go_wp2_with (first | (go_at_call 87; refine (between_any _ _ _ _).mono ?_; rintro e w' ⟨rfl, rfl⟩) | (go_at_call 94; refine HF.out.mono ?_; rintro e w2 ⟨rfl, hb2⟩))
      go_ret2
      exact ⟨by rw [HE.out, HE2.out]; rfl, hb2⟩
    · rw [if_neg (fun h => hin ((hg.order_iff id).1 h))] at hq
      subst hq
      have HE : Hid (c = 5) := HC.out.trans (forCode_none hs hin)
      have HE2 : Hid (r = none) := by have := HRr.out; rwa [if_neg (by rw [HE.out]; decide)] at this
      clear hgr hg F hin hs
      go_enter Try.func73, Try.ntmps73
      go_wp2_with (first | (go_at_call 87; refine (between_any _ _ _ _).mono ?_; rintro e w' ⟨rfl, rfl⟩) | (go_at_call 94; refine HF.out.mono ?_; rintro e w2 ⟨rfl, hb2⟩))
      go_ret2
      exact ⟨by rw [HE.out, HE2.out]; rfl, hb2⟩
  · have hs1 := between_no hs
    have HE : Hid (c = 4) := HC.out.trans (forCode_range hs)
    have HE2 : Hid (r = none) := by have := HRr.out; rwa [if_neg (by rw [HE.out]; decide)] at this
    clear hgr hg hs
    go_enter Try.func73, Try.ntmps73
    go_wp2_with (go_at_call 87; refine (between_any _ _ _ _).mono ?_; rintro e w' ⟨rfl, rfl⟩)
    go_ret2
    exact ⟨by rw [HE.out, HE2.out]; rfl, Below.refl _ _⟩

/-- What the program makes of a hold: a lock, or nothing. -/
@[reducible] def lockRes (ad : Int → Nat) (x : PHold) : Bool → Value
  | true => lockVal ad x
  | false => .agg #[.int .i64 0, .int .i64 0, .pointer none]

set_option maxHeartbeats 1000000 in
set_option maxRecDepth 100000 in
theorem lockOf_any (d : PDoc) (hg : Good d) (n₁ tb : Nat) (ad : Int → Nat) (up : Int → Option Int) (kv : Int → Value) (W : World) (hgr : Grown n₁ W d tb ad up kv) (x : PHold) (c : Int) (hc : c = ofCode d x) (r : Bool) (hr : r = decide (c = 0)) :
    Calls Try.prog 63 #[.pointer (some ⟨tb, 0, none⟩), holdVal x] W fun e w' => e = .returned (.tuple #[lockRes ad x r, .int .i64 c]) ∧ Below W.heap.size W w' := by
  have hb0 := ((Below.refl W.heap.size W).alloc (Nat.le_refl _) (.cells #[.int .i64 x.session, .int .i64 x.node, .int .i64 x.mode] 42)).alloc (by simp) (.cells #[.int .i64 0, .int .i64 0, .pointer none] 72)
  obtain ⟨c1, hc1⟩ : ∃ c1, c1 = forCode d x.session x.node := ⟨_, rfl⟩
  obtain ⟨p, hp⟩ : ∃ p : Option Addr, p = if c1 = 0 then some ⟨ad x.node, 0, none⟩ else none := ⟨_, rfl⟩
  have HB := hide (branchFor_any d hg n₁ tb ad up kv _ (hgr.below hb0) x.session x.node c1 hc1 p hp)
  have HC := hide hc
  have HC1 := hide hc1
  have HP := hide hp
  have HRr := hide hr
  clear hc hc1 hp hr hgr hg
  by_cases h1 : c1 = 0
  · have HP1 : Hid (p = some ⟨ad x.node, 0, none⟩) := by have := HP.out; rwa [if_pos h1] at this
    have HZ := hide h1
    have hp := HP1.out
    subst h1 hp
    by_cases hm : 1 ≤ x.mode ∧ x.mode ≤ 5
    · have hm1 := inB_iff.2 hm
      have HE : Hid (c = 0) := by rw [Hid, HC.out]; unfold ofCode; rw [if_pos HC1.out.symm, if_pos hm]
      have HE2 : Hid (r = true) := by rw [Hid, HRr.out, HE.out]; rfl
      clear hm HP HP1 HZ
      go_enter Try.func63, Try.ntmps63
      go_wp2_with fail
      refine HB.out.mono ?_
      rintro e w1 ⟨rfl, hb1⟩
      simp only [World.size_alloc] at hb1
      have hs1 := hb1.size
      simp only [World.size_alloc] at hs1
      obtain ⟨hcx, hfx⟩ := bcell (W := (W.alloc (.cells #[.int .i64 x.session, .int .i64 x.node, .int .i64 x.mode] 42)).alloc (.cells #[.int .i64 0, .int .i64 0, .pointer none] 72)) (by simpa using hb1)
      have hz1 : W.heap.size < w1.heap.size := by omega
      have hz2 : W.heap.size + 1 < w1.heap.size := by omega
      go_wp2_with (go_at_call 87; refine (between_any _ _ _ _).mono ?_; rintro e w' ⟨rfl, rfl⟩)
      refine bodyPost_ret (v := .tuple #[lockVal ad x, .int .i64 0]) (by simp [results, Try.results63, go_sem, hcx]) rfl ⟨by rw [HE.out, HE2.out], ?_⟩
      exact ((((hb0.trans (hb1.mono (by omega))).setCell (p := ⟨W.heap.size + 1, 0, none⟩) (by simp) _).setCell (p := ⟨W.heap.size + 1, 1, none⟩) (by simp) _).setCell (p := ⟨W.heap.size + 1, 2, none⟩) (by simp) _)
    · have hm1 := between_no hm
      have HE : Hid (c = 19) := by rw [Hid, HC.out]; unfold ofCode; rw [if_pos HC1.out.symm, if_neg hm]
      have HE2 : Hid (r = false) := by rw [Hid, HRr.out, HE.out]; rfl
      clear hm HP HP1 HZ
      go_enter Try.func63, Try.ntmps63
      go_wp2_with fail
      refine HB.out.mono ?_
      rintro e w1 ⟨rfl, hb1⟩
      simp only [World.size_alloc] at hb1
      have hs1 := hb1.size
      simp only [World.size_alloc] at hs1
      obtain ⟨hcx, hfx⟩ := bcell (W := (W.alloc (.cells #[.int .i64 x.session, .int .i64 x.node, .int .i64 x.mode] 42)).alloc (.cells #[.int .i64 0, .int .i64 0, .pointer none] 72)) (by simpa using hb1)
      have hz1 : W.heap.size < w1.heap.size := by omega
      have hz2 : W.heap.size + 1 < w1.heap.size := by omega
      go_wp2_with (go_at_call 87; refine (between_any _ _ _ _).mono ?_; rintro e w' ⟨rfl, rfl⟩)
      refine bodyPost_ret (v := .tuple #[.agg #[.int .i64 0, .int .i64 0, .pointer none], .int .i64 19]) (by simp [results, Try.results63, go_sem, hcx]) rfl ⟨by rw [HE.out, HE2.out], ?_⟩
      exact ((((hb0.trans (hb1.mono (by omega))).setCell (p := ⟨W.heap.size + 1, 0, none⟩) (by simp) _).setCell (p := ⟨W.heap.size + 1, 1, none⟩) (by simp) _).setCell (p := ⟨W.heap.size + 1, 2, none⟩) (by simp) _)
  · have HP1 : Hid (p = none) := by have := HP.out; rwa [if_neg h1] at this
    have hp := HP1.out
    subst hp
    have HE : Hid (c = c1) := by rw [Hid, HC.out]; unfold ofCode; rw [if_neg (by rw [← HC1.out]; exact h1)]; exact HC1.out.symm
    have HE2 : Hid (r = false) := by rw [Hid, HRr.out, HE.out]; simp [h1]
    have h11 : (c1 != 0) = true := by simp [h1]
    clear h1 HP HP1
    go_enter Try.func63, Try.ntmps63
    go_wp2_with fail
    refine HB.out.mono ?_
    rintro e w1 ⟨rfl, hb1⟩
    simp only [World.size_alloc] at hb1
    have hs1 := hb1.size
    simp only [World.size_alloc] at hs1
    obtain ⟨hcx, hfx⟩ := bcell (W := (W.alloc (.cells #[.int .i64 x.session, .int .i64 x.node, .int .i64 x.mode] 42)).alloc (.cells #[.int .i64 0, .int .i64 0, .pointer none] 72)) (by simpa using hb1)
    have hz1 : W.heap.size < w1.heap.size := by omega
    have hz2 : W.heap.size + 1 < w1.heap.size := by omega
    go_wp2_with fail
    refine bodyPost_ret (v := .tuple #[.agg #[.int .i64 0, .int .i64 0, .pointer none], .int .i64 c1]) (by simp [results, Try.results63, go_sem, hcx]) rfl ⟨by rw [HE.out, HE2.out], ?_⟩
    exact ((((hb0.trans (hb1.mono (by omega))).setCell (p := ⟨W.heap.size + 1, 0, none⟩) (by simp) _).setCell (p := ⟨W.heap.size + 1, 1, none⟩) (by simp) _).setCell (p := ⟨W.heap.size + 1, 2, none⟩) (by simp) _)
end Go.Proofs.Ytfjhpfgffbghdaa
