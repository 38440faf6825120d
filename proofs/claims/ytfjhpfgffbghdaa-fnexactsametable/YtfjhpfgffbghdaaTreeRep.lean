/-
  How a document lies in memory: lists of numbers, lists of nodes, documents as values; and that they stay where only new memory is written.
-/
import Derived.Test.YtfjhpfgffbghdaaTreePlain
import Derived.Test.YtfjhpfgffbghdaaProg
import Derived.WalkKit
import Derived.WalkSpells
import Derived.OwnWalk
import Derived.Maps.Own
namespace Go.Proofs.Ytfjhpfgffbghdaa
open Go.RowKit

theorem hide {p : Prop} (h : p) : Hid p := h

def Wf64 (i : Int) : Prop := (Lit.int .i64 i).wf = true

theorem wf64_of {i : Int} (h1 : -9223372036854775808 ≤ i) (h2 : i ≤ 9223372036854775807) : Wf64 i := by
  have e1 : IntKind.i64.min = -9223372036854775808 := by decide
  have e2 : IntKind.i64.max = 9223372036854775807 := by decide
  simp [Wf64, Lit.wf, e1, e2, h1, h2]

theorem bcell {W w1 : World} (hb : Below W.heap.size W w1) : (∀ b o, b < W.heap.size → w1.cell? ⟨b, o, none⟩ = W.cell? ⟨b, o, none⟩) ∧ (∀ b o, b < W.heap.size → w1.frozen? ⟨b, o, none⟩ = W.frozen? ⟨b, o, none⟩) :=
  ⟨fun b o h => hb.cell (p := ⟨b, o, none⟩) h, fun b o h => hb.frozen (p := ⟨b, o, none⟩) h⟩

/-- The value is a list of numbers, in blocks below n₀. -/
def IntsAt (n₀ : Nat) (w : World) (v : Value) (ks : List Int) : Prop :=
  ∃ (a : Option Addr) (cap : Nat), v = .slice a ks.length cap ∧ (ks = [] ∨ ∃ b off, a = some ⟨b, off, none⟩ ∧ b < n₀ ∧ ∀ j, j < ks.length → w.cell? ⟨b, off + j, none⟩ = some (.int .i64 (ks[j]?.getD 0)))

theorem IntsAt.below {n₀ n₁ : Nat} {w w' : World} {v : Value} {ks : List Int} (h : IntsAt n₀ w v ks) (hn : n₀ ≤ n₁) (hb : Below n₀ w w') : IntsAt n₁ w' v ks := by
  obtain ⟨a, cap, rfl, h⟩ := h
  refine ⟨a, cap, rfl, h.imp id ?_⟩
  rintro ⟨b, off, rfl, hlt, hc⟩
  exact ⟨b, off, rfl, by omega, fun j hj => (hb.cell (p := ⟨b, off + j, none⟩) hlt).trans (hc j hj)⟩

/-- Five cells are a node. -/
structure NodeAt (n₀ : Nat) (w : World) (b o : Nat) (x : PNode) : Prop where
  c0 : w.cell? ⟨b, o, none⟩ = some (.int .i64 x.id)
  c1 : w.cell? ⟨b, o + 1, none⟩ = some (.int .i64 x.kind)
  c2 : w.cell? ⟨b, o + 2, none⟩ = some (.int .i64 x.attr)
  c3 : w.cell? ⟨b, o + 3, none⟩ = some (.string x.text)
  c4 : ∃ v, w.cell? ⟨b, o + 4, none⟩ = some v ∧ IntsAt n₀ w v x.kids

def nodeNil : PNode := ⟨0, 0, 0, ByteArray.empty, []⟩

/-- The value is a list of nodes, in blocks below n₀. -/
def NodesAt (n₀ : Nat) (w : World) (v : Value) (l : List PNode) : Prop :=
  ∃ (a : Option Addr) (cap : Nat), v = .slice a l.length cap ∧ (l = [] ∨ ∃ b off, a = some ⟨b, off, none⟩ ∧ b < n₀ ∧ ∀ j, j < l.length → NodeAt n₀ w b (off + j * 5) (l[j]?.getD nodeNil))

theorem NodeAt.below {n₀ n₁ : Nat} {w w' : World} {b o : Nat} {x : PNode} (h : NodeAt n₀ w b o x) (hlt : b < n₀) (hn : n₀ ≤ n₁) (hb : Below n₀ w w') : NodeAt n₁ w' b o x where
  c0 := (hb.cell (p := ⟨b, o, none⟩) hlt).trans h.c0
  c1 := (hb.cell (p := ⟨b, o + 1, none⟩) hlt).trans h.c1
  c2 := (hb.cell (p := ⟨b, o + 2, none⟩) hlt).trans h.c2
  c3 := (hb.cell (p := ⟨b, o + 3, none⟩) hlt).trans h.c3
  c4 := by
    obtain ⟨v, hv, hi⟩ := h.c4
    exact ⟨v, (hb.cell (p := ⟨b, o + 4, none⟩) hlt).trans hv, hi.below hn hb⟩

theorem NodesAt.below {n₀ n₁ : Nat} {w w' : World} {v : Value} {l : List PNode} (h : NodesAt n₀ w v l) (hn : n₀ ≤ n₁) (hb : Below n₀ w w') : NodesAt n₁ w' v l := by
  obtain ⟨a, cap, rfl, h⟩ := h
  refine ⟨a, cap, rfl, h.imp id ?_⟩
  rintro ⟨b, off, rfl, hlt, hc⟩
  exact ⟨b, off, rfl, by omega, fun j hj => (hc j hj).below hlt hn hb⟩

/-- The value is a document. -/
def DocAt (n₀ : Nat) (w : World) (v : Value) (d : PDoc) : Prop :=
  ∃ s, v = .agg #[.int .i64 d.root, .int .i64 d.next, s] ∧ NodesAt n₀ w s d.nodes

theorem DocAt.below {n₀ n₁ : Nat} {w w' : World} {v : Value} {d : PDoc} (h : DocAt n₀ w v d) (hn : n₀ ≤ n₁) (hb : Below n₀ w w') : DocAt n₁ w' v d := by
  obtain ⟨s, rfl, h⟩ := h
  exact ⟨s, rfl, h.below hn hb⟩

theorem alloc_new (w : World) (o : Obj) : (w.alloc o).heap[w.heap.size]? = some o := (MapKept.heap_alloc w o).1

theorem cell_of_heap {w : World} {b : Nat} {cs : Array Value} {t : TypeId} (h : w.heap[b]? = some (.cells cs t (0, 0))) (j : Nat) : w.cell? ⟨b, j, none⟩ = cs[j]? := by simp [World.cell?, h]
theorem frozen_of_heap {w : World} {b : Nat} {cs : Array Value} {t : TypeId} (h : w.heap[b]? = some (.cells cs t (0, 0))) (j : Nat) : w.frozen? ⟨b, j, none⟩ = false := by simp [World.frozen?, h]

/-- What is owned stays so where only new memory is written. -/
theorem ownsRow_below {w w' : World} {base : Nat} {e : TypeId} {size : Nat} {v : Value} {n : Nat} {xs : List Value} (h : w.ownsRow base e size v n xs) (hb : Below w.heap.size w w') : w'.ownsRow base e size v n xs := by
  obtain ⟨hl, h | ⟨g, cap, cur, rfl, hg, hh, h1, h2, h3, h4⟩⟩ := h
  · exact ⟨hl, .inl h⟩
  · exact ⟨hl, .inr ⟨g, cap, cur, rfl, hg, (hb.block g (Array.getElem?_eq_some_iff.1 hh).1).trans hh, h1, h2, h3, h4⟩⟩

/-- A row that is owned is none of another type's blocks. -/
theorem own_other {w : World} {B : Nat} {e T : TypeId} {size : Nat} {v : Value} {n : Nat} {xs : List Value} {b : Nat} {cs : Array Value} {fr : Nat × Nat} (h : w.ownsRow B e size v n xs) (hb : w.heap[b]? = some (.cells cs T fr)) (hT : T ≠ e) : v.ownBlock ≠ some b := by
  obtain ⟨_, ⟨rfl, _⟩ | ⟨g, cap, cur, rfl, _, hh, _⟩⟩ := h
  · simp [Value.ownBlock]
  · intro he
    simp only [Value.ownBlock, Option.some.injEq] at he
    subst he
    rw [hh] at hb
    simp only [Option.some.injEq, Obj.cells.injEq] at hb
    exact hT hb.2.1.symm

theorem ints_of_row {w : World} {base : Nat} {e : TypeId} {v : Value} {ks : List Int} (h : w.ownsRow base e 1 v ks.length (ks.map (Value.int .i64))) : IntsAt w.heap.size w v ks := by
  have h' := h
  obtain ⟨_, ⟨rfl, h0⟩ | ⟨g, cap, cur, rfl, hg, hh, h1, h2, h3, h4⟩⟩ := h
  · have : ks = [] := List.eq_nil_of_length_eq_zero h0
    subst this
    exact ⟨none, 0, rfl, .inl rfl⟩
  · refine ⟨_, cap, rfl, .inr ⟨g, 0, rfl, (Array.getElem?_eq_some_iff.1 hh).1, fun j hj => ?_⟩⟩
    have := h'.cells (g := g) rfl j (.int .i64 (ks[j]?.getD 0)) (by simp [hj])
    rw [Nat.zero_add]; unfold Addr.add at this; split at this <;> simp_all

end Go.Proofs.Ytfjhpfgffbghdaa
