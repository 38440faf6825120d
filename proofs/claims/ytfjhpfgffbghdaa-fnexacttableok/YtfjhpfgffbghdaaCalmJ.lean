/-
  A region that draws its order, whose operations read old memory and whose callees make new memory alone: one walk, in the order of the text.
-/
import Derived.Test.YtfjhpfgffbghdaaJoinA
import Derived.Deep.Quiet
import Derived.Deep.QuietTactic
import Derived.BigQuiet
namespace Go.Proofs.Ytfjhpfgffbghdaa
open Go.RowKit

/-- The worlds in which all that W has is as it is there. -/
structure Calm (W : World) where
  out : World
  below : Below W.heap.size W out

instance (W : World) : Nonempty (Calm W) := ⟨⟨W, Below.refl _ _⟩⟩

theorem calm_cell (W : World) (t : Calm W) (b o : Nat) (h : b < W.heap.size) : t.out.cell? ⟨b, o, none⟩ = W.cell? ⟨b, o, none⟩ := t.below.cell (p := ⟨b, o, none⟩) h

theorem wp_region_calm {P : Program} {id : Nat} {Q : Exit → Act → World → Prop} {a : Act} {w : World} {l : List Oper} (hm : P.follows .mixedOrders = true) (hB : Region.lexB .any l.toArray = true)
    (h : wpQuiet P l.toArray (fun w' => ∃ t : Calm w, w' = t.out) (fun a' => ∀ w', (∃ t : Calm w, w' = t.out) → Q .normal a' w') l a) : (Code.region id l.toArray true).wp P Q a w :=
  wp_region_quiet (C := fun w' => ∃ t : Calm w, w' = t.out) hm hB ⟨⟨_, (Below.refl _ _).drew⟩, rfl⟩ (by simpa using h)

theorem calm_of {P : Program} {f : FuncId} {args : Array Value} {W : World} {t : Calm W} {v : Value}
    (h : Calls P f args t.out fun e w' => e = .returned v ∧ Below t.out.heap.size t.out w') : Calls P f args t.out fun e w'' => e = .returned v ∧ ∃ t' : Calm W, w'' = t'.out :=
  h.mono fun _ _ ⟨he, hb⟩ => ⟨he, ⟨_, t.below.trans (hb.mono t.below.size)⟩, rfl⟩

theorem calm_of_same {P : Program} {f : FuncId} {args : Array Value} {W : World} {t : Calm W} {v : Value}
    (h : Calls P f args t.out fun e w' => e = .returned v ∧ w' = t.out) : Calls P f args t.out fun e w'' => e = .returned v ∧ ∃ t' : Calm W, w'' = t'.out :=
  h.mono fun _ _ ⟨he, hb⟩ => ⟨he, t, hb⟩

end Go.Proofs.Ytfjhpfgffbghdaa
