/-
  Peace among locks, plainly.
-/
import Derived.Test.YtfjhpfgffbghdaaDoorSessPlainJ
import Derived.Test.YtfjhpfgffbghdaaDoorJoinG
namespace Go.Proofs.YtfjhpfgffbghdaaDoor

/-- The b-th and the a-th session have what fits on the node. -/
noncomputable def fitAt (d : PDoc) (L : List PHold) (i : Int) (b a : Nat) : Bool := fitsB (modeAtP d L ((sessP L)[b]?.getD 0) i) (modeAtP d L ((sessP L)[a]?.getD 0) i)

/-- On the node what any two sessions have fits. -/
def PeaceAt (d : PDoc) (L : List PHold) (i : Int) : Prop := ∀ b, b < (sessP L).length → ∀ a, a < b → fitAt d L i b a = true

def PeaceP (d : PDoc) (L : List PHold) : Prop := ∀ i ∈ idsOf d.nodes, PeaceAt d L i

theorem peace_place {d : PDoc} {L : List PHold} : PeaceP d L ↔ ∀ b, b < (sessP L).length → ∀ a, a < b → ∀ n, n < d.nodes.length → fitAt d L (d.nodes[n]?.getD nodeNil).id b a = true := by
  constructor
  · intro h b hb a ha n hn
    refine h _ ?_ b hb a ha
    rw [List.getElem?_eq_getElem hn, Option.getD_some]
    exact List.mem_map_of_mem (List.getElem_mem hn)
  · intro h i hi b hb a ha
    obtain ⟨x, hx, rfl⟩ := List.mem_map.1 hi
    obtain ⟨n, hn, rfl⟩ := List.getElem_of_mem hx
    have := h b hb a ha n hn
    rwa [List.getElem?_eq_getElem hn, Option.getD_some] at this

/-- The answer to whether there is peace. -/
noncomputable def peaceAns (d : PDoc) (L : List PHold) : Bool := if heldAsk d L = 0 then dec (PeaceP d L) else false
theorem peaceAns_no {d : PDoc} {L : List PHold} (h : heldAsk d L ≠ 0) : peaceAns d L = false := by unfold peaceAns; rw [if_neg h]
theorem peaceAns_ok {d : PDoc} {L : List PHold} (h : heldAsk d L = 0) : peaceAns d L = true ↔ PeaceP d L := by unfold peaceAns; rw [if_pos h]; exact dec_iff _
end Go.Proofs.YtfjhpfgffbghdaaDoor
