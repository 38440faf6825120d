/-
  A node and those above it, plainly.
-/
import Derived.Test.YtahdgbfcaclflaaDoorOrderPlain
import Derived.Test.YtahdgbfcaclflaaDoorSpecReach
namespace Go.Proofs.YtahdgbfcaclflaaDoor
open Go.RowKit

/-- A node and those above it, so many of them. -/
def ups (l : List PNode) : Nat → Int → List Int
  | 0, i => [i]
  | q + 1, i => i :: ups l q (parentOf l i)

theorem ups_len (l : List PNode) : ∀ (q : Nat) (i : Int), (ups l q i).length = q + 1
  | 0, _ => rfl
  | q + 1, i => by simp [ups, ups_len l q]

section
variable {d : PDoc}

theorem Good.up_root (G : Good d) : parentOf d.nodes d.root = 0 := parentOf_none G.rootNo

theorem Good.up_dep (G : Good d) {q : Nat} {i : Int} (h : Dep d.nodes d.root (q + 1) i) : Dep d.nodes d.root q (parentOf d.nodes i) := by
  obtain ⟨k, hk, hi⟩ := h
  rw [one_parent G.once (parentOf_up G.rise (kidsAt_all hi)) hi]
  exact hk

theorem Good.dep_in (G : Good d) {q : Nat} {i : Int} (h : Dep d.nodes d.root q i) : i ∈ idsOf d.nodes := Go.Proofs.YtahdgbfcaclflaaDoor.dep_in G.there G.rootIn h

theorem Good.ups_in (G : Good d) : ∀ {q : Nat} {i : Int}, Dep d.nodes d.root q i → ∀ k ∈ ups d.nodes q i, k ∈ idsOf d.nodes
  | 0, i, h, k, hk => by simp [ups] at hk; subst hk; exact G.dep_in h
  | q + 1, i, h, k, hk => by
    rcases List.mem_cons.1 hk with rfl | hk
    · exact G.dep_in h
    · exact G.ups_in (G.up_dep h) k hk

theorem Good.dep_le (G : Good d) {q : Nat} {i : Int} (h : Dep d.nodes d.root q i) : q ≤ 40 := by
  have h4 := low_desc G.toFlat.low (dep_iff.1 h)
  have := G.n40
  omega
end

/-- Where going up stands: what is left to go. -/
def Left (d : PDoc) (cur : Int) (rest : List Int) : Prop := (∃ r, Dep d.nodes d.root r cur ∧ rest = ups d.nodes r cur) ∨ (cur = 0 ∧ rest = [])

theorem Left.next {d : PDoc} (G : Good d) {cur : Int} {rest : List Int} (h : Left d cur rest) (hc : cur ≠ 0) : ∃ rest', rest = cur :: rest' ∧ Left d (parentOf d.nodes cur) rest' ∧ cur ∈ idsOf d.nodes := by
  rcases h with ⟨r, hr, rfl⟩ | ⟨h, -⟩
  · cases r with
    | zero =>
      have : cur = d.root := hr
      subst this
      exact ⟨[], rfl, .inr ⟨G.up_root, rfl⟩, G.rootIn⟩
    | succ r => exact ⟨_, rfl, .inl ⟨r, G.up_dep hr, rfl⟩, G.dep_in hr⟩
  · exact absurd h hc

theorem Left.done {d : PDoc} (G : Good d) {rest : List Int} (h : Left d 0 rest) : rest = [] := by
  rcases h with ⟨r, hr, rfl⟩ | ⟨-, h⟩
  · have := (G.toFlat.ids_pos (G.dep_in hr)).1
    omega
  · exact h

theorem Left.pos {d : PDoc} (G : Good d) {cur : Int} {rest : List Int} (h : Left d cur rest) : 0 ≤ cur := by
  rcases h with ⟨r, hr, rfl⟩ | ⟨h, -⟩
  · have := (G.toFlat.ids_pos (G.dep_in hr)).1; omega
  · omega

noncomputable def pathAns (d : PDoc) (id : Int) : List Int := by
  classical exact if h : askOf d id = 0 then (ups d.nodes (Classical.choose ((askOf_zero h).1.dep (askOf_zero h).2)) id).reverse else []

theorem pathAns_no {d : PDoc} {id : Int} (h : askOf d id ≠ 0) : pathAns d id = [] := by unfold pathAns; rw [dif_neg h]
theorem pathAns_ok {d : PDoc} {id : Int} (h : askOf d id = 0) : ∃ q, Dep d.nodes d.root q id ∧ pathAns d id = (ups d.nodes q id).reverse :=
  ⟨_, Classical.choose_spec ((askOf_zero h).1.dep (askOf_zero h).2), by unfold pathAns; rw [dif_pos h]⟩

theorem pathAns_len (d : PDoc) (id : Int) : (pathAns d id).length ≤ 1048576 := by
  by_cases h : askOf d id = 0
  · obtain ⟨q, hq, e⟩ := pathAns_ok h
    have := (askOf_zero h).1.dep_le hq
    rw [e, List.length_reverse, ups_len]
    omega
  · rw [pathAns_no h]; simp
end Go.Proofs.YtahdgbfcaclflaaDoor
