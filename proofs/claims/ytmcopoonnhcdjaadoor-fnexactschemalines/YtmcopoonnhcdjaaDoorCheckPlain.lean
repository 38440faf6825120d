/-
  What a schema takes, plainly: the content of a node, a node, a schema ahead of all else.
-/
import Derived.Test.YtmcopoonnhcdjaaDoorKidsPlain
import Derived.Test.YtmcopoonnhcdjaaDoorMatchPlain
import Derived.Test.YtmcopoonnhcdjaaDoorRowFacts
import Derived.Test.YtmcopoonnhcdjaaDoorTextNil
import Derived.Test.YtmcopoonnhcdjaaDoorSchOK
namespace Go.Proofs.YtmcopoonnhcdjaaDoor
open Go.RowKit

theorem row_roomy {w : World} {B : Nat} {e : TypeId} {size : Nat} {v : Value} {n : Nat} {xs : List Value} (h : w.ownsRow B e size v n xs) : Roomy v n := by
  obtain ⟨_, ⟨rfl, rfl⟩ | ⟨g, cap, cur, rfl, hg, hh, h1, h2, h3, h4⟩⟩ := h
  · exact ⟨none, 0, rfl, Nat.le_refl _⟩
  · exact ⟨_, cap, rfl, by first | assumption | omega⟩

theorem TermsP.eight {r : Int} {l : List PTerm} (h : TermsP r l) (h8 : r ≤ 8) : TermsP 8 l :=
  ⟨h.len, fun t ht => ⟨(h.all t ht).some, fun j hj => ⟨((h.all t ht).up j hj).1, Int.le_trans ((h.all t ht).up j hj).2.1 h8, ((h.all t ht).up j hj).2.2⟩, (h.all t ht).many0, (h.all t ht).many3⟩⟩

noncomputable def contentB (r : PRule) (text : ByteArray) (kk : List Int) : Bool := by
  classical exact if r.leaf = true then decide (kk.length = 0) else decide (text.size = 0 ∧ MatchP r.terms kk)

theorem contentB_leaf {r : PRule} {t : ByteArray} {kk : List Int} (h : r.leaf = true) : contentB r t kk = decide (kk.length = 0) := by unfold contentB; rw [if_pos h]
theorem contentB_not {r : PRule} {t : ByteArray} {kk : List Int} (h : r.leaf = false) : contentB r t kk = true ↔ t.size = 0 ∧ MatchP r.terms kk := by unfold contentB; rw [if_neg (by simp [h])]; simp

noncomputable def checkOf (R : List PRule) (l : List PNode) (x : PNode) : Int := if (R.length : Int) < x.kind then 10 else if contentB (R[(x.kind - 1).toNat]?.getD ruleNil) x.text (kindsFor l x.kids) = true then 0 else 12

noncomputable def schAsk (R : List PRule) : Int := by
  classical exact if 4096 < R.length then 2 else if SchemaP R then 0 else 1
theorem schAsk_long {R : List PRule} (h : 4096 < R.length) : schAsk R = 2 := by unfold schAsk; rw [if_pos h]
theorem schAsk_ok {R : List PRule} (h : SchemaP R) : schAsk R = 0 := by unfold schAsk; rw [if_neg (by have := h.few; omega), if_pos h]
theorem schAsk_bad {R : List PRule} (h : ¬ 4096 < R.length) (h1 : ¬ SchemaP R) : schAsk R = 1 := by unfold schAsk; rw [if_neg h, if_neg h1]
theorem schAsk_zero {R : List PRule} (h : schAsk R = 0) : SchemaP R := by
  unfold schAsk at h
  split at h
  · exact absurd h (by decide)
  · split at h
    · assumption
    · exact absurd h (by decide)
end Go.Proofs.YtmcopoonnhcdjaaDoor
