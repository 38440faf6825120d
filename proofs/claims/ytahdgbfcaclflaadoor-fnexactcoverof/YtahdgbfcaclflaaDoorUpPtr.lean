/-
  The pointer to a node's branch on the way up, and where it leads.
-/
import Derived.Test.YtahdgbfcaclflaaDoorAskDoc
import Derived.Test.YtahdgbfcaclflaaDoorSpecReach
namespace Go.Proofs.YtahdgbfcaclflaaDoor
open Go.RowKit

def curPtr (ad : Int → Nat) (cur : Int) : Value := .pointer (if cur = 0 then none else some ⟨ad cur, 0, none⟩)
theorem curPtr_none (ad : Int → Nat) : curPtr ad 0 = .pointer none := by simp [curPtr]
theorem curPtr_some {ad : Int → Nat} {cur : Int} (h : cur ≠ 0) : curPtr ad cur = .pointer (some ⟨ad cur, 0, none⟩) := by simp [curPtr, h]

theorem up_ptr {n₀ : Nat} {W : World} {d : PDoc} {tb : Nat} {ad : Int → Nat} {up : Int → Option Int} {kv : Int → Value} (hgr : Grown n₀ W d tb ad up kv) (G : Good d) (i : Int) : ptrTo ((up i).map ad) = curPtr ad (parentOf d.nodes i) := by
  cases hup : up i with
  | none =>
    rw [parentOf_none ((hgr.upNone _).1 hup), curPtr_none]
    rfl
  | some p =>
    have hk := hgr.upKid _ _ hup
    have e : parentOf d.nodes i = p := one_parent G.once (parentOf_up G.rise (kidsAt_all hk)) hk
    obtain ⟨y, hy, hyp, -⟩ := mem_kidsAt hk
    have h1 : 1 ≤ p := (G.toFlat.ids_pos (by rw [← hyp]; exact List.mem_map.2 ⟨y, hy, rfl⟩)).1
    rw [e, curPtr_some (by omega)]
    rfl
end Go.Proofs.YtahdgbfcaclflaaDoor
