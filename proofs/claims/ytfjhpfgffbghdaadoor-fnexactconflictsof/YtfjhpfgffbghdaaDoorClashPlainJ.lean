/-
  Which sessions stand against a lock, plainly.
-/
import Derived.Test.YtfjhpfgffbghdaaDoorSessPlainJ
import Derived.Test.YtfjhpfgffbghdaaDoorJoinG
namespace Go.Proofs.YtfjhpfgffbghdaaDoor

/-- What a lock needs on a node of its path. -/
def needI (x : PHold) (i : Int) : Int := if i = x.node then x.mode else intentI x.mode
theorem needI_mode {x : PHold} (h : ModeP x.mode) (i : Int) : ModeP (needI x i) := by
  unfold needI; split
  · exact h
  · exact intentI_mode _
theorem needI_part {d : PDoc} {x : PHold} {i : Int} (h : i ∈ upsOf d x.node) : partI d i x = needI x i := by
  unfold partI needI
  by_cases e : x.node = i
  · rw [if_pos e, if_pos e.symm]
  · rw [if_neg e, if_pos h, if_neg (fun e' => e e'.symm)]

/-- Whether another session's locks clash with a lock on a node. -/
noncomputable def clashAt (d : PDoc) (L : List PHold) (x : PHold) (o i : Int) : Bool := !fitsB (joinI (modeAtP d L x.session i) (needI x i)) (modeAtP d L o i)
def ClashP (d : PDoc) (L : List PHold) (x : PHold) (o : Int) : Prop := ∃ i ∈ upsOf d x.node, clashAt d L x o i = true
noncomputable def againstB (d : PDoc) (L : List PHold) (x : PHold) (s : Int) : Bool := (s != x.session) && dec (ClashP d L x s)

/-- The sessions that stand against a lock. -/
noncomputable def confL (d : PDoc) (L : List PHold) (x : PHold) (S : List Int) : List Int := S.filter (againstB d L x)
theorem confL_hit {d : PDoc} {L : List PHold} {x : PHold} {S : List Int} {k : Nat} (h : k < S.length) (hs : againstB d L x (S[k]?.getD 0) = true) : confL d L x (S.take (k + 1)) = confL d L x (S.take k) ++ [S[k]?.getD 0] := by
  rw [List.getElem?_eq_getElem h, Option.getD_some] at hs ⊢
  rw [List.take_succ_eq_append_getElem h, confL, List.filter_append, confL]
  simp [hs]
theorem confL_miss {d : PDoc} {L : List PHold} {x : PHold} {S : List Int} {k : Nat} (h : k < S.length) (hs : againstB d L x (S[k]?.getD 0) = false) : confL d L x (S.take (k + 1)) = confL d L x (S.take k) := by
  rw [List.getElem?_eq_getElem h, Option.getD_some] at hs
  rw [List.take_succ_eq_append_getElem h, confL, List.filter_append, confL]
  simp [hs]
theorem confL_len (d : PDoc) (L : List PHold) (x : PHold) (S : List Int) : (confL d L x S).length ≤ S.length := List.length_filter_le _ _

noncomputable def confAns (d : PDoc) (L : List PHold) (x : PHold) : List Int := if holdAsk d L x = 0 then confL d L x (sessP L) else []
theorem confAns_no {d : PDoc} {L : List PHold} {x : PHold} (h : holdAsk d L x ≠ 0) : confAns d L x = [] := by unfold confAns; rw [if_neg h]
theorem confAns_ok {d : PDoc} {L : List PHold} {x : PHold} (h : holdAsk d L x = 0) : confAns d L x = confL d L x (sessP L) := by unfold confAns; rw [if_pos h]
theorem confAns_len (d : PDoc) (L : List PHold) (x : PHold) : (confAns d L x).length ≤ 1048576 := by
  by_cases h : holdAsk d L x = 0
  · rw [confAns_ok h]
    have h1 := confL_len d L x (sessP L)
    have h2 := sessP_len L
    have h3 := (holdAsk_zero h).1.holds.len
    omega
  · rw [confAns_no h]; simp
end Go.Proofs.YtfjhpfgffbghdaaDoor
