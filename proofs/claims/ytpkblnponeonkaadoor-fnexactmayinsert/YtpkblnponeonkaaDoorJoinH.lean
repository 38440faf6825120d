/-
  slices.Clone and slices.Insert of one number, at lists of numbers of one's own: what they answer.
  What may be inserted below a node, plainly: the kinds of which one kid more, at some place, is taken.
  One step of a region that draws its order: append of a list of numbers, nil or not, onto a row of the call's own.
-/
import Derived.Test.YtpkblnponeonkaaDoorRowFacts
import Derived.Test.YtpkblnponeonkaaDoorOrderPlain
import Derived.Test.YtpkblnponeonkaaDoorSchRep
import Derived.Test.YtpkblnponeonkaaDoorShelfI
import Derived.Lib.OwnBridge
import Derived.Test.YtpkblnponeonkaaDoorJoinB
import Derived.Test.YtpkblnponeonkaaDoorSpecNodes
import Derived.Test.YtpkblnponeonkaaDoorJoinC
import Derived.Deep.RegionLaw
import Derived.Laws.OwnMore
namespace Go.Proofs.YtpkblnponeonkaaDoor
open Go.RowKit Go.Shelf

/-- A list with one number more at a place. -/
def insAt (ks : List Int) (i : Nat) (x : Int) : List Int := ks.take i ++ x :: ks.drop i

theorem insAt_len (ks : List Int) (i : Nat) (x : Int) (h : i ≤ ks.length) : (insAt ks i x).length = ks.length + 1 := by
  simp [insAt]; omega

theorem insAt_get {ks : List Int} {i : Nat} {x : Int} (h : i ≤ ks.length) (j : Nat) :
    (insAt ks i x)[j]? = if j < i then ks[j]? else if j = i then some x else ks[j - 1]? := by
  unfold insAt
  by_cases h1 : j < i
  · rw [if_pos h1, List.getElem?_append_left (by simp; omega), List.getElem?_take, if_pos h1]
  · rw [if_neg h1, List.getElem?_append_right (by simp; omega)]
    have hl : (ks.take i).length = i := by simp; omega
    rw [hl]
    by_cases h2 : j = i
    · rw [if_pos h2, h2, Nat.sub_self]; rfl
    · rw [if_neg h2, show j - i = (j - i - 1) + 1 by omega, List.getElem?_cons_succ, List.getElem?_drop]
      congr 1; omega

theorem below_setCells_own {B : Nat} {a : World} {b : Nat} (hb : B ≤ b) : ∀ (vs : List Value) (o : Nat) (w : World), Below B a w → Below B a (w.setCells b o vs)
  | [], _, _, h => h
  | v :: r, o, _, h => below_setCells_own hb r (o + 1) _ (h.setCell (p := ⟨b, o, none⟩) hb v)

theorem ints_ins {w : World} {g cap i : Nat} {ks : List Int} {x : Int} (hi : i ≤ ks.length) (hc : ks.length + 1 ≤ cap)
    (h : ∀ j, j < ks.length + 1 → w.cell? ⟨g, j, none⟩ = some (.int .i64 (if j < i then ks[j]?.getD 0 else if j = i then x else ks[j - 1]?.getD 0))) :
    IntsAt w.heap.size w (.slice (some ⟨g, 0, none⟩) (ks.length + 1) cap) (insAt ks i x) ∧ Roomy (.slice (some ⟨g, 0, none⟩) (ks.length + 1) cap) (insAt ks i x).length := by
  have hl := insAt_len ks i x hi
  refine ⟨⟨_, cap, by rw [hl], .inr ⟨g, 0, rfl, World.block_lt_of_cell? w _ (h 0 (by omega)), fun j hj => ?_⟩⟩, _, cap, by rw [hl], by omega⟩
  rw [hl] at hj
  rw [Nat.zero_add, h j hj, insAt_get hi]
  congr 2
  split
  · rfl
  · split <;> rfl

theorem cells_ints {w : World} {B g cap : Nat} {e : TypeId} {n : Nat} {ks : List Int} (h : w.ownsRow B e 1 (.slice (some ⟨g, 0, none⟩) n cap) n (ks.map (Value.int .i64))) : ∀ j v, (ks.map (Value.int .i64))[j]? = some v → w.cell? ⟨g, 0 + j, none⟩ = some v := by
  intro j v hj
  have := h.cells (g := g) rfl j v hj
  rw [Nat.zero_add]
  unfold Addr.add at this
  split at this <;> simp_all

set_option maxHeartbeats 1000000 in
/-- slices.Insert of one number into a row of one's own. -/
theorem insInt_any (B vb i : Nat) (v : Value) (ks : List Int) (x : Int) (w : World) (hI : w.ownsRow B 3 1 v ks.length (ks.map (Value.int .i64))) (hv : w.heap[vb]? = some (.cells #[.int .i64 x] 3 (0, 0))) (hne : v.ownBlock ≠ some vb) (hi : i ≤ ks.length) (hl : ks.length ≤ 1048576) (hB : B ≤ w.heap.size) :
    Calls Tryd.prog 113 #[v, .int .i64 i, .slice (some ⟨vb, 0, none⟩) 1 1] w fun e w' => ∃ v', e = .returned v' ∧ (IntsAt w'.heap.size w' v' (insAt ks i x) ∧ Roomy v' (insAt ks i x).length) ∧ Below B w w' := by
  have ht3 : Tryd.laysNm221_ren.t 3 = 3 := rfl
  have hvc : ∀ j v, ([Value.int .i64 x])[j]? = some v → w.cell? ⟨vb, 0 + j, none⟩ = some v := by
    intro j v hj
    rw [Nat.zero_add, cell_of_heap hv j]
    simpa using hj
  have h1c : ∀ v ∈ ks.map (Value.int .i64), v.oneCell' = true := by
    intro v hv; obtain ⟨x, _, rfl⟩ := List.mem_map.1 hv; rfl
  have h1v : ∀ v ∈ [Value.int .i64 x], v.oneCell' = true := by
    intro v hv; rw [List.mem_singleton] at hv; subst hv; rfl
  have hcl : (ks.map (Value.int .i64)).length = ks.length := by simp
  have hI' := hI
  obtain ⟨_, ⟨rfl, h0⟩ | ⟨g, cap, cur, rfl, hg, hh, h1, h2, h3, h4⟩⟩ := hI
  · have hk : ks = [] := List.eq_nil_of_length_eq_zero h0
    subst hk
    obtain rfl : i = 0 := by simpa using hi
    refine (Any2.slices_Insert_int_end_grow Tryd.laysNm221 none 0 0 vb 0 1 1 [] [.int .i64 x] w (by decide) (Nat.le_refl _) (by decide) (by decide) rfl rfl (fun _ => rfl) (fun a h => by cases h) hvc h1v).mono ?_
    rintro e w' ⟨he, hw'⟩
    rw [ht3] at he hw'
    subst he hw'
    refine ⟨_, rfl, ?_, ((Below.refl B w).drew.alloc (by simpa using hB) _)⟩
    refine ints_ins (ks := []) (i := 0) (Nat.zero_le _) ?_ ?_
    · exact grownCap_ge _ _ _ _
    · intro j hj
      obtain rfl : j = 0 := by simpa using hj
      have := cell_of_heap (alloc_new w.drew (.cells (([] ++ [Value.int .i64 x]).toArray ++ Builtin.zeroCells (Value.int .i64 0).cells (grownCap w (0 + 1) 0 3 - (0 + 1))) 3)) 0
      simp only [World.size_drew] at this
      rw [this, Array.getElem?_append_left (by simp)]
      simp
  · have hcs := cells_ints hI'
    have hgl : g < w.heap.size := (Array.getElem?_eq_some_iff.1 hh).1
    have hgv : vb ≠ g := fun e => hne (by rw [e]; rfl)
    have hks : ∀ j, j < ks.length → w.cell? ⟨g, j, none⟩ = some (.int .i64 (ks[j]?.getD 0)) := fun j hj => by
      have := hcs j (.int .i64 (ks[j]?.getD 0)) (by simp [hj])
      rwa [Nat.zero_add] at this
    have hsz : cap ≤ 9223372036854775807 := Nat.le_trans h2 (by unfold maxLen; omega)
    have hsp : ∀ j, j < cap → (w.cell? ⟨g, 0 + j, none⟩).isSome = true := fun j hj => by
      rw [Nat.zero_add, cell_of_heap hh, Array.getElem?_eq_getElem (by omega)]; rfl
    have hfz : ∀ j, w.frozen? ⟨g, 0 + j, none⟩ = false := fun j => frozen_of_heap hh _
    by_cases hroom : ks.length + 1 ≤ cap
    · by_cases he : i < ks.length
      · refine (Any2.slices_Insert_int_shift Tryd.laysNm221 g 0 ks.length cap i vb 0 1 1 (ks.map (Value.int .i64)) [.int .i64 x] w he (by decide) hroom hsz hgv hcl rfl hcs (fun j hj => hsp j (by omega)) (fun j _ => hfz j) hvc h1c h1v 3 3 1 cur.size (by simp [World.shape?, hv]) (by simp [World.shape?, hh]) (by omega) (frozen_of_heap hv _) (frozen_of_heap hv _)).mono ?_
        rintro e w' ⟨rfl, rfl⟩
        refine ⟨_, rfl, ?_, below_setCells_own hg _ _ _ (below_setCells_own hg _ _ _ (Below.refl B w).drew)⟩
        have hdl : ((ks.map (Value.int .i64)).drop i).length = ks.length - i := by simp
        refine ints_ins hi hroom fun j hj => ?_
        by_cases h5 : j = i
        · subst h5
          have := World.cell?_setCells_in g [Value.int .i64 x] (0 + j) (w.drew.setCells g (0 + (j + 1)) ((ks.map (Value.int .i64)).drop j)) (fun q hq => by
            obtain rfl : q = 0 := by simpa using hq
            rw [World.cell?_setCells_out _ _ _ _ _ (fun _ _ => .inl (by simp)), World.cell?_drew]
            exact hsp _ (by omega)) 0 (by simp)
          simpa using this
        · rw [World.cell?_setCells_out _ _ _ _ _ (fun _ _ => by simp; omega)]
          by_cases h6 : j < i
          · rw [World.cell?_setCells_out _ _ _ _ _ (fun _ _ => .inl (by simp; omega)), World.cell?_drew, hks j (by omega), if_pos h6]
          · have := World.cell?_setCells_in g ((ks.map (Value.int .i64)).drop i) (0 + (i + 1)) w.drew (fun q hq => by
              rw [World.cell?_drew, show 0 + (i + 1) + q = 0 + (i + 1 + q) by omega]
              exact hsp _ (by rw [hdl] at hq; omega)) (j - (i + 1)) (by rw [hdl]; omega)
            rw [show 0 + (i + 1) + (j - (i + 1)) = j by omega] at this
            rw [this, if_neg h6, if_neg h5, List.getElem_drop, List.getElem_map]
            rw [List.getElem?_eq_getElem (by omega), Option.getD_some]
            congr 3; omega
      · obtain rfl : i = ks.length := by omega
        refine (Any2.slices_Insert_int_end_room Tryd.laysNm221 g 0 ks.length cap vb 0 1 1 [.int .i64 x] w (by decide) hroom hsz rfl (fun j hj => by rw [show 0 + ks.length + j = 0 + (ks.length + j) by omega]; exact hsp _ (by omega)) (fun j _ => by rw [show 0 + ks.length + j = 0 + (ks.length + j) by omega]; exact hfz _) hvc h1v).mono ?_
        rintro e w' ⟨rfl, rfl⟩
        refine ⟨_, rfl, ?_, below_setCells_own hg _ _ _ (Below.refl B w)⟩
        refine ints_ins (Nat.le_refl _) hroom fun j hj => ?_
        by_cases h5 : j = ks.length
        · subst h5
          have := World.cell?_setCells_in g [Value.int .i64 x] (0 + ks.length) w (fun q hq => by
            obtain rfl : q = 0 := by simpa using hq
            exact hsp _ (by omega)) 0 (by simp)
          simpa using this
        · rw [World.cell?_setCells_out _ _ _ _ _ (fun _ _ => by simp; omega), hks j (by omega), if_pos (by omega)]
    · by_cases he : i < ks.length
      · refine (Any2.slices_Insert_int_grow Tryd.laysNm221 g 0 ks.length cap i vb 0 1 1 (ks.map (Value.int .i64)) [.int .i64 x] w he (by decide) h1 (by omega) (by omega) hcl rfl hcs hvc h1c h1v).mono ?_
        rintro e w' ⟨he, hw'⟩
        rw [ht3] at he hw'
        subst he
        have hcap := grownCap_ge w (ks.length + 1) cap 3
        obtain ⟨cs0, hcs0⟩ : ∃ cs0, cs0 = ((ks.map (Value.int .i64)).take i).toArray ++ Builtin.zeroCells (Value.int .i64 0).cells (ks.length + 1 - i) ++ Builtin.zeroCells (Value.int .i64 0).cells (grownCap w (ks.length + 1) cap 3 - (ks.length + 1)) := ⟨_, rfl⟩
        rw [← hcs0] at hw'
        have hz : (Value.int .i64 0).cells.size = 1 := rfl
        have hcz : cs0.size = grownCap w (ks.length + 1) cap 3 := by
          rw [hcs0]; simp [size_zeroCells, hz]; omega
        obtain ⟨W1, hW1⟩ : ∃ W1, W1 = (w.alloc (.cells cs0 3)).drew := ⟨_, rfl⟩
        have hh1 : W1.heap[w.heap.size]? = some (.cells cs0 3 (0, 0)) := by rw [hW1]; exact alloc_new w _
        rw [← hW1] at hw'
        have hdl : ((ks.map (Value.int .i64)).drop i).length = ks.length - i := by simp
        have hb1 : Below B w W1 := by rw [hW1]; exact ((Below.refl B w).alloc hB _).drew
        subst hw'
        refine ⟨_, rfl, ?_, below_setCells_own hB _ _ _ (below_setCells_own hB _ _ _ hb1).drew⟩
        have hsome : ∀ j, j < ks.length + 1 → (W1.cell? ⟨w.heap.size, j, none⟩).isSome = true := fun j hj => by
          rw [cell_of_heap hh1, Array.getElem?_eq_getElem (by omega)]; rfl
        refine ints_ins hi hcap fun j hj => ?_
        by_cases h6 : i < j
        · have := World.cell?_setCells_in w.heap.size ((ks.map (Value.int .i64)).drop i) (i + 1) (W1.setCells w.heap.size i [Value.int .i64 x]).drew (fun q hq => by
            rw [World.cell?_drew, World.cell?_setCells_out _ _ _ _ _ (fun _ _ => .inr (by simp))]
            exact hsome _ (by rw [hdl] at hq; omega)) (j - (i + 1)) (by rw [hdl]; omega)
          rw [show i + 1 + (j - (i + 1)) = j by omega] at this
          rw [this, if_neg (by omega), if_neg (by omega), List.getElem_drop, List.getElem_map]
          rw [List.getElem?_eq_getElem (by omega), Option.getD_some]
          congr 3; omega
        · rw [World.cell?_setCells_out _ _ _ _ _ (fun _ _ => .inl (by simp; omega)), World.cell?_drew]
          by_cases h5 : j = i
          · subst h5
            have := World.cell?_setCells_in w.heap.size [Value.int .i64 x] j W1 (fun q hq => by
              obtain rfl : q = 0 := by simpa using hq
              exact hsome _ (by omega)) 0 (by simp)
            simpa using this
          · rw [World.cell?_setCells_out _ _ _ _ _ (fun _ _ => .inl (by simp; omega)), cell_of_heap hh1, if_pos (by omega), hcs0]
            rw [Array.append_assoc, Array.getElem?_append_left (by simp; omega)]
            have h7 : j < ks.length := by omega
            simp [show j < i by omega, h7]
      · obtain rfl : i = ks.length := by omega
        refine (Any2.slices_Insert_int_end_grow Tryd.laysNm221 (some ⟨g, 0, none⟩) ks.length cap vb 0 1 1 (ks.map (Value.int .i64)) [.int .i64 x] w (by decide) h1 (by omega) (by omega) hcl rfl (fun h => by cases h) (fun a ha j v hj => by
          cases ha
          have := hcs j v hj
          rw [Nat.zero_add] at this
          rw [Go.WideShapes.add_plain, Nat.zero_add]
          exact this) hvc h1v).mono ?_
        rintro e w' ⟨he, hw'⟩
        rw [ht3] at he hw'
        subst he hw'
        refine ⟨_, rfl, ?_, ((Below.refl B w).drew.alloc (by simpa using hB) _)⟩
        refine ints_ins (Nat.le_refl _) (grownCap_ge _ _ _ _) fun j hj => ?_
        have := cell_of_heap (alloc_new w.drew (.cells (((ks.map (Value.int .i64)) ++ [Value.int .i64 x]).toArray ++ Builtin.zeroCells (Value.int .i64 0).cells (grownCap w (ks.length + 1) cap 3 - (ks.length + 1))) 3)) j
        simp only [World.size_drew] at this
        rw [this, Array.getElem?_append_left (by simp; omega)]
        by_cases h5 : j = ks.length
        · subst h5; simp
        · rw [if_pos (by omega)]
          have h7 : j < ks.length := by omega
          simp [List.getElem?_append, h7]
end Go.Proofs.YtpkblnponeonkaaDoor

namespace Go.Proofs.YtpkblnponeonkaaDoor
open Go.RowKit

/-- One kid more of this kind is taken at some place below p. -/
noncomputable def fitsTo (ts : List PTerm) (ks : List Int) (x : Int) (p : Nat) : Bool := dec (∃ i, i < p ∧ MatchP ts (insAt ks i x))
theorem fitsTo_iff {ts : List PTerm} {ks : List Int} {x : Int} {p : Nat} : fitsTo ts ks x p = true ↔ ∃ i, i < p ∧ MatchP ts (insAt ks i x) := dec_iff _
theorem fitsTo_zero (ts : List PTerm) (ks : List Int) (x : Int) : fitsTo ts ks x 0 = false := by
  rw [← Bool.not_eq_true, fitsTo_iff]; rintro ⟨i, h, _⟩; omega
theorem fitsTo_succ {ts : List PTerm} {ks : List Int} {x : Int} {p : Nat} {m : Bool} (hm : m = true ↔ MatchP ts (insAt ks p x)) : fitsTo ts ks x (p + 1) = (fitsTo ts ks x p || m) := by
  rw [Bool.eq_iff_iff, Bool.or_eq_true, fitsTo_iff, fitsTo_iff, hm]
  constructor
  · rintro ⟨i, h, h'⟩
    by_cases e : i = p
    · exact .inr (e ▸ h')
    · exact .inl ⟨i, by omega, h'⟩
  · rintro (⟨i, h, h'⟩ | h)
    · exact ⟨i, by omega, h'⟩
    · exact ⟨p, by omega, h⟩

/-- Of the first n kinds those of which one kid more is taken. -/
noncomputable def mayTo (ts : List PTerm) (ks : List Int) : Nat → List Int
  | 0 => []
  | n + 1 => mayTo ts ks n ++ if fitsTo ts ks ((n : Int) + 1) (ks.length + 1) = true then [(n : Int) + 1] else []

theorem mayTo_len (ts : List PTerm) (ks : List Int) : ∀ n, (mayTo ts ks n).length ≤ n
  | 0 => Nat.le_refl _
  | n + 1 => by
    have := mayTo_len ts ks n
    unfold mayTo
    split <;> simp <;> omega

theorem SchemaP.rule' {R : List PRule} (h : SchemaP R) {m : Nat} (hm : m < R.length) : RuleP R.length (R[m]?.getD ruleNil) := by
  rw [List.getElem?_eq_getElem hm]
  exact h.rules _ (List.getElem_mem hm)

theorem SmallRules.rule' {R : List PRule} (h : SmallRules R) {m : Nat} (hm : m < R.length) : SmallRule (R[m]?.getD ruleNil) := by
  rw [List.getElem?_eq_getElem hm]
  exact h.rules _ (List.getElem_mem hm)

/-- The kinds of which a node may have one kid more. -/
noncomputable def mayIn (R : List PRule) (l : List PNode) (x : PNode) : List Int :=
  if (R[(x.kind - 1).toNat]?.getD ruleNil).leaf = true ∨ x.kids.length = 12 then [] else mayTo (R[(x.kind - 1).toNat]?.getD ruleNil).terms (kindsFor l x.kids) R.length

theorem mayIn_none' {R : List PRule} {l : List PNode} {x : PNode} {m : Nat} (hm : x.kind = (m : Int) + 1) (h : (R[m]?.getD ruleNil).leaf = true ∨ x.kids.length = 12) : mayIn R l x = [] := by
  unfold mayIn
  rw [hm, show ((m : Int) + 1 - 1).toNat = m by omega, if_pos h]

theorem mayIn_some' {R : List PRule} {l : List PNode} {x : PNode} {m : Nat} (hm : x.kind = (m : Int) + 1) (h : (R[m]?.getD ruleNil).leaf = false) (h12 : x.kids.length ≠ 12) : mayIn R l x = mayTo (R[m]?.getD ruleNil).terms (kindsFor l x.kids) R.length := by
  unfold mayIn
  rw [hm, show ((m : Int) + 1 - 1).toNat = m by omega, if_neg (by rw [h]; simp [h12])]

noncomputable def mayCode (R : List PRule) (d : PDoc) (id : Int) : Int := if underOf R d id = 0 then (if (R.length : Int) < (nodeOf d.nodes id).kind then 10 else 0) else underOf R d id
noncomputable def mayAns (R : List PRule) (d : PDoc) (id : Int) : List Int := if mayCode R d id = 0 then mayIn R d.nodes (nodeOf d.nodes id) else []

theorem mayCode_no {R : List PRule} {d : PDoc} {id : Int} (h : underOf R d id ≠ 0) : mayCode R d id = underOf R d id := by unfold mayCode; rw [if_neg h]
theorem mayCode_ok {R : List PRule} {d : PDoc} {id : Int} (h : underOf R d id = 0) : mayCode R d id = if (R.length : Int) < (nodeOf d.nodes id).kind then 10 else 0 := by unfold mayCode; rw [if_pos h]
theorem mayAns_no {R : List PRule} {d : PDoc} {id : Int} (h : mayCode R d id ≠ 0) : mayAns R d id = [] := by unfold mayAns; rw [if_neg h]
theorem mayAns_ok {R : List PRule} {d : PDoc} {id : Int} (h : mayCode R d id = 0) : mayAns R d id = mayIn R d.nodes (nodeOf d.nodes id) := by unfold mayAns; rw [if_pos h]

theorem mayAns_len {R : List PRule} (hR : SmallRules R) (d : PDoc) (id : Int) : (mayAns R d id).length ≤ 1048576 := by
  have h1 := hR.len
  by_cases h : mayCode R d id = 0
  · rw [mayAns_ok h]
    unfold mayIn
    split
    · simp
    · exact Nat.le_trans (mayTo_len _ _ _) h1
  · rw [mayAns_no h]; simp
end Go.Proofs.YtpkblnponeonkaaDoor

namespace Go.Proofs.YtpkblnponeonkaaDoor
open Go.RowKit

/-- What is appended: nil, or cells that read as these. -/
def SrcIs (w : World) (v : Value) (m : Nat) (news : List Value) : Prop :=
  (v = .slice none 0 0 ∧ m = 0 ∧ news = []) ∨ ∃ ad c, v = .slice (some ad) m c ∧ news.length = m ∧ (∀ j u, news[j]? = some u → w.cell? (ad.add j) = some u) ∧ ∀ u ∈ news, u.oneCell' = true

theorem step_append_src {P : Program} {ops : Array Oper} {o : Oper} {a : Act} {w : World} {K : Act → World → Prop} {Q : Exit → Act → World → Prop} {E : Prop}
    (hw : Region.wanted o (yielded ops a.tmps) = true) (s x : Operand) (t : TypeId) (hop : o.op = Op.call { callee := Callee.builtin Builtin.append, args := #[s, x], argTypes := #[t, t] })
    (base : Nat) (e : TypeId) (i : TypeInfo) (z : Value) (bytes : Nat) (h1 : P.underlying t = some (.slice e)) (h2 : P.info? e = some i) (h3 : i.zero = some z) (h4 : i.size = 1) (h5 : i.bytes = bytes) (h6 : z.cells.size = 1)
    (v : Value) (n : Nat) (xs : List Value) (hs : a.eval s = v) (hown : w.ownsRow base e 1 v n xs)
    (xv : Value) (m : Nat) (news : List Value) (hx : a.eval x = xv) (hsrc : SrcIs w xv m news)
    (b1 : n + m ≤ maxLen) (b2 : (n + m) * bytes ≤ 140737488355328) (b3 : base ≤ w.heap.size)
    (hK : ∀ v' w', w'.ownsRow base e 1 v' (n + m) (xs ++ news) → w.grownBy w' v.ownBlock → K (a.put o.dst v') w') :
    if Region.wanted o (yielded ops a.tmps) = true then Oper.wp P o a w K Q else E := by
  rw [if_pos hw]
  rcases hsrc with ⟨rfl, rfl, rfl⟩ | ⟨ad, c, rfl, hl, hc, h1c⟩
  · have hrun := run_append_owned_none (P := P) (w := w) base t o.type e i 1 h1 h2 v n xs hown
    unfold Oper.wp
    simp [execOp, hop, resolve, invoke, builtin, hs, hx, hrun, Result.andThen]
    exact hK v w (by simpa using hown) ⟨rfl, rfl, rfl, Nat.le_refl _, fun _ _ _ => rfl⟩
  · obtain ⟨v', w', hrun, r1, r2, _⟩ := run_append_own (P := P) w base t o.type e i z 1 bytes h1 h2 h3 h4 h5 h6 (by decide) v n xs hown ad m c news (by rw [hl, Nat.mul_one]) hc h1c b1 b2 b3
    unfold Oper.wp
    simp [execOp, hop, resolve, invoke, builtin, hs, hx, hrun, Result.andThen]
    exact hK v' w' r1 r2

/-- A list of numbers at a block's head, or nil. -/
def KRow (O N : Nat) (w : World) (a : Option Addr) (c : Nat) (kk : List Int) : Prop :=
  kk.length ≤ c ∧ ((a = none ∧ c = 0 ∧ kk = []) ∨ ∃ g, a = some ⟨g, 0, none⟩ ∧ g < N ∧ g ≠ O ∧ ∀ j, j < kk.length → w.cell? ⟨g, j, none⟩ = some (.int .i64 (kk[j]?.getD 0)))

theorem KRow.below {O N : Nat} {w w' : World} {a : Option Addr} {c : Nat} {kk : List Int} (h : KRow O N w a c kk) (hb : Below N w w') : KRow O N w' a c kk := by
  refine ⟨h.1, h.2.imp id ?_⟩
  rintro ⟨g, e, h1, h2, h3⟩
  exact ⟨g, e, h1, h2, fun j hj => (hb.cell (p := ⟨g, j, none⟩) h1).trans (h3 j hj)⟩

theorem KRow.but {O N : Nat} {w w' : World} {a : Option Addr} {c : Nat} {kk : List Int} (h : KRow O N w a c kk) (hb : KeptBut O N w w') : KRow O N w' a c kk := by
  refine ⟨h.1, h.2.imp id ?_⟩
  rintro ⟨g, e, h1, h2, h3⟩
  exact ⟨g, e, h1, h2, fun j hj => (hb.cell g j h1 h2).trans (h3 j hj)⟩

theorem KRow.of_row {O B : Nat} {w : World} {e : TypeId} {a : Option Addr} {c : Nat} {kk : List Int} (h : w.ownsRow B e 1 (.slice a kk.length c) kk.length (kk.map (Value.int .i64))) (hO : O < B) : KRow O w.heap.size w a c kk := by
  have h' := h
  obtain ⟨_, ⟨e1, h0⟩ | ⟨g, cap, cur, e1, hg, hh, h1, h2, h3, h4⟩⟩ := h
  · simp only [Value.slice.injEq] at e1
    obtain ⟨rfl, h00, rfl⟩ := e1
    exact ⟨by omega, .inl ⟨rfl, rfl, List.eq_nil_of_length_eq_zero h0⟩⟩
  · simp only [Value.slice.injEq, true_and] at e1
    obtain ⟨rfl, rfl⟩ := e1
    refine ⟨h1, .inr ⟨g, rfl, (Array.getElem?_eq_some_iff.1 hh).1, by omega, fun j hj => ?_⟩⟩
    have := h'.cells (g := g) rfl j (.int .i64 (kk[j]?.getD 0)) (by simp [hj])
    rwa [Go.WideShapes.add_plain, Nat.zero_add] at this

theorem src_take {O N : Nat} {w : World} {a : Option Addr} {c i : Nat} {kk : List Int} (h : KRow O N w a c kk) (hi : i ≤ kk.length) : SrcIs w (.slice a i c) i ((kk.take i).map (Value.int .i64)) := by
  rcases h.2 with ⟨rfl, rfl, rfl⟩ | ⟨g, rfl, _, _, hc⟩
  · obtain rfl : i = 0 := by simpa using hi
    exact .inl ⟨rfl, rfl, rfl⟩
  · refine .inr ⟨_, _, rfl, by simp; omega, fun j u hj => ?_, fun u hu => ?_⟩
    · have hj' : j < i := by have := (List.getElem?_eq_some_iff.1 hj).1; simp at this; omega
      rw [Go.WideShapes.add_plain, Nat.zero_add, hc j (by omega)]
      have h2 : j < kk.length := by omega
      simp [hj', h2] at hj ⊢
      exact hj
    · obtain ⟨x, _, rfl⟩ := List.mem_map.1 hu; rfl

theorem src_drop {O N : Nat} {w : World} {a a9 : Option Addr} {c i : Nat} {kk : List Int} (h : KRow O N w a c kk) (hi : i ≤ kk.length) (h9 : (if c = i then a else Option.map (fun x => x.add i) a) = a9) : SrcIs w (.slice a9 (kk.length - i) (c - i)) (kk.length - i) ((kk.drop i).map (Value.int .i64)) := by
  rcases h.2 with ⟨rfl, rfl, rfl⟩ | ⟨g, rfl, _, _, hc⟩
  · obtain rfl : i = 0 := by simpa using hi
    rw [if_pos rfl] at h9
    exact .inl ⟨by rw [← h9]; rfl, rfl, rfl⟩
  · have h1 := h.1
    by_cases e : c = i
    · rw [if_pos e] at h9
      have e2 : i = kk.length := by omega
      refine .inr ⟨⟨g, 0, none⟩, c - i, by rw [← h9], by simp, fun j u hj => ?_, fun u hu => ?_⟩
      · have := (List.getElem?_eq_some_iff.1 hj).1; simp at this; omega
      · obtain ⟨x, _, rfl⟩ := List.mem_map.1 hu; rfl
    · rw [if_neg e] at h9
      refine .inr ⟨(⟨g, 0, none⟩ : Addr).add i, c - i, by rw [← h9]; rfl, by simp, fun j u hj => ?_, fun u hu => ?_⟩
      · have hj' : j < kk.length - i := by have := (List.getElem?_eq_some_iff.1 hj).1; simpa using this
        rw [Go.WideShapes.add_plain, Go.WideShapes.add_plain, Nat.zero_add, hc (i + j) (by omega)]
        have h2 : i + j < kk.length := by omega
        simp [List.getElem?_drop, h2] at hj ⊢
        exact hj
      · obtain ⟨x, _, rfl⟩ := List.mem_map.1 hu; rfl

theorem src_one {w : World} {b : Nat} {y : Int} (h : w.cell? ⟨b, 0, none⟩ = some (.int .i64 y)) : SrcIs w (.slice (some ⟨b, 0, none⟩) 1 1) 1 [.int .i64 y] := by
  refine .inr ⟨_, 1, rfl, rfl, fun j u hj => ?_, one_int y⟩
  match j, hj with
  | 0, hj =>
    simp only [List.getElem?_cons_zero, Option.some.injEq] at hj
    rw [Go.WideShapes.add_plain, ← hj]
    exact h

theorem second_new (w : World) (o : Obj) (y : Value) (t : TypeId) : ((w.alloc o).alloc (.cells #[y] t)).cell? ⟨w.heap.size + 1, 0, none⟩ = some y := by
  have := cell_of_heap (alloc_new (w.alloc o) (.cells #[y] t)) 0
  simp only [World.size_alloc] at this
  exact this
theorem first_new (w : World) (o : Obj) (y : Value) (t : TypeId) : ((w.alloc (.cells #[y] t)).alloc o).cell? ⟨w.heap.size, 0, none⟩ = some y := by
  have := Below.heap_alloc (w.alloc (.cells #[y] t)) o w.heap.size (by simp)
  exact cell_of_heap (this.trans (alloc_new w _)) 0
theorem row_none2 (w : World) (o : Obj) : ((w.alloc o).alloc (.cells #[] 3)).ownsRow w.heap.size 3 1 (.slice (some ⟨w.heap.size + 1, 0, none⟩) 0 0) 0 [] := by
  have := row_none (w.alloc o) w.heap.size (by simp)
  simp only [World.size_alloc] at this
  exact this
theorem own_ne1 (n : Nat) : some (n + 1) ≠ (Value.slice (some ⟨n, 0, none⟩) 0 0).ownBlock := by simp [Value.ownBlock]
theorem own_ne2 (n : Nat) : some n ≠ (Value.slice (some ⟨n + 1, 0, none⟩) 0 0).ownBlock := by simp [Value.ownBlock]

theorem row_three {w : World} {B : Nat} {e : TypeId} {v : Value} {i : Nat} {kk : List Int} {x : Int} (hi : i ≤ kk.length)
    (h : w.ownsRow B e 1 v (0 + i + 1 + (kk.length - i)) (([] ++ (kk.take i).map (Value.int .i64)) ++ [Value.int .i64 x] ++ (kk.drop i).map (Value.int .i64))) :
    ∃ a c, v = .slice a (kk.length + 1) c ∧ Hid (IntsAt w.heap.size w (.slice a (kk.length + 1) c) (insAt kk i x) ∧ Roomy (.slice a (kk.length + 1) c) (insAt kk i x).length) := by
  have hn : 0 + i + 1 + (kk.length - i) = (insAt kk i x).length := by rw [insAt_len kk i x hi]; omega
  have he : (([] ++ (kk.take i).map (Value.int .i64)) ++ [Value.int .i64 x] ++ (kk.drop i).map (Value.int .i64)) = (insAt kk i x).map (Value.int .i64) := by simp [insAt]
  rw [hn, he] at h
  obtain ⟨a, c, rfl⟩ := row_shape h
  have h1 := ints_of_row h
  have h2 := row_roomy h
  rw [insAt_len kk i x hi] at h1 h2 ⊢
  exact ⟨a, c, rfl, h1, h2⟩
end Go.Proofs.YtpkblnponeonkaaDoor
