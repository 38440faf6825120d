/-
  Where a session waits in a table: what the specification and the program answer.
  What a call on a table and a session asks first, and what BlockersOf answers, plainly.
  The path of a node, as the specification reckons it.
  What a lock needs above: what the specification answers.
  The join of two modes: what the specification and the program answer.
  What a session has on a node, as the specification reckons it.
  What fits and what is needed above: what the specification answers.
-/
import Derived.Test.YtfjhpfgffbghdaaGreatDoorJoinG
import Derived.Test.YtfjhpfgffbghdaaGreatDoorTableOfJ
import Derived.Test.YtfjhpfgffbghdaaGreatDoorJoinF
import Derived.Deep.AppendLies
import Derived.Test.YtfjhpfgffbghdaaGreatDoorJoinA
namespace Go.Proofs.YtfjhpfgffbghdaaGreatDoor
open Go.RowKit

/-- The place, from 1 on, of the first wait of a session; 0 of none. -/
def placeN : List PHold → Int → Nat
  | [], _ => 0
  | x :: l, s => if x.session = s then 1 else if placeN l s = 0 then 0 else placeN l s + 1

theorem placeN_none {l : List PHold} {s : Int} (h : ∀ j, j < l.length → (l[j]?.getD holdNil).session ≠ s) : placeN l s = 0 := by
  induction l with
  | nil => rfl
  | cons x l ih =>
    have h0 := h 0 (by simp)
    have h1 := ih fun j hj => h (j + 1) (by simpa using hj)
    simp only [List.getElem?_cons_zero, Option.getD_some] at h0
    simp [placeN, h0, h1]

theorem placeN_hit {l : List PHold} {s : Int} {k : Nat} (hk : k < l.length) (h : ∀ j, j < k → (l[j]?.getD holdNil).session ≠ s) (h1 : (l[k]?.getD holdNil).session = s) : placeN l s = k + 1 := by
  induction l generalizing k with
  | nil => simp at hk
  | cons x l ih =>
    cases k with
    | zero =>
      simp only [List.getElem?_cons_zero, Option.getD_some] at h1
      simp [placeN, h1]
    | succ k =>
      have h0 := h 0 (by omega)
      have h2 := ih (k := k) (by simpa using hk) (fun j hj => h (j + 1) (by omega)) h1
      simp only [List.getElem?_cons_zero, Option.getD_some] at h0
      simp [placeN, h0, h2]

theorem placeN_le (l : List PHold) (s : Int) : placeN l s ≤ l.length := by
  induction l with
  | nil => simp [placeN]
  | cons x l ih => simp only [placeN, List.length_cons]; split; omega; split <;> omega

set_option maxHeartbeats 1000000 in
theorem specAtW_any (n₀ : Nat) (v v' : Value) (W : List PHold) (s : Int) (w : World) (hV : HoldsAt n₀ w v' W) (hn : n₀ ≤ w.heap.size) (hl : W.length ≤ 1048576) :
    Calls Tryz.prog 45 #[.agg #[v, v'], .int .i64 s] w fun e w' => e = .returned (.int .i64 ((placeN W s : Int) - 1)) ∧ Below w.heap.size w w' := by
  obtain ⟨W0, hW0⟩ : ∃ W0, W0 = w.alloc (.cells #[v, v'] 32) := ⟨_, rfl⟩
  have hw0 : Below w.heap.size w W0 := by rw [hW0]; exact (Below.refl w.heap.size w).alloc (Nat.le_refl _) _
  have hs0 : W0.heap.size = w.heap.size + 1 := by rw [hW0]; simp
  have hh1 : W0.heap[w.heap.size]? = some (.cells #[v, v'] 32 (0, 0)) := by rw [hW0]; exact alloc_new w _
  have z0 := cell_of_heap hh1 0
  have z1 := cell_of_heap hh1 1
  simp only [List.getElem?_toArray, List.getElem?_cons_succ, List.getElem?_cons_zero] at z0 z1
  have hz : w.heap.size < W0.heap.size := by omega
  obtain ⟨a, cap, rfl, hk⟩ := hV
  have HC : Hid (∀ k, k < W.length → ∃ b o, a = some ⟨b, o, none⟩ ∧ b < W0.heap.size ∧ HoldAt W0 b (o + k * 3) (W[k]?.getD holdNil)) := fun k hlt => by
    obtain ⟨b, o, rfl, hb, hc⟩ := hk.resolve_left (by intro e; simp [e] at hlt)
    exact ⟨b, o, rfl, by omega, (hc k hlt).below hb (hw0.mono hn)⟩
  have HHit := hide (fun k => @placeN_hit W s k)
  have HNone := hide (@placeN_none W s)
  have HW0 := hide hw0
  clear hk hw0 hs0 hh1
  obtain ⟨nw, hnw⟩ : ∃ nw, nw = W.length := ⟨_, rfl⟩
  rw [← hnw] at HC HHit HNone hl hW0 z1 ⊢
  clear hnw
  generalize placeN W s = q at *
  go_enter Tryz.func45, Tryz.ntmps45
  go_wp2_with fail
  rw [← hW0]
  clear hW0
  go_loopw [5] (fun i wr => ∃ k : Nat, k ≤ nw ∧ i = .int .i64 k ∧ Hid (∀ j, j < k → (W[j]?.getD holdNil).session ≠ s) ∧ wr = W0) (fun i _ => nw - (intOf i).toNat)
  case atStart => exact ⟨0, Nat.zero_le _, rfl, fun j hj => absurd hj (by omega), rfl⟩
  case round =>
    obtain ⟨k, hkl, rfl, hno, rfl⟩ := hrel
    by_cases hlt : k < nw
    · have hlt1 : (k : Int) < (nw : Int) := by omega
      obtain ⟨b, o, rfl, hb, hA⟩ := HC.out k hlt
      have g0 := hA.c0
      have HH := hide (HHit.out k hlt hno.out)
      have HNx : Hid ((W[k]?.getD holdNil).session ≠ s → ∀ j, j < k + 1 → (W[j]?.getD holdNil).session ≠ s) := fun h j hj => by
        by_cases e : j = k
        · subst e; exact h
        · exact hno.out j (by omega)
      clear hA
      generalize (W[k]?.getD holdNil).session = x at *
      by_cases hx : x = s
      · have h1 : (x == s) = true := by simp [hx]
        have HE := hide (HH.out hx)
        clear hx
        go_wp2_with fail
        go_ret
        exact ⟨ret_int (by rw [HE.out]; simp), HW0.out⟩
      · have h1 : (x == s) = false := by simp [hx]
        have HE := hide (HNx.out hx)
        clear hx
        go_wp2_with fail
        exact ⟨⟨k + 1, by omega, by go_num, HE.out, by first | trivial | rfl⟩, by simp [intOf]; omega⟩
    · have hlt1 : ¬ (k : Int) < (nw : Int) := by omega
      have HE := hide (HNone.out fun j hj => hno.out j (by omega))
      go_wp2_with fail
      go_ret
      exact ⟨ret_int (by rw [HE.out]; rfl), HW0.out⟩

set_option maxHeartbeats 400000 in
theorem waitHas_any (ad : Int → Nat) (x : PHold) (s : Int) (b : Nat) (w : World) (hb : b < w.heap.size) (hc : w.cell? ⟨b, 0, none⟩ = some (.int .i64 s)) :
    Calls Tryz.prog 74 #[lockVal ad x, .pointer (some ⟨b, 0, none⟩)] w fun e w' => e = .returned (.bool (x.session == s)) ∧ Below w.heap.size w w' := by
  go_enter Tryz.func74, Tryz.ntmps74
  go_wp2_with fail
  go_ret
  exact ⟨rfl, (Below.refl _ _).alloc (Nat.le_refl _) _⟩

set_option maxHeartbeats 1000000 in
theorem indexWait_any (ad : Int → Nat) (a : Option Addr) (cap : Nat) (W : List PHold) (s : Int) (pb : Nat) (w : World) (hk : W = [] ∨ ∃ b, a = some ⟨b, 0, none⟩ ∧ b < w.heap.size ∧ ∀ j, j < W.length → LockAt w ad b (j * 3) (W[j]?.getD holdNil)) (hl : W.length ≤ 1048576) (hpb : pb < w.heap.size) (hc0 : w.cell? ⟨pb, 0, none⟩ = some (.int .i64 s)) :
    Calls Tryz.prog 73 #[.slice a W.length cap, .func (.func 74) #[] #[.pointer (some ⟨pb, 0, none⟩)]] w fun e w' => e = .returned (.int .i64 ((placeN W s : Int) - 1)) ∧ Below w.heap.size w w' := by
  have HC : Hid (∀ k, k < W.length → ∃ b, a = some ⟨b, 0, none⟩ ∧ b < w.heap.size ∧ ∀ wx, Below w.heap.size w wx → LockAt wx ad b (k * 3) (W[k]?.getD holdNil)) := fun k hlt => by
    obtain ⟨b, rfl, hb, hc⟩ := hk.resolve_left (by intro e; simp [e] at hlt)
    exact ⟨b, rfl, hb, fun wx hbx => (hc k hlt).below hb hbx⟩
  have HHit := hide (fun k => @placeN_hit W s k)
  have HNone := hide (@placeN_none W s)
  clear hk
  obtain ⟨nw, hnw⟩ : ∃ nw, nw = W.length := ⟨_, rfl⟩
  rw [← hnw] at HC HHit HNone hl ⊢
  clear hnw
  generalize placeN W s = q at *
  go_enter Tryz.func73, Tryz.ntmps73
  go_wp2_with fail
  go_loopw [8] (fun i wr => ∃ k : Nat, k ≤ nw ∧ i = .int .i64 k ∧ Hid (∀ j, j < k → (W[j]?.getD holdNil).session ≠ s) ∧ Below w.heap.size w wr) (fun i _ => nw - (intOf i).toNat)
  case atStart => exact ⟨0, Nat.zero_le _, rfl, fun j hj => absurd hj (by omega), Below.refl _ _⟩
  case round =>
    obtain ⟨k, hkl, rfl, hno, hbr⟩ := hrel
    have hsz := hbr.size
    by_cases hlt : k < nw
    · have hlt1 : (k : Int) < (nw : Int) := by omega
      obtain ⟨b, rfl, hb, hc⟩ := HC.out k hlt
      have hA := hc wr hbr
      have g0 := hA.c0
      have g1 := hA.c1
      have g2 := hA.c2
      have hbw : b < wr.heap.size := by omega
      have HCall := hide (waitHas_any ad (W[k]?.getD holdNil) s pb wr (by omega) ((hbr.cell (p := ⟨pb, 0, none⟩) hpb).trans hc0))
      have HH := hide (HHit.out k hlt hno.out)
      have HNx : Hid ((W[k]?.getD holdNil).session ≠ s → ∀ j, j < k + 1 → (W[j]?.getD holdNil).session ≠ s) := fun h j hj => by
        by_cases e : j = k
        · subst e; exact h
        · exact hno.out j (by omega)
      clear hA hc
      generalize W[k]?.getD holdNil = x at *
      by_cases hx : x.session = s
      · have h1 : (x.session == s) = true := by simp [hx]
        have HE := hide (HH.out hx)
        rw [h1] at HCall
        clear hx h1
        go_wp2_with (go_at_call 74; refine HCall.out.mono ?_; rintro e w1 ⟨rfl, hb1⟩)
        go_ret
        exact ⟨ret_int (by rw [HE.out]; simp), hbr.trans (hb1.mono hsz)⟩
      · have h1 : (x.session == s) = false := by simp [hx]
        have HE := hide (HNx.out hx)
        rw [h1] at HCall
        clear hx h1
        go_wp2_with (go_at_call 74; refine HCall.out.mono ?_; rintro e w1 ⟨rfl, hb1⟩)
        exact ⟨⟨k + 1, by omega, by go_num, HE.out, hbr.trans (hb1.mono hsz)⟩, by simp [intOf]; omega⟩
    · have hlt1 : ¬ (k : Int) < (nw : Int) := by omega
      have HE := hide (HNone.out fun j hj => hno.out j (by omega))
      go_wp2_with fail
      go_ret
      exact ⟨ret_int (by rw [HE.out]; rfl), hbr⟩

set_option maxHeartbeats 1000000 in
theorem placeOfWait_any (fb lb : Nat) (ad : Int → Nat) (W : List PHold) (s : Int) (w : World) (h : LocksAt w.heap.size w fb lb ad W) (hl : W.length ≤ 1048576) :
    Calls Tryz.prog 47 #[.pointer (some ⟨fb, 0, none⟩), .int .i64 s] w fun e w' => e = .returned (.int .i64 ((placeN W s : Int) - 1)) ∧ Below w.heap.size w w' := by
  obtain ⟨W0, hW0⟩ : ∃ W0, W0 = w.alloc (.cells #[.int .i64 s] 3) := ⟨_, rfl⟩
  have hW : Below w.heap.size w W0 := by rw [hW0]; exact (Below.refl w.heap.size w).alloc (Nat.le_refl _) _
  have hs0 : w.heap.size < W0.heap.size := by rw [hW0]; simp
  have hc0 : W0.cell? ⟨w.heap.size, 0, none⟩ = some (.int .i64 s) := by rw [hW0, cell_of_heap (alloc_new _ _)]; rfl
  obtain ⟨h0, h1, a, cap, h2, h3⟩ := h.below (n₂ := W0.heap.size) (by omega) hW
  have HI := hide (indexWait_any ad a cap W s w.heap.size W0 h3 hl hs0 hc0)
  have hmf : ∀ (fn : Fn) (first cap : Array Value) (w : World), (Instr.makeFunc fn first cap).run Tryz.prog w = .ok (.func fn first cap) w := fun _ _ _ _ => rfl
  have HW := hide hW
  clear h h3 hc0 hW
  generalize placeN W s = q at *
  go_enter Tryz.func47, Tryz.ntmps47
  rw [hW0] at h0 h2
  go_wp2_with fail
  rw [← hW0]
  refine HI.out.mono ?_
  rintro e w1 ⟨rfl, hb1⟩
  clear hW0
  go_wp2_with fail
  go_ret
  exact ⟨ret_int (by first | omega | simp), HW.out.trans (hb1.mono (by omega))⟩
end Go.Proofs.YtfjhpfgffbghdaaGreatDoor

namespace Go.Proofs.YtfjhpfgffbghdaaGreatDoor

theorem sessL_in : ∀ (zs : List Int) (i : Int), i ∈ sessL zs → i ∈ zs := by
  intro zs i
  have : ∀ m, m ≤ zs.length → i ∈ sessL (zs.take m) → i ∈ zs := by
    intro m
    induction m with
    | zero => intro _ h; simp [sessL] at h
    | succ m ih =>
      intro h hi
      rw [List.take_succ_eq_append_getElem (by omega), sessL_snoc] at hi
      unfold addS at hi
      split at hi
      · exact ih (by omega) hi
      · rcases List.mem_append.1 hi with hi | hi
        · exact ih (by omega) hi
        · rw [List.mem_singleton] at hi; rw [hi]; exact List.getElem_mem _
  have h := this zs.length (Nat.le_refl _)
  rwa [List.take_length] at h

theorem sessL_rises : ∀ m (zs : List Int), zs.length = m → zs.Pairwise (· ≤ ·) → (sessL zs).Pairwise (· < ·) := by
  intro m
  induction m with
  | zero =>
    intro zs h _
    obtain rfl : zs = [] := List.length_eq_zero_iff.1 h
    exact List.Pairwise.nil
  | succ m ih =>
    intro zs h hp
    rcases List.eq_nil_or_concat zs with rfl | ⟨l, z, rfl⟩
    · simp at h
    rw [List.concat_eq_append] at h hp ⊢
    rw [List.pairwise_append] at hp
    obtain ⟨p1, -, p3⟩ := hp
    have hl := ih l (by simpa using h) p1
    rw [sessL_snoc]
    unfold addS
    split
    · exact hl
    · rename_i hne
      rw [List.pairwise_append]
      refine ⟨hl, List.pairwise_singleton _ _, fun a ha b hb => ?_⟩
      rw [List.mem_singleton] at hb
      subst hb
      have ha := sessL_in l a ha
      rw [sessL_last] at hne
      rcases List.eq_nil_or_concat l with rfl | ⟨l', y, rfl⟩
      · simp at ha
      rw [List.concat_eq_append] at ha hne p1 p3
      have hy : y ≠ b := fun e => hne (by simp [e])
      have h1 := p3 y (by simp) b (by simp)
      rw [List.pairwise_append] at p1
      rcases List.mem_append.1 ha with ha | ha
      · have := p1.2.2 a ha y (by simp); omega
      · rw [List.mem_singleton] at ha; omega

theorem sessP_rises {d : PDoc} {L : List PHold} (hL : HoldsP d L) : (sessP L).Pairwise (· < ·) := by
  refine sessL_rises _ _ rfl ?_
  rw [List.pairwise_iff_getElem]
  intro i j hi hj hij
  rw [List.length_map] at hi hj
  have := lessB_iff.1 (hL.less hij hj)
  rw [List.getElem?_eq_getElem hi, List.getElem?_eq_getElem hj, Option.getD_some, Option.getD_some] at this
  rw [List.getElem_map, List.getElem_map]
  omega

theorem blockL_rises {d : PDoc} {L W : List PHold} {x : PHold} (hL : HoldsP d L) : ∀ k, (blockL d L W x k).Pairwise (· < ·)
  | 0 => by rw [blockL]; exact (sessP_rises hL).filter _
  | k + 1 => by
    have ih := blockL_rises (W := W) (x := x) hL k
    by_cases hc : RivalP d L x (W[k]?.getD holdNil) ∧ (W[k]?.getD holdNil).session ∉ blockL d L W x k
    · rw [blockL_yes hc.1 hc.2]; exact riseL_rises ih hc.2
    · rw [blockL_no hc]; exact ih

/-- What the calls on a table and a session ask first. -/
noncomputable def tabAsk (d : PDoc) (t : PTab) (s : Int) : Int := by
  classical exact if TabP d t then if 1 ≤ s ∧ s ≤ 999 then 0 else 4 else 1
theorem tabAsk_bad {d : PDoc} {t : PTab} {s : Int} (h : ¬ TabP d t) : tabAsk d t s = 1 := by unfold tabAsk; rw [if_neg h]
theorem tabAsk_range {d : PDoc} {t : PTab} {s : Int} (h : TabP d t) (h' : ¬ (1 ≤ s ∧ s ≤ 999)) : tabAsk d t s = 4 := by unfold tabAsk; rw [if_pos h, if_neg h']
theorem tabAsk_ok {d : PDoc} {t : PTab} {s : Int} (h : TabP d t) (h' : 1 ≤ s ∧ s ≤ 999) : tabAsk d t s = 0 := by unfold tabAsk; rw [if_pos h, if_pos h']
theorem tabAsk_zero {d : PDoc} {t : PTab} {s : Int} (h : tabAsk d t s = 0) : TabP d t ∧ 1 ≤ s ∧ s ≤ 999 := by
  unfold tabAsk at h
  split at h
  · split at h
    · exact ⟨by assumption, by assumption⟩
    · cases h
  · cases h

noncomputable def blockCode (d : PDoc) (t : PTab) (s : Int) : Int := if tabAsk d t s = 0 then if placeN t.waits s = 0 then 5 else 0 else tabAsk d t s
noncomputable def blockAns (d : PDoc) (t : PTab) (s : Int) : List Int := if blockCode d t s = 0 then blockL d t.holds t.waits (t.waits[placeN t.waits s - 1]?.getD holdNil) (placeN t.waits s - 1) else []

theorem blockCode_bad {d : PDoc} {t : PTab} {s : Int} (h : tabAsk d t s ≠ 0) : blockCode d t s = tabAsk d t s := by unfold blockCode; rw [if_neg h]
theorem blockCode_none {d : PDoc} {t : PTab} {s : Int} (h : tabAsk d t s = 0) (h' : placeN t.waits s = 0) : blockCode d t s = 5 := by unfold blockCode; rw [if_pos h, if_pos h']
theorem blockCode_ok {d : PDoc} {t : PTab} {s : Int} (h : tabAsk d t s = 0) (h' : placeN t.waits s ≠ 0) : blockCode d t s = 0 := by unfold blockCode; rw [if_pos h, if_neg h']
theorem blockAns_no {d : PDoc} {t : PTab} {s : Int} (h : blockCode d t s ≠ 0) : blockAns d t s = [] := by unfold blockAns; rw [if_neg h]
theorem blockAns_ok {d : PDoc} {t : PTab} {s : Int} (h : blockCode d t s = 0) : blockAns d t s = blockL d t.holds t.waits (t.waits[placeN t.waits s - 1]?.getD holdNil) (placeN t.waits s - 1) := by unfold blockAns; rw [if_pos h]
theorem blockAns_len (d : PDoc) (t : PTab) (s : Int) : (blockAns d t s).length ≤ 1048576 := by
  by_cases h : blockCode d t s = 0
  · rw [blockAns_ok h]
    have h0 : tabAsk d t s = 0 := Classical.byContradiction fun e => by rw [blockCode_bad e] at h; exact e h
    have hT := (tabAsk_zero h0).1
    have h1 := blockL_len d t.holds t.waits (t.waits[placeN t.waits s - 1]?.getD holdNil) (placeN t.waits s - 1)
    have h2 := hT.locks.holds.len
    have h3 := hT.waits.len
    have h4 := placeN_le t.waits s
    omega
  · rw [blockAns_no h]; simp
end Go.Proofs.YtfjhpfgffbghdaaGreatDoor

namespace Go.Proofs.YtfjhpfgffbghdaaGreatDoor
open Go.RowKit

set_option maxHeartbeats 4000000 in
set_option maxRecDepth 100000 in
theorem specPath_any (n₀ : Nat) (d : PDoc) (G : Good d) (s : Value) (id : Int) (q : Nat) (hq : Dep d.nodes d.root q id) (w : World) (hN : NodesAt n₀ w s d.nodes) (hn : n₀ ≤ w.heap.size) (hl : d.nodes.length ≤ 1048576) (hkl : ∀ x ∈ d.nodes, x.kids.length ≤ 1048576) :
    Calls Tryz.prog 97 #[.agg #[.int .i64 d.root, .int .i64 d.next, s], .int .i64 id] w (IdsPost w (ups d.nodes q id).reverse) := by
  obtain ⟨i0, hinf, hz0, hz1, hz2⟩ := info_parts specInfoInt'
  have HG := hide G
  have HN := hide hN
  have HKL := hide hkl
  have hq40 := G.dep_le hq
  obtain ⟨ch, hch⟩ : ∃ ch, ch = ups d.nodes q id := ⟨_, rfl⟩
  have hchl : ch.length = q + 1 := by rw [hch, ups_len]
  have HLf : Hid (Left d id ch) := .inl ⟨q, hq, hch⟩
  rw [← hch]
  obtain ⟨a, cap, rfl, -⟩ := hN
  clear hq hch G hkl
  have hW1 := (Below.refl w.heap.size w).alloc (Nat.le_refl _) (.cells #[.int .i64 d.root, .int .i64 d.next, .slice a d.nodes.length cap] 38)
  have HR0 : Hid (((w.alloc (.cells #[.int .i64 d.root, .int .i64 d.next, .slice a d.nodes.length cap] 38)).alloc (.cells #[] 3)).ownsRow (w.heap.size + 1) 3 1 (.slice (some ⟨w.heap.size + 1, 0, none⟩) 0 0) 0 []) := by
    have := row_none (w.alloc (.cells #[.int .i64 d.root, .int .i64 d.next, .slice a d.nodes.length cap] 38)) (w.heap.size + 1) (by simp)
    unfold Hid
    simpa using this
  go_enter Tryz.func97, Tryz.ntmps97
  go_wp2_with fail
  go_loopw [5, 6] (fun ov cv wr => ∃ (pre rest : List Int) (cur : Int) (g c : Nat), cv = .int .i64 cur ∧ ov = .slice (some ⟨g, 0, none⟩) pre.length c ∧ Hid (pre ++ rest = ch ∧ Left d cur rest) ∧ pre.length ≤ q + 1 ∧ 0 ≤ cur ∧ Hid (wr.ownsRow (w.heap.size + 1) 3 1 (.slice (some ⟨g, 0, none⟩) pre.length c) pre.length (pre.reverse.map (Value.int .i64))) ∧ Below (w.heap.size + 1) (w.alloc (.cells #[.int .i64 d.root, .int .i64 d.next, .slice a d.nodes.length cap] 38)) wr) (fun ov _ _ => q + 2 - lenOf ov)
  case atStart => exact ⟨[], ch, id, w.heap.size + 1, 0, rfl, rfl, ⟨rfl, HLf.out⟩, by simp, HLf.out.pos HG.out, HR0, (Below.refl _ _).alloc (by simp) _⟩
  case round =>
    obtain ⟨pre, rest, cur, g, c, rfl, rfl, hinv, hpl, hcur, hrow, hbr⟩ := hrel
    have hsz := hbr.size
    simp only [World.size_alloc] at hsz
    obtain ⟨x0, x1, x2⟩ := box_doc' hbr
    have hz : w.heap.size < wr.heap.size := by omega
    by_cases hc0 : 0 < cur
    · obtain ⟨rest', hr1, hr2, hr3⟩ := hinv.out.2.next HG.out (by omega)
      have HInv : Hid ((pre ++ [cur]) ++ rest' = ch ∧ Left d (parentOf d.nodes cur) rest') := ⟨by rw [List.append_assoc, List.singleton_append, ← hr1]; exact hinv.out.1, hr2⟩
      have hpl2 : pre.length + 1 ≤ q + 1 := by
        have := congrArg List.length HInv.out.1
        rw [hchl] at this
        simp at this; omega
      have hcells := (ownsRow_below hrow.out ((Below.refl _ _).alloc (Nat.le_refl _) (.cells #[.int .i64 cur] 3))).cells (g := g) rfl
      have hpos := hr2.pos HG.out
      have HPar : Hid (∀ wx, Below (w.heap.size + 1) (w.alloc (.cells #[.int .i64 d.root, .int .i64 d.next, .slice a d.nodes.length cap] 38)) wx → Calls Tryz.prog 117 #[.agg #[.int .i64 d.root, .int .i64 d.next, .slice a d.nodes.length cap], .int .i64 cur] wx fun e w' => e = .returned (.int .i64 (parentOf d.nodes cur)) ∧ Below wx.heap.size wx w') := fun wx hb =>
        specParent_any n₀ d.root d.next _ d.nodes cur wx (HN.out.below (Nat.le_refl _) ((hW1.mono hn).trans (hb.mono (by omega)))) (by have := hb.size; simp at this; omega) hl HKL.out
      clear hr1 hr2 hr3
      generalize parentOf d.nodes cur = nxt at *
      have HCells := hide hcells
      clear hcells
      go_wp2_with (at_builtin; refine wpList_append_own _ rfl _ _ 33 rfl (w.heap.size + 1) 3 i0 (.int .i64 0) 1 8 Tryz.underlying33 hinf hz0 hz1 hz2 rfl (by decide) _ _ _ rfl (row_one wr (w.heap.size + 1) (by omega) cur) ⟨g, 0, none⟩ pre.length c (pre.reverse.map (Value.int .i64)) rfl (by simp) HCells.out (ints_one _) (by unfold maxLen; omega) (by omega) (by simp; omega) ?_)
      intro v' w1 hown' hgrow _
      have hb3 := (hbr.alloc (by omega) (.cells #[.int .i64 cur] 3)).grown hgrow (by simp; omega) (fun g' hg' => by simp [Value.ownBlock] at hg'; omega)
      have HRow3 : Hid (w1.ownsRow (w.heap.size + 1) 3 1 v' (pre ++ [cur]).length ((pre ++ [cur]).reverse.map (Value.int .i64))) := by
        have e1 : (pre ++ [cur]).length = 1 + pre.length := by simp; omega
        rw [Hid, e1]
        simpa using hown'
      obtain ⟨g3, c3, rfl⟩ := row_some HRow3.out (by simp)
      clear hown' hgrow hrow HCells
      obtain ⟨y0, y1, y2⟩ := box_doc' hb3
      have hs3 := hb3.size
      simp only [World.size_alloc] at hs3
      have hz3 : w.heap.size < w1.heap.size := by omega
      go_wp2_with (go_at_call 117; refine (HPar.out _ hb3).mono ?_; rintro e w2 ⟨rfl, hb4⟩)
      have HRow4 := hide (ownsRow_below HRow3.out hb4)
      exact ⟨⟨pre ++ [cur], rest', nxt, g3, c3, rfl, by simp, HInv, by simp; omega, hpos, HRow4, hb3.trans (hb4.mono (by omega))⟩, by simp [lenOf]; omega⟩
    · obtain rfl : cur = 0 := by omega
      have hd := hinv.out.2.done HG.out
      have HE : Hid (pre = ch) := by have := hinv.out.1; rw [hd, List.append_nil] at this; exact this
      have HRw : Hid (wr.ownsRow (w.heap.size + 1) 3 1 (.slice (some ⟨g, 0, none⟩) pre.length c) ch.reverse.length (ch.reverse.map (Value.int .i64))) := by
        have := hrow.out
        rw [Hid, List.length_reverse, ← HE.out]; exact this
      clear hd hinv hrow
      go_wp2_with fail
      go_ret
      exact ⟨_, rfl, ownsRow_base HRw.out (by omega : w.heap.size ≤ w.heap.size + 1), hW1.trans (hbr.mono (by omega))⟩
end Go.Proofs.YtfjhpfgffbghdaaGreatDoor

namespace Go.Proofs.YtfjhpfgffbghdaaGreatDoor
open Go.RowKit

set_option maxHeartbeats 400000 in
theorem specIntent_any (m : Int) (w : World) :
    Calls Tryz.prog 118 #[.int .i64 m] w fun e w' => e = .returned (.int .i64 (intentI m)) ∧ w' = w := by
  have H0 : Hid (m = 0 → intentI m = 0) := fun h => by subst h; rfl
  have H1 : Hid (m = 1 ∨ m = 3 → intentI m = 1) := fun h => by rcases h with rfl | rfl <;> rfl
  have H2 : Hid (m ≠ 0 → ¬ (m = 1 ∨ m = 3) → intentI m = 2) := fun h h' => by unfold intentI; rw [if_neg h, if_neg h']
  go_enter Tryz.func118, Tryz.ntmps118
  go_wp2
  all_goals
    go_ret
    refine ⟨ret_int ?_, rfl⟩
    simp only [beq_eq_false_iff_ne, beq_iff_eq] at *
    try subst_vars
    first | rfl | exact (H0.out (by omega)).symm | exact (H1.out (by omega)).symm | exact (H2.out (by omega) (by omega)).symm
end Go.Proofs.YtfjhpfgffbghdaaGreatDoor

namespace Go.Proofs.YtfjhpfgffbghdaaGreatDoor
open Go.RowKit

def modeB (m : Int) : Bool := inB m 0 5
theorem modeB_iff {m : Int} : modeB m = true ↔ ModeP m := by unfold modeB ModeP; exact inB_iff

theorem specMode0_any (m : Int) (w : World) :
    Calls Tryz.prog 52 #[.int .i64 m, .int .i64 0, .int .i64 5] w fun e w' => e = .returned (.bool (modeB m)) ∧ w' = w := specIn_any m 0 5 w

set_option maxHeartbeats 400000 in
theorem specJoin_le (a b : Int) (h : a ≤ b) (w : World) :
    Calls Tryz.prog 84 #[.int .i64 a, .int .i64 b] w fun e w' => e = .returned (.int .i64 (joinI a b)) ∧ w' = w := by
  by_cases h2 : a = 2 ∧ b = 3
  · obtain ⟨rfl, rfl⟩ := h2
    go_enter Tryz.func84, Tryz.ntmps84
    go_wp2
    go_ret
    exact ⟨rfl, rfl⟩
  · have HJ : Hid (joinI a b = b) := joinI_le h h2 rfl
    go_enter Tryz.func84, Tryz.ntmps84
    go_wp2
    all_goals first | (exfalso; omega) | skip
    all_goals
      go_ret
      exact ⟨ret_int HJ.out.symm, rfl⟩

set_option maxHeartbeats 400000 in
theorem specJoin_any (a b : Int) (w : World) :
    Calls Tryz.prog 84 #[.int .i64 a, .int .i64 b] w fun e w' => e = .returned (.int .i64 (joinI a b)) ∧ w' = w := by
  by_cases h : a ≤ b
  · exact specJoin_le a b h w
  · have HC := hide (specJoin_le b a (by omega) w)
    have HJ : Hid (joinI b a = joinI a b) := joinI_comm b a
    go_enter Tryz.func84, Tryz.ntmps84
    go_wp2_with (go_at_call 84; refine HC.out.mono ?_; rintro e w' ⟨rfl, rfl⟩)
    go_ret
    exact ⟨ret_int HJ.out, rfl⟩

set_option maxHeartbeats 2000000 in
theorem implJoin_any (a b : Int) (ha : ModeP a) (hb : ModeP b) (w : World) :
    Calls Tryz.prog 93 #[.int .i64 a, .int .i64 b] w fun e w' => e = .returned (.int .i64 (joinI a b)) ∧ w' = w := by
  rcases ha.cases with rfl | rfl | rfl | rfl | rfl | rfl <;> rcases hb.cases with rfl | rfl | rfl | rfl | rfl | rfl
  all_goals
    go_enter Tryz.func93, Tryz.ntmps93
    go_wp2
    go_ret
    exact ⟨rfl, rfl⟩
end Go.Proofs.YtfjhpfgffbghdaaGreatDoor

namespace Go.Proofs.YtfjhpfgffbghdaaGreatDoor
open Go.RowKit

set_option maxHeartbeats 2000000 in
set_option maxRecDepth 100000 in
theorem specAt07_any (n₀ : Nat) (d : PDoc) (s v : Value) (L : List PHold) (ss id : Int) (w : World) (hN : NodesAt n₀ w s d.nodes) (hV : HoldsAt n₀ w v L) (hn : n₀ ≤ w.heap.size) (hl : d.nodes.length ≤ 1048576) (hkl : ∀ x ∈ d.nodes, x.kids.length ≤ 1048576) (G : Good d) (hL : HoldsP d L) :
    Calls Tryz.prog 98 #[.agg #[.int .i64 d.root, .int .i64 d.next, s], v, .int .i64 ss, .int .i64 id] w fun e w' => e = .returned (.int .i64 (modeAtP d L ss id)) ∧ Below w.heap.size w w' := by
  obtain ⟨W0, hW0⟩ : ∃ W0, W0 = w.alloc (.cells #[.int .i64 d.root, .int .i64 d.next, s] 38) := ⟨_, rfl⟩
  have hw0 : Below w.heap.size w W0 := by rw [hW0]; exact (Below.refl w.heap.size w).alloc (Nat.le_refl _) _
  have hs0 : W0.heap.size = w.heap.size + 1 := by rw [hW0]; simp
  have hh0 : W0.heap[w.heap.size]? = some (.cells #[.int .i64 d.root, .int .i64 d.next, s] 38 (0, 0)) := by rw [hW0]; exact alloc_new w _
  have HOld : Hid (∀ wx, Below (w.heap.size + 1) W0 wx → Below w.heap.size w wx ∧ w.heap.size + 1 ≤ wx.heap.size) := fun wx hb => ⟨hw0.trans (hb.mono (by omega)), by have := hb.size; omega⟩
  have HB : Hid (∀ wx, Below (w.heap.size + 1) W0 wx → wx.cell? ⟨w.heap.size, 0, none⟩ = some (.int .i64 d.root) ∧ wx.cell? ⟨w.heap.size, 1, none⟩ = some (.int .i64 d.next) ∧ wx.cell? ⟨w.heap.size, 2, none⟩ = some s) := fun wx hb => by
    have j1 := (hb.block w.heap.size (by omega)).trans hh0
    exact ⟨cell_of_heap j1 0, cell_of_heap j1 1, cell_of_heap j1 2⟩
  have HPa : Hid (∀ wx k, k ∈ idsOf d.nodes → Below w.heap.size w wx → Calls Tryz.prog 97 #[.agg #[.int .i64 d.root, .int .i64 d.next, s], .int .i64 k] wx fun e w' => ∃ u, e = .returned u ∧ IntsAt w'.heap.size w' u (upsOf d k).reverse ∧ Below wx.heap.size wx w') := fun wx k hk hb => by
    obtain ⟨q, hq⟩ := G.dep hk
    rw [upsOf_eq G hq]
    exact (specPath_any n₀ d G s k q hq wx (hN.below (Nat.le_refl _) (hb.mono hn)) (by have := hb.size; omega) hl hkl).mono fun e w' ⟨u, he, hrow, hb'⟩ => ⟨u, he, ints_of_row hrow, hb'⟩
  have HUl : Hid (∀ k, (upsOf d k).reverse.length ≤ 1048576) := fun k => by rw [upsOf, List.reverse_reverse]; exact pathAns_len d k
  have hl30 := hL.len
  obtain ⟨sa, sc, rfl, -⟩ := hN
  obtain ⟨a, cap, rfl, hk⟩ := hV
  clear hw0 hs0 hh0 hkl
  go_enter Tryz.func98, Tryz.ntmps98
  go_wp2_with fail
  rw [← hW0]
  clear hW0
  go_loopw [9, 10] (fun m idx wr => ∃ k : Nat, k ≤ L.length ∧ m = .int .i64 (joinedOf (partI d id) (L.take k) ss) ∧ idx = .int .i64 k ∧ Below (w.heap.size + 1) W0 wr) (fun _ idx _ => L.length - (intOf idx).toNat)
  case atStart => exact ⟨0, Nat.zero_le _, rfl, rfl, Below.refl _ _⟩
  case round =>
    obtain ⟨k, hkl, rfl, rfl, hbr⟩ := hrel
    obtain ⟨hbw, hsz⟩ := HOld.out _ hbr
    by_cases hlt : k < L.length
    · obtain ⟨b, off, rfl, hb, hc⟩ := hk.resolve_left (by intro e; simp [e] at hlt)
      have hA := (hc k hlt).below hb (hbw.mono hn)
      have g0 := hA.c0
      have g1 := hA.c1
      have g2 := hA.c2
      have hxh := hL.mode _ (at_mem hlt)
      have hlt1 : (k : Int) < (L.length : Int) := by omega
      have hbl : b < wr.heap.size := by omega
      have hM : ModeP (joinedOf (partI d id) (L.take k) ss) := joinedOf_mode (take_mem fun y hy => partI_mode (hL.mode y hy).modeP)
      have HHit := hide (@joinedOf_hit (partI d id) L ss k hlt)
      have HMiss := hide (@joinedOf_miss (partI d id) L ss k hlt)
      generalize L[k]?.getD holdNil = x at *
      obtain ⟨W1, hW1⟩ : ∃ W1, W1 = wr.alloc (.cells #[.int .i64 x.session, .int .i64 x.node, .int .i64 x.mode] 86) := ⟨_, rfl⟩
      have hh1 : W1.heap[wr.heap.size]? = some (.cells #[.int .i64 x.session, .int .i64 x.node, .int .i64 x.mode] 86 (0, 0)) := by rw [hW1]; exact alloc_new wr _
      have hb1 : Below wr.heap.size wr W1 := by rw [hW1]; exact (Below.refl _ _).alloc (Nat.le_refl _) _
      have hb2 : Below (w.heap.size + 1) W0 W1 := hbr.trans (hb1.mono hsz)
      obtain ⟨x0, x1, x2⟩ := HB.out _ hbr
      have hzr : w.heap.size < wr.heap.size := by omega
      have y0 := cell_of_heap hh1 0
      have y1 := cell_of_heap hh1 1
      have y2 := cell_of_heap hh1 2
      simp only [List.getElem?_toArray, List.getElem?_cons_succ, List.getElem?_cons_zero] at y0 y1 y2
      have hz1 : wr.heap.size < W1.heap.size := (Array.getElem?_eq_some_iff.1 hh1).1
      have hz0 : w.heap.size < W1.heap.size := by omega
      clear hc hk hA
      by_cases hss : x.session = ss
      · have HE := hide (HHit.out hss)
        have hse : (x.session != ss) = false := by simp [hss]
        clear hss HHit HMiss
        by_cases hni : x.node = id
        · have HP : Hid (partI d id x = x.mode) := partI_on hni
          have hne : (x.node == id) = true := by simp [hni]
          have hJm : ModeP (joinI (joinedOf (partI d id) (L.take k) ss) x.mode) := joinI_mode hM hxh.modeP
          rw [HP.out] at HE
          clear hni
          generalize joinedOf (partI d id) (L.take k) ss = m0 at *
          go_wp2_with fail
          rw [← hW1]
          clear hW1
          go_wp2_with (go_at_call 84; refine (specJoin_any _ _ _).mono ?_; rintro e w' ⟨rfl, rfl⟩)
          exact ⟨⟨k + 1, by omega, by rw [HE.out], by go_num, hb2⟩, by simp [intOf]; omega⟩
        · have hne : (x.node == id) = false := by simp [hni]
          have HPa1 := hide (HPa.out W1 x.node hxh.2.1 (HOld.out _ hb2).1)
          have HU1 := HUl.out x.node
          obtain ⟨q, hq⟩ : ∃ q, q = hasB (upsOf d x.node).reverse id := ⟨_, rfl⟩
          have HQ := hide hq
          have HHas : Hid (∀ wx u, IntsAt wx.heap.size wx u (upsOf d x.node).reverse → Calls Tryz.prog 71 #[u, .int .i64 id] wx fun e w' => e = .returned (.bool q) ∧ w' = wx) := fun wx u hu => by
            rw [HQ.out]; exact specHas_any wx.heap.size u _ id wx hu HU1
          have HPt : Hid (q = true → partI d id x = intentI x.mode) := fun h => partI_above hni (by rw [HQ.out, hasB_iff, List.mem_reverse] at h; exact h)
          have HPf : Hid (q = false → partI d id x = 0) := fun h => partI_off hni (by rw [HQ.out, hasB_no, List.mem_reverse] at h; exact h)
          clear hni hq
          generalize (upsOf d x.node).reverse = us at *
          have hJm : ModeP (joinI (joinedOf (partI d id) (L.take k) ss) (intentI x.mode)) := joinI_mode hM (intentI_mode _)
          cases q
          · have HE2 : Hid (joinedOf (partI d id) (L.take (k + 1)) ss = joinedOf (partI d id) (L.take k) ss) := by rw [Hid, HE.out, HPf.out rfl, joinI_zero hM.1]
            clear HE
            generalize joinedOf (partI d id) (L.take k) ss = m0 at *
            go_wp2_with fail
            rw [← hW1]
            clear hW1
            refine HPa1.out.mono ?_
            rintro e w2 ⟨u, rfl, hu, hb3⟩
            have hs3 := hb3.size
            have HH2 := hide (HHas.out w2 u hu)
            obtain ⟨ua, uc, rfl, -⟩ := hu
            go_wp2_with (go_at_call 71; refine HH2.out.mono ?_; rintro e w' ⟨rfl, rfl⟩)
            exact ⟨⟨k + 1, by omega, by rw [HE2.out], by go_num, hb2.trans (hb3.mono (by omega))⟩, by simp [intOf]; omega⟩
          · have HE2 : Hid (joinedOf (partI d id) (L.take (k + 1)) ss = joinI (joinedOf (partI d id) (L.take k) ss) (intentI x.mode)) := by rw [Hid, HE.out, HPt.out rfl]
            clear HE
            generalize joinedOf (partI d id) (L.take k) ss = m0 at *
            go_wp2_with fail
            rw [← hW1]
            clear hW1
            refine HPa1.out.mono ?_
            rintro e w2 ⟨u, rfl, hu, hb3⟩
            have hs3 := hb3.size
            have HH2 := hide (HHas.out w2 u hu)
            obtain ⟨ua, uc, rfl, -⟩ := hu
            have hh2 := (hb3.block wr.heap.size hz1).trans hh1
            have z2 := cell_of_heap hh2 2
            simp only [List.getElem?_toArray, List.getElem?_cons_succ, List.getElem?_cons_zero] at z2
            have hz2 : wr.heap.size < w2.heap.size := by omega
            go_wp2_with (first | (go_at_call 71; refine HH2.out.mono ?_; rintro e w' ⟨rfl, rfl⟩) | (go_at_call 118; refine (specIntent_any _ _).mono ?_; rintro e w' ⟨rfl, rfl⟩) | (go_at_call 84; refine (specJoin_any _ _ _).mono ?_; rintro e w' ⟨rfl, rfl⟩))
            exact ⟨⟨k + 1, by omega, by rw [HE2.out], by go_num, hb2.trans (hb3.mono (by omega))⟩, by simp [intOf]; omega⟩
      · have HE := hide (HMiss.out hss)
        have hse : (x.session != ss) = true := by simp [hss]
        clear hss HHit HMiss
        generalize joinedOf (partI d id) (L.take k) ss = m0 at *
        go_wp2_with fail
        rw [← hW1]
        clear hW1
        exact ⟨⟨k + 1, by omega, by rw [HE.out], by go_num, hb2⟩, by simp [intOf]; omega⟩
    · have HF : Hid (joinedOf (partI d id) (L.take k) ss = modeAtP d L ss id) := by rw [Hid, List.take_of_length_le (by omega)]; rfl
      clear hk
      generalize joinedOf (partI d id) (L.take k) ss = m0 at *
      go_wp2_with fail
      go_ret
      exact ⟨ret_int HF.out, hbw⟩
end Go.Proofs.YtfjhpfgffbghdaaGreatDoor

namespace Go.Proofs.YtfjhpfgffbghdaaGreatDoor
open Go.RowKit

set_option maxHeartbeats 2000000 in
theorem specFits_le (a b : Int) (ha : ModeP a) (hb : ModeP b) (h : a ≤ b) (w : World) :
    Calls Tryz.prog 100 #[.int .i64 a, .int .i64 b] w fun e w' => e = .returned (.bool (fitsB a b)) ∧ w' = w := by
  rcases ha.cases with rfl | rfl | rfl | rfl | rfl | rfl <;> rcases hb.cases with rfl | rfl | rfl | rfl | rfl | rfl
  all_goals first | (exfalso; revert h; decide) | skip
  all_goals
    clear h
    go_enter Tryz.func100, Tryz.ntmps100
    go_wp2
    go_ret
    exact ⟨rfl, rfl⟩

set_option maxHeartbeats 400000 in
theorem specFits_any (a b : Int) (ha : ModeP a) (hb : ModeP b) (w : World) :
    Calls Tryz.prog 100 #[.int .i64 a, .int .i64 b] w fun e w' => e = .returned (.bool (fitsB a b)) ∧ w' = w := by
  by_cases h : a ≤ b
  · exact specFits_le a b ha hb h w
  · have HC := hide (specFits_le b a hb ha (by omega) w)
    have HJ : Hid (fitsB b a = fitsB a b) := fitsB_comm b a
    by_cases h0 : a = 0 ∨ b = 0
    · obtain rfl : b = 0 := by
        rcases h0 with h0 | h0
        · have := hb.1; omega
        · exact h0
      have ha0 : (a == 0) = false := by simp; omega
      have HT : Hid (fitsB a 0 = true) := by simp [Hid, fitsB]
      go_enter Tryz.func100, Tryz.ntmps100
      go_wp2
      go_ret
      exact ⟨ret_bool HT.out.symm, rfl⟩
    · have ha0 : (a == 0) = false := by simp; omega
      have hb0 : (b == 0) = false := by simp; omega
      go_enter Tryz.func100, Tryz.ntmps100
      go_wp2_with (go_at_call 100; refine HC.out.mono ?_; rintro e w' ⟨rfl, rfl⟩)
      go_ret
      exact ⟨ret_bool HJ.out, rfl⟩
end Go.Proofs.YtfjhpfgffbghdaaGreatDoor
