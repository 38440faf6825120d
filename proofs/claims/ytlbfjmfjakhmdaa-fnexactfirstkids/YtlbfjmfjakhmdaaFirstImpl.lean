/-
  The shortest kids that a machine takes, as the program finds them.
-/
import Derived.Test.YtlbfjmfjakhmdaaStepImpl
import Derived.Test.YtlbfjmfjakhmdaaMachTo
import Derived.Laws.Tables
import Derived.WalkMore
import Derived.Laws.OwnMore
namespace Go.Proofs.Ytlbfjmfjakhmdaa
open Go.RowKit

def ptrOf (b : Nat) : Value := .pointer (some ⟨b, 0, none⟩)

/-- The steps of a list of states. -/
def StepsIn (w : World) (ads : List Nat) (Q : List (Nat × List Int)) : Prop :=
  ads.length = Q.length ∧ ∀ j, j < Q.length → StepAt w (ads[j]?.getD 0) (entry Q j).1 (entry Q j).2

theorem StepsIn.kept {w w' : World} {ads : List Nat} {Q : List (Nat × List Int)} (h : StepsIn w ads Q) (hk : ∀ (b : Nat) cs, w.heap[b]? = some (Obj.cells cs 61 (0, 0)) → w'.heap[b]? = w.heap[b]?) : StepsIn w' ads Q :=
  ⟨h.1, fun j hj => (h.2 j hj).kept hk⟩

theorem StepsIn.push {w : World} {ads : List Nat} {Q : List (Nat × List Int)} {b : Nat} {e : Nat × List Int} (h : StepsIn w ads Q) (hb : StepAt w b e.1 e.2) : StepsIn w (ads ++ [b]) (Q ++ [e]) := by
  obtain ⟨hl, h⟩ := h
  refine ⟨by simp [hl], fun j hj => ?_⟩
  by_cases hj2 : j < Q.length
  · rw [entry_append hj2, List.getElem?_append_left (by omega)]; exact h j hj2
  · obtain rfl : j = Q.length := by simp at hj; omega
    rw [entry_last, ← hl]; simpa using hb

/-- Which states have been come to. -/
def ComeAt (w : World) (B n : Nat) (Q : List (Nat × List Int)) : Prop :=
  ∃ cs, w.heap[B]? = some (.cells cs 4 (0, 0)) ∧ cs.size = n ∧ ∀ s, s < n → cs[s]? = some (.bool (hasB (statesOf Q) (s : Int)))

theorem ComeAt.mark {w : World} {B n s : Nat} {Q : List (Nat × List Int)} {ks : List Int} (h : ComeAt w B n Q) (hs : s < n) : ComeAt (w.setCell ⟨B, s, none⟩ (.bool true)) B n (Q ++ [(s, ks)]) := by
  obtain ⟨cs, h1, h2, h3⟩ := h
  refine ⟨cs.setIfInBounds s (.bool true), heap_setCell_same _ _ _ _ _ _ h1, by simpa using h2, fun t ht => ?_⟩
  rw [Array.getElem?_setIfInBounds]
  by_cases e : s = t
  · subst e
    rw [if_pos rfl, if_pos (by omega)]
    have : hasB (statesOf (Q ++ [(s, ks)])) (s : Int) = true := by rw [hasB_iff]; simp [statesOf]
    rw [this]
  · rw [if_neg e, h3 t ht]
    have : hasB (statesOf (Q ++ [(s, ks)])) (t : Int) = hasB (statesOf Q) (t : Int) := by
      rw [Bool.eq_iff_iff, hasB_iff, hasB_iff]
      simp only [statesOf, List.map_append, List.map_cons, List.map_nil, List.mem_append, List.mem_singleton]
      constructor
      · rintro (h | h)
        · exact h
        · exact absurd h (by omega)
      · exact .inl
    rw [this]

/-- The search, as it lies in memory. -/
structure SearchAt (w : World) (base B n gw cw : Nat) (ads : List Nat) (Q : List (Nat × List Int)) : Prop where
  row : w.ownsRow base 55 1 (.slice (some ⟨gw, 0, none⟩) Q.length cw) Q.length (ads.map ptrOf)
  steps : StepsIn w ads Q
  come : ComeAt w B n Q
  hB : base ≤ B

theorem ComeAt.blk {w : World} {B n : Nat} {Q : List (Nat × List Int)} (h : ComeAt w B n Q) : B < w.heap.size := by
  obtain ⟨cs, h1, _⟩ := h
  exact (Array.getElem?_eq_some_iff.1 h1).1

theorem SearchAt.under {w w' : World} {base B n gw cw : Nat} {ads : List Nat} {Q : List (Nat × List Int)} (h : SearchAt w base B n gw cw ads Q) (hb : Below w.heap.size w w') : SearchAt w' base B n gw cw ads Q where
  row := ownsRow_below h.row hb
  steps := h.steps.kept fun b _ hh => hb.block b (Array.getElem?_eq_some_iff.1 hh).1
  come := by
    obtain ⟨cs, h1, h2⟩ := h.come
    exact ⟨cs, (hb.block B h.come.blk).trans h1, h2⟩
  hB := h.hB

theorem SearchAt.cells {w : World} {base B n gw cw : Nat} {ads : List Nat} {Q : List (Nat × List Int)} (h : SearchAt w base B n gw cw ads Q) {i : Nat} (hi : i < Q.length) :
    w.cell? ⟨gw, i, none⟩ = some (.pointer (some ⟨ads[i]?.getD 0, 0, none⟩)) ∧ gw < w.heap.size ∧ StepAt w (ads[i]?.getD 0) (entry Q i).1 (entry Q i).2 := by
  have hl := h.steps.1
  have c1 := h.row.cells (g := gw) rfl i (ptrOf (ads[i]?.getD 0)) (by have : i < ads.length := by omega
                                                                      simp [this])
  rw [Go.WideShapes.add_plain, Nat.zero_add] at c1
  exact ⟨c1, World.block_lt_of_cell? w _ c1, h.steps.2 i hi⟩

theorem SearchAt.asked {w : World} {base B n gw cw : Nat} {ads : List Nat} {Q : List (Nat × List Int)} (h : SearchAt w base B n gw cw ads Q) {s : Nat} (hs : s < n) :
    w.cell? ⟨B, s, none⟩ = some (.bool (hasB (statesOf Q) (s : Int))) ∧ w.frozen? ⟨B, s, none⟩ = false ∧ B < w.heap.size := by
  obtain ⟨cs, h1, h2, h3⟩ := h.come
  exact ⟨by rw [cell_of_heap h1, h3 s hs], frozen_of_heap h1 s, (Array.getElem?_eq_some_iff.1 h1).1⟩

/-- A state is marked, and a new step is laid. -/
theorem SearchAt.lay {w : World} {base B n gw cw : Nat} {ads : List Nat} {Q : List (Nat × List Int)} (h : SearchAt w base B n gw cw ads Q) {i s : Nat} (hi : i < Q.length) (hs : s < n) (kid : Int) :
    (∀ o, let w2 := (w.setCell ⟨B, s, none⟩ (.bool true)).alloc o
      w2.ownsRow base 55 1 (.slice (some ⟨gw, 0, none⟩) Q.length cw) Q.length (ads.map ptrOf) ∧ StepsIn w2 ads Q ∧ ComeAt w2 B n (Q ++ [(s, (entry Q i).2 ++ [kid])])) ∧
    StepAt ((w.setCell ⟨B, s, none⟩ (.bool true)).alloc (.cells #[.int .i64 s, .int .i64 kid, .pointer (some ⟨ads[i]?.getD 0, 0, none⟩)] 61)) w.heap.size s ((entry Q i).2 ++ [kid]) := by
  obtain ⟨cs, h1, h2, h3⟩ := h.come
  have hsize : (w.setCell ⟨B, s, none⟩ (.bool true)).heap.size = w.heap.size := by simp
  have hoth : ∀ b, b ≠ B → (w.setCell ⟨B, s, none⟩ (.bool true)).heap[b]? = w.heap[b]? := fun b hb => heap_setCell_other _ _ _ _ (by exact hb)
  have hst : ∀ (b : Nat) cs', w.heap[b]? = some (Obj.cells cs' 61 (0, 0)) → (w.setCell ⟨B, s, none⟩ (.bool true)).heap[b]? = w.heap[b]? := fun b cs' hb => hoth b fun e => by
    rw [e, h1] at hb
    simp only [Option.some.injEq, Obj.cells.injEq] at hb
    exact absurd hb.2.1 (by decide)
  have hrow : (w.setCell ⟨B, s, none⟩ (.bool true)).ownsRow base 55 1 (.slice (some ⟨gw, 0, none⟩) Q.length cw) Q.length (ads.map ptrOf) :=
    ownsRow_setCell_other h.row (own_other h.row h1 (by decide)) _
  have hsteps := h.steps.kept hst
  have hcome := ComeAt.mark (ks := (entry Q i).2 ++ [kid]) h.come hs
  have hal : ∀ o, Below w.heap.size (w.setCell ⟨B, s, none⟩ (.bool true)) ((w.setCell ⟨B, s, none⟩ (.bool true)).alloc o) := fun o => (Below.refl _ _).alloc (by omega) _
  refine ⟨fun o => ⟨hrow.alloc o, hsteps.kept fun b _ hb => (hal o).block b (by have := (Array.getElem?_eq_some_iff.1 hb).1; omega), ?_⟩, ?_⟩
  · obtain ⟨cs2, g1, g2⟩ := hcome
    exact ⟨cs2, ((hal o).block B (by have := (Array.getElem?_eq_some_iff.1 g1).1; omega)).trans g1, g2⟩
  · have hn := alloc_new (w.setCell ⟨B, s, none⟩ (.bool true)) (.cells #[.int .i64 s, .int .i64 kid, .pointer (some ⟨ads[i]?.getD 0, 0, none⟩)] 61)
    rw [hsize] at hn
    exact .next _ _ _ _ (entry Q i).1 _ hn ((hsteps.2 i hi).kept fun b _ hb => (hal _).block b (by have := (Array.getElem?_eq_some_iff.1 hb).1; omega))

theorem search_start {w1 : World} {base b1 n : Nat} {cs1 : Array Value} (h : w1.heap[b1]? = some (Obj.cells #[.int .i64 0, .int .i64 0, .pointer none] 61 (0, 0))) (hsz : cs1.size = n) (hall : ∀ s, s < n → cs1[s]? = some (.bool (hasB (statesOf [(0, [])]) (s : Int)))) (hb : base ≤ w1.heap.size) :
    SearchAt ((w1.alloc (.cells cs1 4)).alloc (.cells #[.pointer (some ⟨b1, 0, none⟩)] 55)) base w1.heap.size n (w1.heap.size + 1) 1 [b1] [(0, [])] := by
  have hb1 := (Array.getElem?_eq_some_iff.1 h).1
  have e1 : (w1.alloc (.cells cs1 4)).heap.size = w1.heap.size + 1 := by simp
  have hal : Below (w1.heap.size + 1) (w1.alloc (.cells cs1 4)) ((w1.alloc (.cells cs1 4)).alloc (.cells #[.pointer (some ⟨b1, 0, none⟩)] 55)) := (Below.refl _ _).alloc (by omega) _
  have hnew := alloc_new (w1.alloc (.cells cs1 4)) (.cells #[.pointer (some ⟨b1, 0, none⟩)] 55)
  rw [e1] at hnew
  refine ⟨⟨by simp, .inr ⟨w1.heap.size + 1, 1, _, rfl, by omega, hnew, Nat.le_refl _, by unfold maxLen; omega, rfl, by simp [ptrOf]⟩⟩, ⟨rfl, fun j hj => ?_⟩, ⟨cs1, (hal.block _ (by omega)).trans (alloc_new _ _), hsz, hall⟩, hb⟩
  obtain rfl : j = 0 := by simp at hj; omega
  refine .first b1 0 0 ?_
  rw [hal.block b1 (by omega), ((Below.refl w1.heap.size w1).alloc (Nat.le_refl _) (.cells cs1 4)).block b1 hb1]
  exact h

theorem infoStepPtr : (Try.prog.info? 55).map (fun i => (i.zero, i.size, i.bytes)) = some (some (.pointer none), 1, 8) := by kernel_rfl

theorem buildStep0 (w : World) : (Instr.build 61 #[]).run Try.prog w = .ok (.agg #[.int .i64 0, .int .i64 0, .pointer none]) w := run_build w 61 #[] _ (by kernel_rfl)
theorem buildStep (s k : Int) (p : Option Addr) (w : World) : (Instr.build 61 #[(0, .int .i64 s), (1, .int .i64 k), (2, .pointer p)]).run Try.prog w = .ok (.agg #[.int .i64 s, .int .i64 k, .pointer p]) w := run_build w 61 _ _ (by kernel_rfl)

/-- The last step, or none. -/
def LastPost (w : World) (m : PMach) (e : Ending) (w' : World) : Prop :=
  (e = .returned (.pointer none) ∧ firstOf m = none ∧ Below w.heap.size w w') ∨ ∃ b s ks, e = .returned (.pointer (some ⟨b, 0, none⟩)) ∧ firstOf m = some ks ∧ ks.length ≤ 1048576 ∧ StepAt w' b s ks ∧ Below w.heap.size w w'

set_option maxHeartbeats 8000000 in
set_option maxRecDepth 100000 in
theorem firstWay_any (n₀ : Nat) (v : Value) (m : PMach) (w : World) (h : MachVal n₀ w v m) (hn : n₀ ≤ w.heap.size) (hMP : MachP m) :
    Calls Try.prog 35 #[v] w (LastPost w m) := by
  obtain ⟨i0, hinf, hz0, hz1, hz2⟩ := info_parts infoStepPtr
  obtain ⟨i1, hi, hy0, hy1, hy2⟩ := info_parts specInfoBool
  have h1 := hMP.one
  have h5 := hMP.most
  have hmk : ∀ w, (Instr.makeSlice 23 (.int .i64 (m.next.length : Int)) (.int .i64 (m.next.length : Int))).run Try.prog w = .ok (.slice (some ⟨w.heap.size, 0, none⟩) m.next.length m.next.length) (w.alloc (.cells (madeCells #[.bool false] m.next.length) 4)) := fun w => by
    have := run_make (P := Try.prog) w 23 4 i1 (.bool false) Try.underlying23 hi hy0 .i64 .i64 m.next.length m.next.length (by omega) (Int.le_refl _) (by rw [hy2]; omega) (by omega)
    simpa [hy1, Value.cells] using this
  obtain ⟨cs0, hcs0⟩ : ∃ cs0, cs0 = madeCells #[Value.bool false] m.next.length := ⟨_, rfl⟩
  have hsz0 : cs0.size = m.next.length := by rw [hcs0]; exact size_madeCells _ _
  have HAll0 : Hid (∀ s, s < m.next.length → cs0[s]? = some (Value.bool false)) := fun s hs => by
    rw [hcs0, ← Array.getElem?_toList, toList_madeCells_one]; simp [hs]
  have hc00 := HAll0.out 0 (by omega)
  rw [← hcs0] at hmk
  have HSz0 := hide hsz0
  clear hsz0 hcs0
  obtain ⟨a, cap, a', cap', rfl, hm, hrw, hfb⟩ := h.form
  have hW := (Below.refl w.heap.size w).alloc (Nat.le_refl _) (.cells #[.slice a m.next.length cap, .slice a' m.final.length cap'] 28)
  have HMP := hide hMP
  have HFin := hide hMP.fin
  have HRW := hide hrw
  have HFB := hide hfb
  obtain ⟨bf, of, rfl, hbf, gf⟩ := final_at hfb hMP (s := 0) (by omega)
  have hfpos : (0 : Int) < (m.final.length : Int) := by have := hMP.fin; omega
  have hbfw : bf < w.heap.size := by omega
  have hbd0 := buildStep0
  clear hMP hm hfb hrw h hi hy0 hy1 hy2
  have HF0 : Hid (isFin m (0, []) = m.final[0]?.getD false) := rfl
  rw [Nat.add_zero] at gf
  generalize m.final[0]?.getD false = f0 at *
  cases f0 with
  | true =>
    have HH : Hid (firstOf m = some []) := firstOf_eq (FirstP.hit 0 0 (by simp [runQ]) HF0.out (fun i hi => by omega))
    go_enter Try.func35, Try.ntmps35
    go_wp2_with fail
    go_step3
    go_wp2_with fail
    go_quiet (fail)
    go_wp2_with fail
    rw [Exit.noGoto_ret]
    go_ret
    refine .inr ⟨w.heap.size + 1, 0, [], rfl, HH.out, by simp, ?_, below_drewN (hW.alloc (by simp) _) _⟩
    refine (StepAt.first (w := (w.alloc _).alloc _) _ 0 0 ?_).under (below_drewN (Below.refl _ _) _)
    have := alloc_new (w.alloc (.cells #[.slice a m.next.length cap, .slice (some ⟨bf, of, none⟩) m.final.length cap'] 28)) (.cells #[.int .i64 0, .int .i64 0, .pointer none] 61)
    simpa using this
  | false =>
    go_enter Try.func35, Try.ntmps35
    go_wp2_with fail
    go_step3
    go_wp2_with fail
    go_quiet (fail)
    go_wp2_with fail
    go_step3
    go_wp2_with fail
    have hall1 : ∀ s, s < m.next.length → (cs0.setIfInBounds 0 (.bool true))[s]? = some (.bool (hasB (statesOf [(0, [])]) (s : Int))) := fun s hs => by
      rw [Array.getElem?_setIfInBounds]
      by_cases e : 0 = s
      · subst e
        rw [if_pos rfl, if_pos (by rw [HSz0.out]; exact hs)]
        rfl
      · rw [if_neg e, HAll0.out s hs]
        have : hasB (statesOf [(0, [])]) (s : Int) = false := by rw [hasB_no]; simp [statesOf]; omega
        rw [this]
    have hstart : ∀ nq, SearchAt (((((w.alloc (.cells #[.slice a m.next.length cap, .slice (some ⟨bf, of, none⟩) m.final.length cap'] 28)).alloc (.cells #[.int .i64 0, .int .i64 0, .pointer none] 61)).drewN nq).alloc (.cells (cs0.setIfInBounds 0 (.bool true)) 4)).alloc (.cells #[.pointer (some ⟨w.heap.size + 1, 0, none⟩)] 55)) (w.heap.size + 1) (w.heap.size + 1 + 1) m.next.length (w.heap.size + 1 + 1 + 1) 1 [w.heap.size + 1] [(0, [])] := fun nq => by
      have hst := alloc_new (w.alloc (.cells #[.slice a m.next.length cap, .slice (some ⟨bf, of, none⟩) m.final.length cap'] 28)) (.cells #[.int .i64 0, .int .i64 0, .pointer none] 61)
      have := search_start (w1 := ((w.alloc (.cells #[.slice a m.next.length cap, .slice (some ⟨bf, of, none⟩) m.final.length cap'] 28)).alloc (.cells #[.int .i64 0, .int .i64 0, .pointer none] 61)).drewN nq) (base := w.heap.size + 1) (b1 := w.heap.size + 1) (n := m.next.length) (cs1 := cs0.setIfInBounds 0 (.bool true)) (by simpa using hst) (by simpa using HSz0.out) hall1 (by simp)
      simpa using this
    have hstartB : ∀ nq, Below (w.heap.size + 1) (w.alloc (.cells #[.slice a m.next.length cap, .slice (some ⟨bf, of, none⟩) m.final.length cap'] 28)) (((((w.alloc (.cells #[.slice a m.next.length cap, .slice (some ⟨bf, of, none⟩) m.final.length cap'] 28)).alloc (.cells #[.int .i64 0, .int .i64 0, .pointer none] 61)).drewN nq).alloc (.cells (cs0.setIfInBounds 0 (.bool true)) 4)).alloc (.cells #[.pointer (some ⟨w.heap.size + 1, 0, none⟩)] 55)) := fun nq =>
      ((below_drewN ((Below.refl _ _).alloc (by simp) _) nq).alloc (by simp) _).alloc (by simp) _
    have HStartB := hide hstartB
    clear hall1 hstartB
    have HStart := hide hstart
    clear hstart
    go_loopw [4, 6, 7] (fun fv wv iv wr => ∃ (i gw cw : Nat) (ads : List Nat), fv = .pointer none ∧ i ≤ (runQ m (8 * i)).length ∧ iv = .int .i64 i ∧ wv = .slice (some ⟨gw, 0, none⟩) (runQ m (8 * i)).length cw ∧ Hid (SearchAt wr (w.heap.size + 1) (w.heap.size + 1 + 1) m.next.length gw cw ads (runQ m (8 * i))) ∧ Hid (∀ j, j < (runQ m (8 * i)).length → isFin m (entry (runQ m (8 * i)) j) = false) ∧ Below (w.heap.size + 1) (w.alloc (.cells #[.slice a m.next.length cap, .slice (some ⟨bf, of, none⟩) m.final.length cap'] 28)) wr) (fun _ _ iv _ => m.next.length - (intOf iv).toNat)
    case atStart => exact ⟨0, _, _, _, rfl, Nat.zero_le _, rfl, rfl, HStart.out _, fun j hj => by
                      obtain rfl : j = 0 := by simp [runQ] at hj; omega
                      exact HF0.out, HStartB.out _⟩
    case round =>
      obtain ⟨i, gw, cw, ads, rfl, hil, rfl, rfl, hS, hno, hbr⟩ := hrel
      clear hc00 hmk HStart HStartB gf
      have hqp := runQ_ok HMP.out (8 * i)
      have hql := hqp.length
      have hsz := hbr.size
      simp only [World.size_alloc] at hsz
      have hszl : w.heap.size < wr.heap.size := by omega
      have hw0 : Below w.heap.size w wr := hW.trans (hbr.mono (by omega))
      by_cases hlt : i < (runQ m (8 * i)).length
      · obtain ⟨d0, dgw, hst⟩ := hS.out.cells hlt
        have hsl := hqp.lt i hlt
        have hstl := hst.lt
        have hsc := hst.state
        obtain ⟨b2, of2, bk, ofk, ck2, rfl, hb2, g0, hbk, hrow⟩ := row_at HRW.out HMP.out hsl
        have c0 : wr.cell? ⟨w.heap.size, 0, none⟩ = some (.slice (some ⟨b2, of2, none⟩) m.next.length cap) := by rw [hbr.cell (p := ⟨w.heap.size, 0, none⟩) (by simp)]; simp
        have g0 := (hw0.cell (p := ⟨b2, of2 + (entry (runQ m (8 * i)) i).1, none⟩) (show b2 < w.heap.size by omega)).trans g0
        have hlt1 : (i : Int) < ((runQ m (8 * i)).length : Int) := by omega
        have hsn : ((entry (runQ m (8 * i)) i).1 : Int) < (m.next.length : Int) := by omega
        have hb2w : b2 < wr.heap.size := by omega
        have HEntry : Hid (∀ d, entry (runQ m (8 * i + d)) i = entry (runQ m (8 * i)) i ∧ i < (runQ m (8 * i + d)).length) := fun d => entry_run hlt
        have HRow := hide hrow
        clear hrow
        generalize hen : entry (runQ m (8 * i)) i = en at *
        have HEn := hide hen
        clear hen
        generalize hai : ads[i]?.getD 0 = ai at *
        have HAi := hide hai
        clear hai
        go_wp2_with fail
        go_quiet (fail)
        go_wp2_with fail
        go_loopw [4, 6, 52] (fun fv wv kv wq => ∃ (k gw cw : Nat) (ads : List Nat), fv = .pointer none ∧ k ≤ 8 ∧ kv = .int .i64 k ∧ wv = .slice (some ⟨gw, 0, none⟩) (runQ m (8 * i + k)).length cw ∧ Hid (SearchAt wq (w.heap.size + 1) (w.heap.size + 1 + 1) m.next.length gw cw ads (runQ m (8 * i + k))) ∧ Hid (∀ j, j < (runQ m (8 * i + k)).length → isFin m (entry (runQ m (8 * i + k)) j) = false) ∧ Below (w.heap.size + 1) (w.alloc (.cells #[.slice (some ⟨b2, of2, none⟩) m.next.length cap, .slice (some ⟨bf, of, none⟩) m.final.length cap'] 28)) wq) (fun _ _ kv _ => 8 - (intOf kv).toNat)
        case atStart => exact ⟨0, gw, cw, ads, rfl, Nat.zero_le _, rfl, rfl, hS.out.under (below_drewN (Below.refl _ _) _), hno, below_drewN hbr _⟩
        case round =>
          clear d0 dgw hst hstl hsc c0 g0 hb2w hszl hsz hw0 hS hbr HAi hno
          obtain ⟨k, gw, cw, ads, rfl, hk8, rfl, rfl, hS, hno, hbr⟩ := hrel
          have hqk := runQ_ok HMP.out (8 * i + k)
          have hqkl := hqk.length
          obtain ⟨he, hik⟩ := HEntry.out k
          have HE2 := hide he
          clear he
          have hsz := hbr.size
          simp only [World.size_alloc] at hsz
          have hszl : w.heap.size < wr.heap.size := by omega
          have hw0 : Below w.heap.size w wr := hW.trans (hbr.mono (by omega))
          by_cases hk : k < 8
          · obtain ⟨d0, dgw, hst⟩ := hS.out.cells hik
            rw [HE2.out] at hst
            have gk : wr.cell? ⟨bk, ofk + k, none⟩ = some (.int .i64 (nextOf m en.1 k)) := (hw0.cell (p := ⟨bk, ofk + k, none⟩) (show bk < w.heap.size by omega)).trans (HRow.out k hk)
            have hnb := nextOf_bounds HMP.out hsl hk
            have HStep := hide (runQ_at hk hik)
            have HNew := hide (@stepQ_new m (runQ m (8 * i + k)) i k)
            have HOld := hide (@stepQ_old m (runQ m (8 * i + k)) i k)
            rw [HE2.out] at HNew HOld
            have hlt1k : (i : Int) < ((runQ m (8 * i + k)).length : Int) := by omega
            have hbkw : bk < wr.heap.size := by omega
            have hk8i : (k : Int) < 8 := by omega
            generalize nextOf m en.1 k = n at *
            by_cases hn0 : n = -1
            · have e : Hid (runQ m (8 * i + (k + 1)) = runQ m (8 * i + k)) := HStep.out.trans (HOld.out fun h => by have := h.1; omega)
              subst hn0
              go_wp2_with fail
              refine ⟨⟨k + 1, gw, cw, ads, rfl, by omega, by go_num, by rw [e.out], by rw [e.out]; exact hS, by rw [e.out]; exact hno, hbr⟩, by simp [intOf]; omega⟩
            · have hn1 : (n == -1) = false := by simpa using hn0
              obtain ⟨n', rfl⟩ : ∃ n' : Nat, n = (n' : Int) := ⟨n.toNat, by omega⟩
              have hnl : n' < m.next.length := by omega
              have hnli : (n' : Int) < (m.next.length : Int) := by omega
              obtain ⟨hca, hcf, hcb⟩ := hS.out.asked hnl
              cases hhb : hasB (statesOf (runQ m (8 * i + k))) (n' : Int) with
              | true =>
                have e : Hid (runQ m (8 * i + (k + 1)) = runQ m (8 * i + k)) := HStep.out.trans (HOld.out fun h => h.2 (seen_iff.1 hhb))
                rw [hhb] at hca
                clear hhb
                go_wp2_with fail
                refine ⟨⟨k + 1, gw, cw, ads, rfl, by omega, by go_num, by rw [e.out], by rw [e.out]; exact hS, by rw [e.out]; exact hno, hbr⟩, by simp [intOf]; omega⟩
              | false =>
                have e : Hid (runQ m (8 * i + (k + 1)) = _) := HStep.out.trans (HNew.out (by omega) (seen_no.1 hhb))
                rw [Int.toNat_natCast] at e
                rw [hhb] at hca
                clear hhb HNew HOld HStep
                obtain ⟨hlay, hnst⟩ := hS.out.lay hik hnl ((k : Int) + 1)
                rw [HE2.out] at hlay hnst
                have HLay := hide hlay
                have HNst := hide hnst
                have hgB : ¬ gw = w.heap.size + 1 + 1 := fun e => by
                  obtain ⟨cs, hh1, _⟩ := hS.out.come
                  exact own_other hS.out.row hh1 (by decide) (by rw [← e]; rfl)
                have c1 : wr.cell? ⟨w.heap.size, 1, none⟩ = some (.slice (some ⟨bf, of, none⟩) m.final.length cap') := by rw [hbr.cell (p := ⟨w.heap.size, 1, none⟩) (by simp)]; simp
                obtain ⟨bf', of', hbe, hbf', gf⟩ := final_at HFB.out HMP.out hnl
                cases hbe
                have gf := (hw0.cell (p := ⟨bf, of + n', none⟩) hbfw).trans gf
                have hbB : ¬ bf = w.heap.size + 1 + 1 := by omega
                have hnf : (n' : Int) < (m.final.length : Int) := by have := HFin.out; omega
                have hbfr : bf < wr.heap.size := by omega
                have hbd := buildStep
                have hgb := (hS.out.row.lt gw rfl).1
                have hadl := hS.out.steps.1
                have HIsf : Hid (isFin m (n', en.2 ++ [(k : Int) + 1]) = m.final[n']?.getD false) := rfl
                have hqe : entry (runQ m (8 * i + k) ++ [(n', en.2 ++ [(k : Int) + 1])]) (runQ m (8 * i + k)).length = (n', en.2 ++ [(k : Int) + 1]) := entry_last
                have hul := hqk.len i hik
                rw [HE2.out] at hul
                clear hlay hnst hst hbf'
                generalize hai : ads[i]?.getD 0 = ai at *
                have HAi := hide hai
                clear hai
                have hsB : (wr.setCell ⟨w.heap.size + 1 + 1, n', none⟩ (.bool true)).heap.size = wr.heap.size := by simp
                have hbM := hbr.setCell (p := ⟨w.heap.size + 1 + 1, n', none⟩) (by simp) (.bool true)
                have hbL := hbM.alloc (by omega) (.cells #[.int .i64 n', .int .i64 ((k : Int) + 1), .pointer (some ⟨ai, 0, none⟩)] 61)
                have HBL := hide hbL
                clear hbM hbL
                cases hfv : m.final[n']?.getD false with
                | true =>
                  rw [hfv] at gf
                  have HHit : Hid (firstOf m = some (en.2 ++ [(k : Int) + 1])) := by
                    have h9 := FirstP.hit (m := m) (8 * i + (k + 1)) (runQ m (8 * i + k)).length (by rw [e.out]; simp) (by rw [e.out, hqe, HIsf.out, hfv]) (fun j hj => by rw [e.out, entry_append hj]; exact hno.out j hj)
                    rw [e.out, hqe] at h9
                    exact firstOf_eq h9
                  clear hfv hqe hadl
                  go_wp2_with fail
                  go_ret
                  exact .inr ⟨wr.heap.size, n', en.2 ++ [(k : Int) + 1], rfl, HHit.out, by simp; omega, HNst.out, hW.trans (HBL.out.mono (by omega))⟩
                | false =>
                  rw [hfv] at gf
                  have HNo2 : Hid (∀ j, j < (runQ m (8 * i + (k + 1))).length → isFin m (entry (runQ m (8 * i + (k + 1))) j) = false) := fun j hj => by
                    rw [e.out] at hj ⊢
                    by_cases hj2 : j < (runQ m (8 * i + k)).length
                    · rw [entry_append hj2]; exact hno.out j hj2
                    · obtain rfl : j = (runQ m (8 * i + k)).length := by simp at hj; omega
                      rw [hqe, HIsf.out, hfv]
                  clear hfv hqe
                  obtain ⟨hrow2, hsteps2, hcome2⟩ := HLay.out (.cells #[.int .i64 n', .int .i64 ((k : Int) + 1), .pointer (some ⟨ai, 0, none⟩)] 61)
                  have HRow2 := hide hrow2
                  have HSteps2 := hide hsteps2
                  have HCome2 := hide hcome2
                  clear hrow2 hsteps2 hcome2 HLay
                  go_wp2_with (at_builtin; refine wpList_append_lies _ rfl _ _ 62 rfl (w.heap.size + 1) 55 i0 (.pointer none) 1 8 Try.underlying62 hinf hz0 hz1 hz2 rfl (by decide) _ _ _ rfl (HRow2.out.alloc _) ⟨wr.heap.size + 1, 0, none⟩ 1 1 [Value.pointer (some ⟨wr.heap.size, 0, none⟩)] rfl rfl ?c1 (one_ptr _) (by decide) (by unfold maxLen; omega) (by omega) (by simp; omega) _ rfl ?_)
                  case c1 => have hc1 := cell_one_new ((wr.setCell ⟨w.heap.size + 1 + 1, n', none⟩ (.bool true)).alloc (.cells #[.int .i64 n', .int .i64 ((k : Int) + 1), .pointer (some ⟨ai, 0, none⟩)] 61)) (.pointer (some ⟨wr.heap.size, 0, none⟩)) 55; simpa using hc1
                  intro g7 c7 w7 hown7 hgrow7 _ hg7
                  have hal : Below ((wr.setCell ⟨w.heap.size + 1 + 1, n', none⟩ (.bool true)).alloc (.cells #[.int .i64 n', .int .i64 ((k : Int) + 1), .pointer (some ⟨ai, 0, none⟩)] 61)).heap.size ((wr.setCell ⟨w.heap.size + 1 + 1, n', none⟩ (.bool true)).alloc (.cells #[.int .i64 n', .int .i64 ((k : Int) + 1), .pointer (some ⟨ai, 0, none⟩)] 61)) (((wr.setCell ⟨w.heap.size + 1 + 1, n', none⟩ (.bool true)).alloc (.cells #[.int .i64 n', .int .i64 ((k : Int) + 1), .pointer (some ⟨ai, 0, none⟩)] 61)).alloc (.cells #[.pointer (some ⟨wr.heap.size, 0, none⟩)] 55)) := (Below.refl _ _).alloc (Nat.le_refl _) _
                  have hrow3 := HRow2.out.alloc (.cells #[.pointer (some ⟨wr.heap.size, 0, none⟩)] 55)
                  have hkeep : ∀ (b : Nat) cs, ((wr.setCell ⟨w.heap.size + 1 + 1, n', none⟩ (.bool true)).alloc (.cells #[.int .i64 n', .int .i64 ((k : Int) + 1), .pointer (some ⟨ai, 0, none⟩)] 61)).heap[b]? = some (Obj.cells cs 61 (0, 0)) → w7.heap[b]? = ((wr.setCell ⟨w.heap.size + 1 + 1, n', none⟩ (.bool true)).alloc (.cells #[.int .i64 n', .int .i64 ((k : Int) + 1), .pointer (some ⟨ai, 0, none⟩)] 61)).heap[b]? := fun b cs hh => by
                    have hlt := (Array.getElem?_eq_some_iff.1 hh).1
                    have h3 := (hal.block b hlt).trans hh
                    exact (hgrow7.block b (Array.getElem?_eq_some_iff.1 h3).1 (fun e => own_other hrow3 h3 (by decide) e.symm)).trans (hal.block b hlt)
                  have hkeepB : ∀ cs, ((wr.setCell ⟨w.heap.size + 1 + 1, n', none⟩ (.bool true)).alloc (.cells #[.int .i64 n', .int .i64 ((k : Int) + 1), .pointer (some ⟨ai, 0, none⟩)] 61)).heap[w.heap.size + 1 + 1]? = some (Obj.cells cs 4 (0, 0)) → w7.heap[w.heap.size + 1 + 1]? = some (Obj.cells cs 4 (0, 0)) := fun cs hh => by
                    have hlt := (Array.getElem?_eq_some_iff.1 hh).1
                    have h3 := (hal.block _ hlt).trans hh
                    exact (hgrow7.block _ (Array.getElem?_eq_some_iff.1 h3).1 (fun e => own_other hrow3 h3 (by decide) e.symm)).trans h3
                  have el : (runQ m (8 * i + k) ++ [(n', en.2 ++ [(k : Int) + 1])]).length = (runQ m (8 * i + k)).length + 1 := by simp
                  have HS7 : Hid (SearchAt w7 (w.heap.size + 1) (w.heap.size + 1 + 1) m.next.length g7 c7 (ads ++ [wr.heap.size]) (runQ m (8 * i + k) ++ [(n', en.2 ++ [(k : Int) + 1])])) := by
                    refine ⟨?_, (HSteps2.out.kept hkeep).push (e := (n', en.2 ++ [(k : Int) + 1])) (HNst.out.kept hkeep), ?_, by omega⟩
                    · rw [el, List.map_append]; exact hown7
                    · obtain ⟨cs, g1, g2⟩ := HCome2.out
                      exact ⟨cs, hkeepB cs g1, g2⟩
                  have hb7 := (HBL.out.alloc (by simp; omega) _).grown hgrow7 (by simp; omega) (fun k hk => by cases hk; exact hgb)
                  clear hown7 hgrow7 hkeep hkeepB hal hrow3 hnf hca hcf hcb
                  go_wp2_with fail
                  refine ⟨⟨k + 1, g7, c7, ads ++ [wr.heap.size], rfl, by omega, by go_num, ?_, ?_, HNo2, hb7⟩, by simp [intOf]; omega⟩
                  · rw [e.out, el]
                  · rw [e.out]; exact HS7
          · obtain rfl : k = 8 := by omega
            have e8 : 8 * i + 8 = 8 * (i + 1) := by omega
            rw [e8] at hS hik hno
            go_wp2_with fail
            exact ⟨⟨i + 1, gw, cw, ads, rfl, by omega, by go_num, by rw [e8], hS, hno, hbr⟩, by simp [intOf]; omega⟩
      · have HNone : Hid (firstOf m = none) := firstOf_eq (FirstP.no (8 * i) (by omega) (fun j hj => hno.out j hj))
        go_wp2_with fail
        rw [Exit.noGoto_ret]
        go_ret
        exact .inl ⟨rfl, HNone.out, hw0⟩
end Go.Proofs.Ytlbfjmfjakhmdaa
