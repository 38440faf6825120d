/-
  The shortest kids that a machine takes, as the specification finds them.
-/
import Derived.Test.YtlbfjmfjakhmdaaFirstPlain
import Derived.Test.YtlbfjmfjakhmdaaRowFacts
import Derived.Deep.AppendLies
namespace Go.Proofs.Ytlbfjmfjakhmdaa
open Go.RowKit

/-- A way in a block of numbers that is not the one to skip. -/
def WayAt (w : World) (skip : Option Nat) (v : Value) (ks : List Int) : Prop :=
  ∃ b off cap cs, v = .slice (some ⟨b, off, none⟩) ks.length cap ∧ b < w.heap.size ∧ some b ≠ skip ∧ w.heap[b]? = some (.cells cs 3 (0, 0)) ∧ ∀ j, j < ks.length → cs[off + j]? = some (.int .i64 (ks[j]?.getD 0))

theorem WayAt.cell {w : World} {skip : Option Nat} {v : Value} {ks : List Int} (h : WayAt w skip v ks) : ∃ b off cap, v = .slice (some ⟨b, off, none⟩) ks.length cap ∧ b < w.heap.size ∧ ∀ j u, (ks.map (Value.int .i64))[j]? = some u → w.cell? ((⟨b, off, none⟩ : Addr).add j) = some u := by
  obtain ⟨b, off, cap, cs, rfl, h1, _, h3, h4⟩ := h
  refine ⟨b, off, cap, rfl, h1, fun j u hu => ?_⟩
  rw [Go.WideShapes.add_plain, cell_of_heap h3]
  have hj : j < ks.length := by
    rcases Nat.lt_or_ge j ks.length with h | h
    · exact h
    · simp [h] at hu
  rw [h4 j hj]
  simpa [hj] using hu

theorem WayAt.kept {w w' : World} {row skip skip' : Option Nat} {v : Value} {ks : List Int} (h : WayAt w skip v ks) (hg : w.grownBy w' row) (h2 : ∀ b, b < w.heap.size → some b ≠ skip → (∃ cs, w.heap[b]? = some (.cells cs 3 (0, 0))) → some b ≠ row ∧ some b ≠ skip') : WayAt w' skip' v ks := by
  obtain ⟨b, off, cap, cs, rfl, h1, h3, h4, h5⟩ := h
  have h6 := h2 b h1 h3 ⟨cs, h4⟩
  have h7 := (hg.block b h1 h6.1).trans h4
  exact ⟨b, off, cap, cs, rfl, (Array.getElem?_eq_some_iff.1 h7).1, h6.2, h7, h5⟩

theorem WayAt.below {w w' : World} {skip : Option Nat} {v : Value} {ks : List Int} (h : WayAt w skip v ks) (hb : Below w.heap.size w w') : WayAt w' skip v ks := by
  obtain ⟨b, off, cap, cs, rfl, h1, h3, h4, h5⟩ := h
  exact ⟨b, off, cap, cs, rfl, by have := hb.size; omega, h3, (hb.block b h1).trans h4, h5⟩

/-- The ways of a list of states. -/
def WaysIn (w : World) (skip : Option Nat) (vs : List Value) (Q : List (Nat × List Int)) : Prop :=
  ∀ j, j < Q.length → ∃ u, vs[j]? = some u ∧ WayAt w skip u (entry Q j).2

theorem WaysIn.below {w w' : World} {skip : Option Nat} {vs : List Value} {Q : List (Nat × List Int)} (h : WaysIn w skip vs Q) (hb : Below w.heap.size w w') : WaysIn w' skip vs Q := fun j hj => by
  obtain ⟨u, h1, h2⟩ := h j hj
  exact ⟨u, h1, h2.below hb⟩

theorem WaysIn.kept {w w' : World} {row skip skip' : Option Nat} {vs : List Value} {Q : List (Nat × List Int)} (h : WaysIn w skip vs Q) (hg : w.grownBy w' row) (h2 : ∀ b, b < w.heap.size → some b ≠ skip → (∃ cs, w.heap[b]? = some (.cells cs 3 (0, 0))) → some b ≠ row ∧ some b ≠ skip') : WaysIn w' skip' vs Q := fun j hj => by
  obtain ⟨u, h3, h4⟩ := h j hj
  exact ⟨u, h3, h4.kept hg h2⟩

theorem WaysIn.push {w : World} {skip : Option Nat} {vs : List Value} {Q : List (Nat × List Int)} {e : Nat × List Int} {v : Value} (h : WaysIn w skip vs Q) (hl : vs.length = Q.length) (hv : WayAt w skip v e.2) : WaysIn w skip (vs ++ [v]) (Q ++ [e]) := fun j hj => by
  by_cases hj2 : j < Q.length
  · rw [entry_append hj2]
    obtain ⟨u, h1, h2⟩ := h j hj2
    exact ⟨u, by rw [List.getElem?_append_left (by omega)]; exact h1, h2⟩
  · obtain rfl : j = Q.length := by simp at hj; omega
    rw [entry_last]
    exact ⟨v, by rw [← hl]; simp, hv⟩

theorem slice_one (v : Value) (h : ∃ a n c, v = .slice a n c) : ∀ u ∈ [v], u.oneCell' = true := by
  intro u hu
  simp only [List.mem_singleton] at hu
  obtain ⟨a, n, c, rfl⟩ := h
  subst hu; rfl

theorem statesOf_push (Q : List (Nat × List Int)) (n : Nat) (ks : List Int) : statesOf (Q ++ [(n, ks)]) = statesOf Q ++ [(n : Int)] := by simp [statesOf]

/-- A way, and whether there is one. -/
def WayPost (w : World) (ks : List Int) (f : Bool) (e : Ending) (w' : World) : Prop :=
  ∃ b off cap, e = .returned (.tuple #[.slice (some ⟨b, off, none⟩) ks.length cap, .bool f]) ∧ b < w'.heap.size ∧ (∀ j u, (ks.map (Value.int .i64))[j]? = some u → w'.cell? ((⟨b, off, none⟩ : Addr).add j) = some u) ∧ Below w.heap.size w w'

theorem ret_way {a : Option Addr} {n n' c : Nat} {f f' : Bool} (h : n = n') (h' : f = f') : Ending.returned (.tuple #[.slice a n c, .bool f]) = Ending.returned (.tuple #[.slice a n' c, .bool f']) := by rw [h, h']

theorem infoRow : (Try.prog.info? 32).map (fun i => (i.zero, i.size, i.bytes)) = some (some (.slice none 0 0), 1, 24) := by kernel_rfl

theorem rows_apart {w : World} {B B' : Nat} {sv wv : Value} {n n' : Nat} {xs ys : List Value} (h : w.ownsRow B 3 1 sv n xs) (h' : w.ownsRow B' 32 1 wv n' ys) (hn : 0 < n') : wv.ownBlock ≠ sv.ownBlock := by
  obtain ⟨_, ⟨rfl, h0⟩ | ⟨g, cap, cur, rfl, _, hh, _⟩⟩ := h'
  · omega
  · intro e
    exact own_other h hh (by decide) e.symm

/-- Behind an append to the states: the ways stay. -/
theorem ways_after {w w' : World} {B B' : Nat} {sv wv : Value} {n n' g : Nat} {xs vs : List Value} {Q : List (Nat × List Int)} (o : Obj) (h : w.ownsRow B 3 1 sv n xs) (h' : w.ownsRow B' 32 1 wv n' vs) (hn : 0 < n') (hw : WaysIn w sv.ownBlock vs Q) (hg : (w.alloc o).grownBy w' sv.ownBlock) (hgg : sv.ownBlock = some g ∨ g = w.heap.size + 1) :
    w'.ownsRow B' 32 1 wv n' vs ∧ WaysIn w' (some g) vs Q := by
  have hap := rows_apart h h' hn
  refine ⟨(h'.alloc o).kept hg (.inr hap), ?_⟩
  intro j hj
  obtain ⟨u, h1, b, off, cap, cs, rfl, h2, h3, h4, h5⟩ := hw j hj
  have h6 : (w.alloc o).heap[b]? = some (.cells cs 3 (0, 0)) := (((Below.refl w.heap.size w).alloc (Nat.le_refl _) o).block b h2).trans h4
  have h7 := (hg.block b (by simp; omega) h3).trans h6
  refine ⟨_, h1, b, off, cap, cs, rfl, (Array.getElem?_eq_some_iff.1 h7).1, ?_, h7, h5⟩
  rcases hgg with e | e
  · rw [← e]; exact h3
  · intro e2; cases e2; omega

/-- A list of states with their ways, as the specification keeps it. -/
def QueAt (w : World) (base g c gw cw : Nat) (Q : List (Nat × List Int)) : Prop :=
  w.ownsRow base 3 1 (.slice (some ⟨g, 0, none⟩) Q.length c) Q.length ((statesOf Q).map (Value.int .i64)) ∧
    ∃ vs, w.ownsRow base 32 1 (.slice (some ⟨gw, 0, none⟩) Q.length cw) Q.length vs ∧ WaysIn w (some g) vs Q

theorem QueAt.below {w w' : World} {base g c gw cw : Nat} {Q : List (Nat × List Int)} (h : QueAt w base g c gw cw Q) (hb : Below w.heap.size w w') : QueAt w' base g c gw cw Q := by
  obtain ⟨h1, vs, h2, h3⟩ := h
  exact ⟨ownsRow_below h1 hb, vs, ownsRow_below h2 hb, h3.below hb⟩

theorem QueAt.cells {w : World} {base g c gw cw : Nat} {Q : List (Nat × List Int)} (h : QueAt w base g c gw cw Q) {i : Nat} (hi : i < Q.length) :
    w.cell? ⟨g, i, none⟩ = some (.int .i64 ((entry Q i).1 : Int)) ∧ g < w.heap.size ∧ gw < w.heap.size ∧ ∃ u, w.cell? ⟨gw, i, none⟩ = some u ∧ WayAt w (some g) u (entry Q i).2 := by
  obtain ⟨h1, vs, h2, h3⟩ := h
  obtain ⟨u, hu, hw⟩ := h3 i hi
  have c1 := h1.cells (g := g) rfl i (.int .i64 ((entry Q i).1 : Int)) (by simp [statesOf, entry, hi])
  have c2 := h2.cells (g := gw) rfl i u hu
  rw [Go.WideShapes.add_plain, Nat.zero_add] at c1 c2
  exact ⟨c1, World.block_lt_of_cell? w _ c1, World.block_lt_of_cell? w _ c2, u, c2, hw⟩

theorem QueAt.ints {w : World} {base g c gw cw : Nat} {Q : List (Nat × List Int)} (h : QueAt w base g c gw cw Q) : IntsAt w.heap.size w (.slice (some ⟨g, 0, none⟩) Q.length c) (statesOf Q) := by
  have := h.1
  have e := statesOf_len Q
  refine ints_of_row (base := base) (e := 3) ?_
  rw [e]; exact this

theorem queAt_start (w : World) (o : Obj) : QueAt ((((w.alloc o).alloc (.cells #[.int .i64 0] 3)).alloc (.cells #[] 3)).alloc (.cells #[.slice (some ⟨w.heap.size + 1 + 1, 0, none⟩) 0 0] 32)) (w.heap.size + 1) (w.heap.size + 1) 1 (w.heap.size + 1 + 1 + 1) 1 [(0, [])] := by
  have e1 : (w.alloc o).heap.size = w.heap.size + 1 := by simp
  have e2 : ((w.alloc o).alloc (.cells #[.int .i64 0] 3)).heap.size = w.heap.size + 1 + 1 := by simp
  have e3 : (((w.alloc o).alloc (.cells #[.int .i64 0] 3)).alloc (.cells #[] 3)).heap.size = w.heap.size + 1 + 1 + 1 := by simp
  have b1 := alloc_new (w.alloc o) (.cells #[.int .i64 0] 3)
  have b2 := alloc_new ((w.alloc o).alloc (.cells #[.int .i64 0] 3)) (.cells #[] 3)
  have b3 := alloc_new (((w.alloc o).alloc (.cells #[.int .i64 0] 3)).alloc (.cells #[] 3)) (.cells #[.slice (some ⟨w.heap.size + 1 + 1, 0, none⟩) 0 0] 32)
  rw [e1] at b1; rw [e2] at b2; rw [e3] at b3
  have b2' := ((Below.refl (w.heap.size + 1 + 1 + 1) (((w.alloc o).alloc (.cells #[.int .i64 0] 3)).alloc (.cells #[] 3))).alloc (by simp) (.cells #[.slice (some ⟨w.heap.size + 1 + 1, 0, none⟩) 0 0] 32)).block (w.heap.size + 1 + 1) (by omega)
  have b1' := (((Below.refl (w.heap.size + 1 + 1) ((w.alloc o).alloc (.cells #[.int .i64 0] 3))).alloc (by simp) (.cells #[] 3)).alloc (by simp) (.cells #[.slice (some ⟨w.heap.size + 1 + 1, 0, none⟩) 0 0] 32)).block (w.heap.size + 1) (by omega)
  refine ⟨⟨by simp [statesOf], .inr ⟨_, 1, #[.int .i64 0], rfl, Nat.le_refl _, b1'.trans b1, Nat.le_refl _, by unfold maxLen; omega, rfl, by simp [statesOf]⟩⟩, [.slice (some ⟨w.heap.size + 1 + 1, 0, none⟩) 0 0], ⟨by simp, .inr ⟨_, 1, _, rfl, by omega, b3, Nat.le_refl _, by unfold maxLen; omega, rfl, by simp⟩⟩, fun j hj => ?_⟩
  obtain rfl : j = 0 := by simp at hj; omega
  exact ⟨_, rfl, w.heap.size + 1 + 1, 0, 0, #[], rfl, by simp, by simp, b2'.trans b2, fun j hj => by simp [entry] at hj⟩

theorem way_of_row {w : World} {B g g' c : Nat} {ks : List Int} (h : w.ownsRow B 3 1 (.slice (some ⟨g, 0, none⟩) ks.length c) ks.length (ks.map (Value.int .i64))) (hg : g' < B) : WayAt w (some g') (.slice (some ⟨g, 0, none⟩) ks.length c) ks := by
  obtain ⟨_, ⟨h0, _⟩ | ⟨g1, cap, cur, he, hb, hh, h1, h2, h3, h4⟩⟩ := h
  · cases h0
  · cases he
    refine ⟨g, 0, c, cur, rfl, (Array.getElem?_eq_some_iff.1 hh).1, fun e => by cases e; omega, hh, fun j hj => ?_⟩
    have h5 : (cur.toList.take ks.length)[j]? = (ks.map (Value.int .i64))[j]? := by
      have := h4; simp only [Nat.mul_one] at this; rw [this]
    rw [List.getElem?_take, if_pos hj, Array.getElem?_toList] at h5
    rw [Nat.zero_add, h5]; simp [hj]

theorem row_empty (w : World) : (w.alloc (.cells #[] 3)).ownsRow w.heap.size 3 1 (.slice (some ⟨w.heap.size, 0, none⟩) 0 0) 0 [] :=
  ⟨by simp, .inr ⟨w.heap.size, 0, #[], rfl, Nat.le_refl _, (MapKept.heap_alloc w _).1, Nat.le_refl _, by unfold maxLen; omega, rfl, by simp⟩⟩

set_option maxHeartbeats 8000000 in
set_option maxRecDepth 100000 in
theorem specFirst_any (n₀ : Nat) (v : Value) (m : PMach) (w : World) (h : MachVal n₀ w v m) (hn : n₀ ≤ w.heap.size) (hMP : MachP m) (ks : List Int) (f : Bool) (hks : ks = (firstOf m).getD []) (hf : f = (firstOf m).isSome) :
    Calls Try.prog 34 #[v] w (WayPost w ks f) := by
  obtain ⟨i0, hinf, hz0, hz1, hz2⟩ := info_parts specInfoInt'
  obtain ⟨i1, hinf1, hy0, hy1, hy2⟩ := info_parts infoRow
  obtain ⟨a, cap, a', cap', rfl, hm, hrw, hfb⟩ := h.form
  have hW := (Below.refl w.heap.size w).alloc (Nat.le_refl _) (.cells #[.slice a m.next.length cap, .slice a' m.final.length cap'] 28)
  have HKS := hide hks
  have HFS := hide hf
  have HMP := hide hMP
  have h1 := hMP.one
  have h5 := hMP.most
  have HFin := hide hMP.fin
  have HRW := hide hrw
  have HFB := hide hfb
  clear hMP hm hfb hrw h hks hf
  go_enter Try.func34, Try.ntmps34
  go_wp2_with fail
  go_loopw [4, 5, 6, 7, 8] (fun sv wv iv _ _ wr => ∃ i g c gw cw : Nat, i ≤ (runQ m (8 * i)).length ∧ iv = .int .i64 i ∧ sv = .slice (some ⟨g, 0, none⟩) (runQ m (8 * i)).length c ∧ wv = .slice (some ⟨gw, 0, none⟩) (runQ m (8 * i)).length cw ∧ Hid (QueAt wr (w.heap.size + 1) g c gw cw (runQ m (8 * i))) ∧ Hid (∀ j, j < i → isFin m (entry (runQ m (8 * i)) j) = false) ∧ Below (w.heap.size + 1) (w.alloc (.cells #[.slice a m.next.length cap, .slice a' m.final.length cap'] 28)) wr) (fun _ _ iv _ _ _ => m.next.length - (intOf iv).toNat)
  case atStart => exact ⟨0, _, _, _, _, Nat.zero_le _, rfl, rfl, rfl, queAt_start w _, fun j hj => absurd hj (by omega), (((Below.refl _ _).alloc (by simp) _).alloc (by simp) _).alloc (by simp) _⟩
  case round =>
    obtain ⟨i, g, c, gw, cw, hil, rfl, rfl, rfl, hQ, hno, hbr⟩ := hrel
    have hqp := runQ_ok HMP.out (8 * i)
    have hql := hqp.length
    have hsz := hbr.size
    simp only [World.size_alloc] at hsz
    have hszl : w.heap.size < wr.heap.size := by omega
    have hw0 : Below w.heap.size w wr := hW.trans (hbr.mono (by omega))
    have c1 : wr.cell? ⟨w.heap.size, 1, none⟩ = some (.slice a' m.final.length cap') := by rw [hbr.cell (p := ⟨w.heap.size, 1, none⟩) (by simp)]; simp
    by_cases hlt : i < (runQ m (8 * i)).length
    · obtain ⟨d0, dg, dgw, u, d1, hu⟩ := hQ.out.cells hlt
      have hsl := hqp.lt i hlt
      have hul := hqp.len i hlt
      obtain ⟨bf, of, rfl, hbf, gf⟩ := final_at HFB.out HMP.out hsl
      have gf := (hw0.cell (p := ⟨bf, of + (entry (runQ m (8 * i)) i).1, none⟩) (show bf < w.heap.size by omega)).trans gf
      have hsf : ((entry (runQ m (8 * i)) i).1 : Int) < (m.final.length : Int) := by have := HFin.out; omega
      have hlt1 : (i : Int) < ((runQ m (8 * i)).length : Int) := by omega
      have hbfw : bf < wr.heap.size := by omega
      have HU := hide hu
      have HEntry : Hid (∀ d, entry (runQ m (8 * i + d)) i = entry (runQ m (8 * i)) i ∧ i < (runQ m (8 * i + d)).length) := fun d => entry_run hlt
      have HNo : Hid (isFin m (entry (runQ m (8 * i)) i) = true → ks = (entry (runQ m (8 * i)) i).2 ∧ f = true) := fun hh => by
        have := firstOf_eq (FirstP.hit (8 * i) i hlt hh hno.out)
        exact ⟨by rw [HKS.out, this]; rfl, by rw [HFS.out, this]; rfl⟩
      have HIsf : Hid (m.final[(entry (runQ m (8 * i)) i).1]?.getD false = isFin m (entry (runQ m (8 * i)) i)) := rfl
      generalize hfv : m.final[(entry (runQ m (8 * i)) i).1]?.getD false = fv at *
      have HE := hide hfv
      clear hfv
      cases fv with
      | true =>
        obtain ⟨ek, ef⟩ := HNo.out HIsf.out.symm
        have HEk := hide ek
        have HEf := hide ef
        obtain ⟨bu, ou, cu, rfl, hbu, hcu⟩ := hu.cell
        have HCU := hide hcu
        clear hcu ek ef hu
        go_wp2_with fail
        go_quiet (fail)
        go_wp2_with fail
        go_ret2
        exact ⟨bu, ou, cu, ret_way (by rw [HEk.out]) HEf.out.symm, by simpa using hbu, fun j u hj => by rw [HEk.out] at hj; simpa using HCU.out j u hj, below_drewN hw0 _⟩
      | false =>
        have HNo2 : Hid (∀ j, j < i + 1 → isFin m (entry (runQ m (8 * i)) j) = false) := fun j hj => by
          rcases Nat.lt_succ_iff_lt_or_eq.1 hj with h | rfl
          · exact hno.out j h
          · exact HIsf.out.symm
        clear HNo
        go_wp2_with fail
        go_quiet (fail)
        go_wp2_with fail
        go_loopw [4, 5, 7, 8] (fun sv wv kv _ wq => ∃ k g c gw cw : Nat, k ≤ 8 ∧ kv = .int .i64 ((k : Int) + 1) ∧ sv = .slice (some ⟨g, 0, none⟩) (runQ m (8 * i + k)).length c ∧ wv = .slice (some ⟨gw, 0, none⟩) (runQ m (8 * i + k)).length cw ∧ Hid (QueAt wq (w.heap.size + 1) g c gw cw (runQ m (8 * i + k))) ∧ Below (w.heap.size + 1) (w.alloc (.cells #[.slice a m.next.length cap, .slice (some ⟨bf, of, none⟩) m.final.length cap'] 28)) wq) (fun _ _ kv _ _ => 9 - (intOf kv).toNat)
        case atStart => exact ⟨0, g, c, gw, cw, Nat.zero_le _, rfl, rfl, rfl, hQ.out.below (below_drewN (Below.refl _ _) _), below_drewN hbr _⟩
        case round =>
          clear d0 d1 dg dgw c1 gf hszl hsz hw0 hbfw hQ hu HU hbr
          obtain ⟨k, g, c, gw, cw, hk8, rfl, rfl, rfl, hQ, hbr⟩ := hrel
          have hqk := runQ_ok HMP.out (8 * i + k)
          have hqkl := hqk.length
          obtain ⟨he, hik⟩ := HEntry.out k
          have HE2 := hide he
          clear he
          have hsz := hbr.size
          simp only [World.size_alloc] at hsz
          have hszl : w.heap.size < wr.heap.size := by omega
          have hw0 : Below w.heap.size w wr := hW.trans (hbr.mono (by omega))
          by_cases hk : k < 8
          · obtain ⟨d0, dg, dgw, u, d1, hu⟩ := hQ.out.cells hik
            rw [HE2.out] at d0 hu
            obtain ⟨b2, of2, bk, ofk, ck2, rfl, hb2, g0, hbk, hrow⟩ := row_at HRW.out HMP.out hsl
            have c0 : wr.cell? ⟨w.heap.size, 0, none⟩ = some (.slice (some ⟨b2, of2, none⟩) m.next.length cap) := by rw [hbr.cell (p := ⟨w.heap.size, 0, none⟩) (by simp)]; simp
            have g0 := (hw0.cell (p := ⟨b2, of2 + (entry (runQ m (8 * i)) i).1, none⟩) (show b2 < w.heap.size by omega)).trans g0
            have gk : wr.cell? ⟨bk, ofk + k, none⟩ = some (.int .i64 (nextOf m (entry (runQ m (8 * i)) i).1 k)) := (hw0.cell (p := ⟨bk, ofk + k, none⟩) (show bk < w.heap.size by omega)).trans (hrow k hk)
            have hnb := nextOf_bounds HMP.out hsl hk
            have HStep := hide (runQ_at hk hik)
            have HNew := hide (@stepQ_new m (runQ m (8 * i + k)) i k)
            have HOld := hide (@stepQ_old m (runQ m (8 * i + k)) i k)
            rw [HE2.out] at HNew HOld
            have hlt1k : (i : Int) < ((runQ m (8 * i + k)).length : Int) := by omega
            have hsn : ((entry (runQ m (8 * i)) i).1 : Int) < (m.next.length : Int) := by omega
            have hb2w : b2 < wr.heap.size := by omega
            have hbkw : bk < wr.heap.size := by omega
            have hwk : IntKind.i64.wrap ((k : Int) + 1 - 1) = (k : Int) := by rw [IntKind.wrap_i64]; omega
            have hk8i : (k : Int) < 8 := by omega
            have hk8j : (k : Int) + 1 ≤ 8 := by omega
            clear hrow
            generalize nextOf m (entry (runQ m (8 * i)) i).1 k = n at *
            by_cases hn0 : 0 ≤ n
            · have HHas : Hid (∀ wx, Below wr.heap.size wr wx → Calls Try.prog 45 #[.slice (some ⟨g, 0, none⟩) (runQ m (8 * i + k)).length c, .int .i64 n] wx fun e w' => e = .returned (.bool (hasB (statesOf (runQ m (8 * i + k))) n)) ∧ w' = wx) := fun wx hb =>
                specHas_any wr.heap.size _ (statesOf (runQ m (8 * i + k))) n wx (hQ.out.ints.below (Nat.le_refl _) hb) (by rw [statesOf_len]; omega)
              cases hhb : hasB (statesOf (runQ m (8 * i + k))) n with
              | true =>
                have e : Hid (runQ m (8 * i + (k + 1)) = runQ m (8 * i + k)) := HStep.out.trans (HOld.out fun h => h.2 (seen_iff.1 hhb))
                have HB := hide hhb
                clear hhb
                go_wp2_with fail
                go_quiet (fail)
                go_wp2_with (go_at_call 45; refine (HHas.out _ (below_drewN (Below.refl _ _) _)).mono ?_; rw [HB.out]; rintro e w' ⟨rfl, rfl⟩)
                refine ⟨⟨k + 1, g, c, gw, cw, by omega, by go_num, by rw [e.out], by rw [e.out], ?_, below_drewN hbr _⟩, by simp [intOf]; omega⟩
                rw [e.out]; exact hQ.out.below (below_drewN (Below.refl _ _) _)
              | false =>
                have e : Hid (runQ m (8 * i + (k + 1)) = _) := HStep.out.trans (HNew.out hn0 (seen_no.1 hhb))
                have HB := hide hhb
                obtain ⟨n', rfl⟩ : ∃ n' : Nat, n = (n' : Int) := ⟨n.toNat, by omega⟩
                rw [Int.toNat_natCast] at e
                clear hhb HNew HOld HStep
                generalize hQk : runQ m (8 * i + k) = Q at *
                have HQk := hide hQk
                clear hQk
                generalize entry (runQ m (8 * i)) i = en at *
                go_wp2_with fail
                go_quiet (fail)
                go_wp2_with (first
                  | (go_at_call 45; refine (HHas.out _ (below_drewN (Below.refl _ _) _)).mono ?_; rw [HB.out]; rintro e w' ⟨rfl, rfl⟩)
                  | (at_builtin; refine wpList_append_lies _ rfl _ _ 32 rfl (w.heap.size + 1) 3 i0 (.int .i64 0) 1 8 Try.underlying32 hinf hz0 hz1 hz2 rfl (by decide) _ _ _ rfl ((ownsRow_below hQ.out.1 (below_drewN (Below.refl _ _) _)).alloc _) ⟨_, 0, none⟩ 1 1 [.int .i64 n'] rfl rfl (cell_one_new _ _ _) (ints_one [n']) (by decide) (by unfold maxLen; omega) (by omega) (by simp; omega) _ rfl ?_))
                intro g' c' w1 hown' hgrow hgg hltg'
                obtain ⟨hS0, vs, hV0, hWy0⟩ := hQ.out
                have hgb := (hS0.lt g rfl).1
                have hgwb := (hV0.lt gw rfl).1
                have hvl : vs.length = Q.length := by have := hV0.1; omega
                obtain ⟨hV1, hWy1⟩ := ways_after _ (ownsRow_below hS0 (below_drewN (Below.refl _ _) _)) (ownsRow_below hV0 (below_drewN (Below.refl _ _) _)) (by omega) (hWy0.below (below_drewN (Below.refl _ _) _)) hgrow (by simpa using hgg)
                have hb1 := ((below_drewN hbr _).alloc (by simp; omega) _).grown hgrow (by simp; omega) (fun k hk => by cases hk; exact hgb)
                have hs1 := hb1.size
                simp only [World.size_alloc] at hs1
                obtain ⟨u1, hu1, hway1⟩ := hWy1 i hik
                rw [HE2.out] at hway1
                have q1 := hV1.cells (g := gw) rfl i u1 hu1
                rw [Go.WideShapes.add_plain, Nat.zero_add] at q1
                have hgw1 := World.block_lt_of_cell? w1 _ q1
                have hgw1' : gw < w1.heap.size := hgw1
                obtain ⟨bu, ou, cu, rfl, hbu, hcu⟩ := hway1.cell
                have hb12 := (Below.refl w1.heap.size w1).alloc (Nat.le_refl _) (.cells #[] 3)
                have HCU : Hid (∀ j u, (en.2.map (Value.int .i64))[j]? = some u → (w1.alloc (.cells #[] 3)).cell? ((⟨bu, ou, none⟩ : Addr).add j) = some u) := fun j u hj => by
                  have := hcu j u hj
                  rw [Go.WideShapes.add_plain] at this ⊢
                  exact (hb12.cell (p := ⟨bu, ou + j, none⟩) hbu).trans this
                have HS1 := hide hown'
                have HV1 := hide hV1
                have HWy1 := hide hWy1
                clear hown' hgrow hgg hS0 hV0 hWy0 hV1 hWy1 hway1 hcu hQ d0 d1 hgw1 c0 g0 gk
                go_wp2_with (at_builtin; refine wpList_append_own _ rfl _ _ 32 rfl w1.heap.size 3 i0 (.int .i64 0) 1 8 Try.underlying32 hinf hz0 hz1 hz2 rfl (by decide) _ _ _ rfl (row_empty w1) ⟨bu, ou, none⟩ en.2.length cu (en.2.map (Value.int .i64)) rfl (by simp) HCU.out (ints_one _) (by unfold maxLen; omega) (by omega) (by simp) ?_)
                intro v3 w3 hown3 hgrow3 _
                have hb13 := hb12.grown hgrow3 (by simp) (fun k hk => by cases hk; exact Nat.le_refl _)
                have hl3 := hown3.lt
                obtain ⟨a3, c3, rfl⟩ := row_shape hown3
                have hs3 := hb13.size
                have HO3 := hide hown3
                clear hown3 hgrow3
                go_wp2_with (at_builtin; refine wpList_append_lies _ rfl _ _ 32 rfl w1.heap.size 3 i0 (.int .i64 0) 1 8 Try.underlying32 hinf hz0 hz1 hz2 rfl (by decide) _ _ _ rfl (HO3.out.alloc _) ⟨_, 0, none⟩ 1 1 [.int .i64 ((k : Int) + 1)] rfl rfl (cell_one_new _ _ _) (ints_one [(k : Int) + 1]) (by decide) (by unfold maxLen; omega) (by omega) (by simp; omega) _ rfl ?_)
                intro g5 c5 w5 hown5 hgrow5 _ hg5
                have hb15 := (hb13.alloc (by omega) _).grown hgrow5 (by simp; omega) (fun k hk => (hl3 k hk).1)
                have hs5 := hb15.size
                have HO5 := hide hown5
                clear hown5 hgrow5 hl3
                have hb16 := hb15.alloc (by omega) (.cells #[.slice (some ⟨g5, 0, none⟩) (en.2.length + 1) c5] 32)
                go_wp2_with (at_builtin; refine wpList_append_lies _ rfl _ _ 22 rfl (w.heap.size + 1) 32 i1 (.slice none 0 0) 1 24 Try.underlying22 hinf1 hy0 hy1 hy2 rfl (by decide) _ _ _ rfl (ownsRow_below HV1.out hb16) ⟨_, 0, none⟩ 1 1 [.slice (some ⟨g5, 0, none⟩) (en.2.length + 1) c5] rfl rfl (cell_one_new _ _ _) (slice_one _ ⟨_, _, _, rfl⟩) (by decide) (by unfold maxLen; omega) (by omega) (by simp; omega) _ rfl ?_)
                intro g7 c7 w7 hown7 hgrow7 _ hg7
                have e5 : (en.2 ++ [(k : Int) + 1]).length = en.2.length + 1 := by simp
                have HWay : Hid (WayAt w5 (some g') (.slice (some ⟨g5, 0, none⟩) (en.2 ++ [(k : Int) + 1]).length c5) (en.2 ++ [(k : Int) + 1])) := by
                  refine way_of_row (B := w1.heap.size) ?_ hltg'
                  rw [e5]
                  simpa using HO5.out
                rw [e5] at HWay
                have h56 := (Below.refl w5.heap.size w5).alloc (Nat.le_refl _) (.cells #[.slice (some ⟨g5, 0, none⟩) (en.2.length + 1) c5] 32)
                have hV6 := ownsRow_below HV1.out hb16
                have hS6 := ownsRow_below HS1.out hb16
                have hkeep : ∀ b, b < (w5.alloc (.cells #[.slice (some ⟨g5, 0, none⟩) (en.2.length + 1) c5] 32)).heap.size → some b ≠ some g' → (∃ cs, (w5.alloc (.cells #[.slice (some ⟨g5, 0, none⟩) (en.2.length + 1) c5] 32)).heap[b]? = some (.cells cs 3 (0, 0))) → some b ≠ some gw ∧ some b ≠ some g' := fun b _ h2 ⟨cs, hcs⟩ =>
                  ⟨fun e => own_other hV6 hcs (by decide) e.symm, h2⟩
                have hW7 := (((HWy1.out.below hb16).kept hgrow7 hkeep).push hvl (e := (n', en.2 ++ [(k : Int) + 1])) (((HWay.out.below h56).kept hgrow7 hkeep)))
                have hS7 := hS6.kept hgrow7 (.inr (rows_apart hS6 hV6 (by omega)).symm)
                have hb7 := (hb1.trans (hb16.mono (by omega))).grown hgrow7 (by simp; omega) (fun k hk => by cases hk; exact hgwb)
                have el : (Q ++ [(n', en.2 ++ [(k : Int) + 1])]).length = Q.length + 1 := by simp
                have HQ7 : Hid (QueAt w7 (w.heap.size + 1) g' c' g7 c7 (Q ++ [(n', en.2 ++ [(k : Int) + 1])])) := by
                  refine ⟨?_, vs ++ [.slice (some ⟨g5, 0, none⟩) (en.2.length + 1) c5], ?_, hW7⟩
                  · rw [el, statesOf_push]; simpa using hS7
                  · rw [el]; exact hown7
                clear hown7 hgrow7 hW7 hS7 hV6 hS6 hkeep
                go_wp2_with fail
                refine ⟨⟨k + 1, g', c', g7, c7, by omega, by go_num, ?_, ?_, ?_, hb7⟩, by simp [intOf]; omega⟩
                · rw [e.out, el]
                · rw [e.out, el]
                · rw [e.out]; exact HQ7
            · have e : Hid (runQ m (8 * i + (k + 1)) = runQ m (8 * i + k)) := HStep.out.trans (HOld.out fun h => hn0 h.1)
              have hn1 : decide (0 ≤ n) = false := by simpa using hn0
              go_wp2_with fail
              go_quiet (fail)
              go_wp2_with fail
              refine ⟨⟨k + 1, g, c, gw, cw, by omega, by go_num, by rw [e.out], by rw [e.out], ?_, below_drewN hbr _⟩, by simp [intOf]; omega⟩
              rw [e.out]; exact hQ.out.below (below_drewN (Below.refl _ _) _)
          · obtain rfl : k = 8 := by omega
            have e8 : 8 * i + 8 = 8 * (i + 1) := by omega
            have HNo3 : Hid (∀ j, j < i + 1 → isFin m (entry (runQ m (8 * (i + 1))) j) = false) := fun j hj => by
              rw [← e8, (entry_run (d := 8) (show j < (runQ m (8 * i)).length by omega)).1]
              exact HNo2.out j hj
            rw [e8] at hQ hik
            go_wp2_with fail
            exact ⟨⟨i + 1, g, c, gw, cw, by omega, by go_num, by rw [e8], by rw [e8], hQ, HNo3, hbr⟩, by simp [intOf]; omega⟩
    · have HNone : Hid (ks = [] ∧ f = false) := by
        have := firstOf_eq (FirstP.no (8 * i) (by omega) (fun j hj => hno.out j (by omega)))
        exact ⟨by rw [HKS.out, this]; rfl, by rw [HFS.out, this]; rfl⟩
      go_wp2_with fail
      go_ret2
      exact ⟨wr.heap.size, 0, 0, ret_way (by rw [HNone.out.1]; rfl) HNone.out.2.symm, by simp, fun j u hj => by rw [HNone.out.1] at hj; simp at hj, hw0.alloc (by omega) _⟩

theorem firstAns_bad (m : PMach) : firstAns false m = [] := rfl
theorem firstCode_bad (m : PMach) : firstCode false m = 1 := rfl

set_option maxHeartbeats 1000000 in
set_option maxRecDepth 100000 in
theorem specFirstKids_any (n₀ : Nat) (v : Value) (m : PMach) (w : World) (h : MachVal n₀ w v m) (hn : n₀ ≤ w.heap.size) (hl : SmallMach m) (r : Bool) (hr : r = true ↔ MachP m) (ks : List Int) (c : Int) (hks : ks = firstAns r m) (hkl : ks.length ≤ 1048576) (hc : c = firstCode r m) :
    Calls Try.prog 16 #[v] w (ListPost w ks c) := by
  obtain ⟨i0, hinf, hz0, hz1, hz2⟩ := info_parts specInfoInt'
  obtain ⟨a, cap, a', cap', rfl, hm, -, -⟩ := h.form
  have hW := (Below.refl w.heap.size w).alloc (Nat.le_refl _) (.cells #[.slice a m.next.length cap, .slice a' m.final.length cap'] 28)
  have HOK := hide (specMachineOK_any n₀ _ m _ (hm.below (Nat.le_refl _) (hW.mono hn)) (by simp; omega) hl r hr)
  have HR := hide hr
  have HM := hide hm
  have HKS := hide hks
  have HC := hide hc
  clear hl hr h hm hks hc
  cases r with
  | false =>
    have e1 : Hid (ks = []) := HKS.out
    have e2 : Hid (c = 1) := HC.out
    go_enter Try.func16, Try.ntmps16
    go_wp2_with fail
    refine HOK.out.mono ?_
    rintro e w1 ⟨rfl, hb1⟩
    have hs1 := hb1.size
    simp only [World.size_alloc] at hs1
    have hb1' := hW.trans (hb1.mono (by simp))
    go_wp2_with fail
    go_ret2
    refine ⟨_, ret_vc e2.out.symm, ?_, hb1'.alloc (by omega) _⟩
    rw [e1.out]; exact ownsRow_base (row_empty w1) (by omega)
  | true =>
    have HMP := hide (HR.out.1 rfl)
    have e1 : Hid (ks = (firstOf m).getD []) := HKS.out
    have e2 : Hid (c = if firstOf m = none then 5 else 0) := HC.out
    go_enter Try.func16, Try.ntmps16
    go_wp2_with fail
    refine HOK.out.mono ?_
    rintro e w1 ⟨rfl, hb1⟩
    simp only [World.size_alloc] at hb1
    have hs1 := hb1.size
    simp only [World.size_alloc] at hs1
    have hb1' := hW.trans (hb1.mono (by omega))
    have c0 : w1.cell? ⟨w.heap.size, 0, none⟩ = some (.slice a m.next.length cap) := by rw [hb1.cell (p := ⟨w.heap.size, 0, none⟩) (by simp)]; simp
    have c1 : w1.cell? ⟨w.heap.size, 1, none⟩ = some (.slice a' m.final.length cap') := by rw [hb1.cell (p := ⟨w.heap.size, 1, none⟩) (by simp)]; simp
    have HF := hide (specFirst_any n₀ _ m w1 (HM.out.below (Nat.le_refl _) (hb1'.mono hn)) (by omega) HMP.out ks _ e1.out rfl)
    clear HOK
    cases ho : firstOf m with
    | none =>
      have e3 : Hid (c = 5) := by rw [Hid, e2.out, ho]; rfl
      have e4 : Hid (ks = []) := by rw [Hid, e1.out, ho]; rfl
      rw [ho] at HF
      clear ho
      go_wp2_with fail
      refine HF.out.mono ?_
      rintro e w2 ⟨b, off, cp, rfl, hb, hcell, hb2⟩
      clear hcell
      have hs2 := hb2.size
      have hb2' := hb1'.trans (hb2.mono (by omega))
      go_wp2_with fail
      go_ret2
      refine ⟨_, ret_vc e3.out.symm, ?_, hb2'.alloc (by omega) _⟩
      rw [e4.out]; exact ownsRow_base (row_empty w2) (by omega)
    | some o =>
      have e3 : Hid (c = 0) := by rw [Hid, e2.out, ho]; rfl
      rw [ho] at HF
      clear ho
      go_wp2_with fail
      refine HF.out.mono ?_
      rintro e w2 ⟨b, off, cp, rfl, hb, hcell, hb2⟩
      have hs2 := hb2.size
      have hb2' := hb1'.trans (hb2.mono (by omega))
      have hb3 := (Below.refl w2.heap.size w2).alloc (Nat.le_refl _) (.cells #[] 3)
      have HCU : Hid (∀ j u, (ks.map (Value.int .i64))[j]? = some u → (w2.alloc (.cells #[] 3)).cell? ((⟨b, off, none⟩ : Addr).add j) = some u) := fun j u hj => by
        have := hcell j u hj
        rw [Go.WideShapes.add_plain] at this ⊢
        exact (hb3.cell (p := ⟨b, off + j, none⟩) hb).trans this
      clear hcell
      go_wp2_with (at_builtin; refine wpList_append_own _ rfl _ _ 32 rfl w2.heap.size 3 i0 (.int .i64 0) 1 8 Try.underlying32 hinf hz0 hz1 hz2 rfl (by decide) _ _ _ rfl (row_empty w2) ⟨b, off, none⟩ ks.length cp (ks.map (Value.int .i64)) rfl (by simp) HCU.out (ints_one _) (by unfold maxLen; omega) (by omega) (by simp) ?_)
      intro v3 w3 hown3 hgrow3 _
      have hb13 := hb3.grown hgrow3 (by simp) (fun k hk => by cases hk; exact Nat.le_refl _)
      have HO : Hid (w3.ownsRow w2.heap.size 3 1 v3 ks.length (ks.map (Value.int .i64))) := by unfold Hid; simpa using hown3
      obtain ⟨a3, c3, rfl⟩ := row_shape HO.out
      clear hown3 hgrow3
      go_wp2_with fail
      go_ret2
      exact ⟨_, ret_vc e3.out.symm, ownsRow_base HO.out (by omega), hb2'.trans (hb13.mono (by omega))⟩
end Go.Proofs.Ytlbfjmfjakhmdaa
