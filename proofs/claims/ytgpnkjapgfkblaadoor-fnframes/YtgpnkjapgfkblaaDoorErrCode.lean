/-
  What codeOfFault answers at the errors that this program makes: nil, the four sentinels, a bound's error that wraps one of them. Conditions: the four variables hold four sentinels at different places. They make new memory alone.
-/
import Derived.Test.YtgpnkjapgfkblaaDoorErrIs
namespace Go.Proofs.YtgpnkjapgfkblaaDoor
open Go.RowKit

/-- The four variables hold four sentinels, at different places, each in a row of cells of its own. -/
structure Sents (w : World) (aF aR aS aM : Addr) : Prop where
  cF : w.cell? ⟨1, 0, none⟩ = some (.iface 76 (.pointer (some aF)))
  cR : w.cell? ⟨0, 0, none⟩ = some (.iface 76 (.pointer (some aR)))
  cS : w.cell? ⟨2, 0, none⟩ = some (.iface 76 (.pointer (some aS)))
  cM : w.cell? ⟨3, 0, none⟩ = some (.iface 76 (.pointer (some aM)))
  bF : ∃ c t, w.heap[aF.block]? = some (.cells c t (0, 0))
  bR : ∃ c t, w.heap[aR.block]? = some (.cells c t (0, 0))
  bS : ∃ c t, w.heap[aS.block]? = some (.cells c t (0, 0))
  bM : ∃ c t, w.heap[aM.block]? = some (.cells c t (0, 0))
  nFR : aF ≠ aR
  nFS : aF ≠ aS
  nFM : aF ≠ aM
  nRF : aR ≠ aF
  nRS : aR ≠ aS
  nRM : aR ≠ aM
  nSF : aS ≠ aF
  nSR : aS ≠ aR
  nSM : aS ≠ aM
  nMF : aM ≠ aF
  nMR : aM ≠ aR
  nMS : aM ≠ aS

theorem cell_kept {w w' : World} (hb : Below w.heap.size w w') {a : Addr} {v : Value} (h : w.cell? a = some v) : w'.cell? a = some v :=
  (hb.cell (p := a) (World.block_lt_of_cell? w a h)).trans h
theorem block_kept {w w' : World} (hb : Below w.heap.size w w') {k : Nat} (h : ∃ c t, w.heap[k]? = some (.cells c t (0, 0))) : ∃ c t, w'.heap[k]? = some (.cells c t (0, 0)) := by
  obtain ⟨c, t, e⟩ := h
  exact ⟨c, t, by rw [hb.block k (Array.getElem?_eq_some_iff.1 e).1]; exact e⟩

theorem Sents.below {w w' : World} {aF aR aS aM : Addr} (h : Sents w aF aR aS aM) (hb : Below w.heap.size w w') : Sents w' aF aR aS aM :=
  { cF := cell_kept hb h.cF, cR := cell_kept hb h.cR, cS := cell_kept hb h.cS, cM := cell_kept hb h.cM, bF := block_kept hb h.bF, bR := block_kept hb h.bR, bS := block_kept hb h.bS, bM := block_kept hb h.bM,
    nFR := h.nFR, nFS := h.nFS, nFM := h.nFM, nRF := h.nRF, nRS := h.nRS, nRM := h.nRM, nSF := h.nSF, nSR := h.nSR, nSM := h.nSM, nMF := h.nMF, nMR := h.nMR, nMS := h.nMS }

theorem codeOfFault_nil (w : World) : Calls Tryd.prog 24 #[.nilIface] w fun e w' => e = .returned (.int .i64 0) ∧ w' = w := by
  go_enter Tryd.func24, Tryd.ntmps24
  go_wp2
  go_ret
  exact ⟨rfl, rfl⟩

theorem codeOfFault_F {aF aR aS aM : Addr} (w : World) (h : Sents w aF aR aS aM) :
    Calls Tryd.prog 24 #[.iface 76 (.pointer (some aF))] w fun e w' => e = .returned (.int .i64 3) ∧ w' = w := by
  have kF := h.cF
  have H : Hid (Sents w aF aR aS aM) := h
  clear h
  go_enter Tryd.func24, Tryd.ntmps24
  go_wp2_with fail
  refine (is_same aF _).mono ?_
  rintro e w1 ⟨rfl, rfl⟩
  go_wp2
  go_ret
  exact ⟨rfl, rfl⟩

theorem codeOfFault_wrapF {aF aR aS aM : Addr} (n lo hi : Int) (w : World) (h : Sents w aF aR aS aM) :
    Calls Tryd.prog 24 #[.iface 53 (.agg #[.int .i64 n, .int .i64 lo, .int .i64 hi, .iface 76 (.pointer (some aF))])] w fun e w' => e = .returned (.int .i64 3) ∧ Below w.heap.size w w' := by
  have H0 : Hid (Sents w aF aR aS aM) := h
  have k := h.cF
  clear h
  have B0 : Below w.heap.size w w := Below.refl _ _
  go_enter Tryd.func24, Tryd.ntmps24
  go_wp2_with fail
  refine (is_wrap_same n lo hi aF _).mono ?_
  rintro e w9 ⟨rfl, hb⟩
  clear k
  go_wp2
  go_ret
  exact ⟨rfl, B0.trans (hb.mono B0.size)⟩

theorem codeOfFault_R {aF aR aS aM : Addr} (w : World) (h : Sents w aF aR aS aM) :
    Calls Tryd.prog 24 #[.iface 76 (.pointer (some aR))] w fun e w' => e = .returned (.int .i64 4) ∧ w' = w := by
  have kF := h.cF
  have kR := h.cR
  have H : Hid (Sents w aF aR aS aM) := h
  clear h
  go_enter Tryd.func24, Tryd.ntmps24
  go_wp2_with fail
  obtain ⟨c1, t1, e1⟩ := H.out.bR
  obtain ⟨c2, t2, e2⟩ := H.out.bF
  refine (is_other aR aF c1 c2 t1 t2 _ H.out.nRF e1 e2).mono ?_
  clear e1 e2 c1 c2 t1 t2
  rintro e w1 ⟨rfl, rfl⟩
  go_wp2_with fail
  refine (is_same aR _).mono ?_
  rintro e w1 ⟨rfl, rfl⟩
  go_wp2
  go_ret
  exact ⟨rfl, rfl⟩

theorem codeOfFault_wrapR {aF aR aS aM : Addr} (n lo hi : Int) (w : World) (h : Sents w aF aR aS aM) :
    Calls Tryd.prog 24 #[.iface 53 (.agg #[.int .i64 n, .int .i64 lo, .int .i64 hi, .iface 76 (.pointer (some aR))])] w fun e w' => e = .returned (.int .i64 4) ∧ Below w.heap.size w w' := by
  have H0 : Hid (Sents w aF aR aS aM) := h
  have k := h.cF
  clear h
  have B0 : Below w.heap.size w w := Below.refl _ _
  go_enter Tryd.func24, Tryd.ntmps24
  go_wp2_with fail
  obtain ⟨c1, t1, e1⟩ := H0.out.bR
  obtain ⟨c2, t2, e2⟩ := H0.out.bF
  refine (is_wrap_other n lo hi aR aF c1 c2 t1 t2 _ H0.out.nRF e1 e2).mono ?_
  clear e1 e2 c1 c2 t1 t2 k
  rintro e w1 ⟨rfl, hb⟩
  have H1 : Hid (Sents w1 aF aR aS aM) := H0.out.below hb
  have B1 : Below w.heap.size w w1 := B0.trans (hb.mono B0.size)
  have k := H1.out.cR
  clear hb
  go_wp2_with fail
  refine (is_wrap_same n lo hi aR _).mono ?_
  rintro e w9 ⟨rfl, hb⟩
  clear k
  go_wp2
  go_ret
  exact ⟨rfl, B1.trans (hb.mono B1.size)⟩

theorem codeOfFault_S {aF aR aS aM : Addr} (w : World) (h : Sents w aF aR aS aM) :
    Calls Tryd.prog 24 #[.iface 76 (.pointer (some aS))] w fun e w' => e = .returned (.int .i64 8) ∧ w' = w := by
  have kF := h.cF
  have kR := h.cR
  have kS := h.cS
  have H : Hid (Sents w aF aR aS aM) := h
  clear h
  go_enter Tryd.func24, Tryd.ntmps24
  go_wp2_with fail
  obtain ⟨c1, t1, e1⟩ := H.out.bS
  obtain ⟨c2, t2, e2⟩ := H.out.bF
  refine (is_other aS aF c1 c2 t1 t2 _ H.out.nSF e1 e2).mono ?_
  clear e1 e2 c1 c2 t1 t2
  rintro e w1 ⟨rfl, rfl⟩
  go_wp2_with fail
  obtain ⟨c1, t1, e1⟩ := H.out.bS
  obtain ⟨c2, t2, e2⟩ := H.out.bR
  refine (is_other aS aR c1 c2 t1 t2 _ H.out.nSR e1 e2).mono ?_
  clear e1 e2 c1 c2 t1 t2
  rintro e w1 ⟨rfl, rfl⟩
  go_wp2_with fail
  refine (is_same aS _).mono ?_
  rintro e w1 ⟨rfl, rfl⟩
  go_wp2
  go_ret
  exact ⟨rfl, rfl⟩

theorem codeOfFault_wrapS {aF aR aS aM : Addr} (n lo hi : Int) (w : World) (h : Sents w aF aR aS aM) :
    Calls Tryd.prog 24 #[.iface 53 (.agg #[.int .i64 n, .int .i64 lo, .int .i64 hi, .iface 76 (.pointer (some aS))])] w fun e w' => e = .returned (.int .i64 8) ∧ Below w.heap.size w w' := by
  have H0 : Hid (Sents w aF aR aS aM) := h
  have k := h.cF
  clear h
  have B0 : Below w.heap.size w w := Below.refl _ _
  go_enter Tryd.func24, Tryd.ntmps24
  go_wp2_with fail
  obtain ⟨c1, t1, e1⟩ := H0.out.bS
  obtain ⟨c2, t2, e2⟩ := H0.out.bF
  refine (is_wrap_other n lo hi aS aF c1 c2 t1 t2 _ H0.out.nSF e1 e2).mono ?_
  clear e1 e2 c1 c2 t1 t2 k
  rintro e w1 ⟨rfl, hb⟩
  have H1 : Hid (Sents w1 aF aR aS aM) := H0.out.below hb
  have B1 : Below w.heap.size w w1 := B0.trans (hb.mono B0.size)
  have k := H1.out.cR
  clear hb
  go_wp2_with fail
  obtain ⟨c1, t1, e1⟩ := H1.out.bS
  obtain ⟨c2, t2, e2⟩ := H1.out.bR
  refine (is_wrap_other n lo hi aS aR c1 c2 t1 t2 _ H1.out.nSR e1 e2).mono ?_
  clear e1 e2 c1 c2 t1 t2 k
  rintro e w2 ⟨rfl, hb⟩
  have H2 : Hid (Sents w2 aF aR aS aM) := H1.out.below hb
  have B2 : Below w.heap.size w w2 := B1.trans (hb.mono B1.size)
  have k := H2.out.cS
  clear hb
  go_wp2_with fail
  refine (is_wrap_same n lo hi aS _).mono ?_
  rintro e w9 ⟨rfl, hb⟩
  clear k
  go_wp2
  go_ret
  exact ⟨rfl, B2.trans (hb.mono B2.size)⟩

theorem codeOfFault_M {aF aR aS aM : Addr} (w : World) (h : Sents w aF aR aS aM) :
    Calls Tryd.prog 24 #[.iface 76 (.pointer (some aM))] w fun e w' => e = .returned (.int .i64 9) ∧ w' = w := by
  have kF := h.cF
  have kR := h.cR
  have kS := h.cS
  have kM := h.cM
  have H : Hid (Sents w aF aR aS aM) := h
  clear h
  go_enter Tryd.func24, Tryd.ntmps24
  go_wp2_with fail
  obtain ⟨c1, t1, e1⟩ := H.out.bM
  obtain ⟨c2, t2, e2⟩ := H.out.bF
  refine (is_other aM aF c1 c2 t1 t2 _ H.out.nMF e1 e2).mono ?_
  clear e1 e2 c1 c2 t1 t2
  rintro e w1 ⟨rfl, rfl⟩
  go_wp2_with fail
  obtain ⟨c1, t1, e1⟩ := H.out.bM
  obtain ⟨c2, t2, e2⟩ := H.out.bR
  refine (is_other aM aR c1 c2 t1 t2 _ H.out.nMR e1 e2).mono ?_
  clear e1 e2 c1 c2 t1 t2
  rintro e w1 ⟨rfl, rfl⟩
  go_wp2_with fail
  obtain ⟨c1, t1, e1⟩ := H.out.bM
  obtain ⟨c2, t2, e2⟩ := H.out.bS
  refine (is_other aM aS c1 c2 t1 t2 _ H.out.nMS e1 e2).mono ?_
  clear e1 e2 c1 c2 t1 t2
  rintro e w1 ⟨rfl, rfl⟩
  go_wp2_with fail
  refine (is_same aM _).mono ?_
  rintro e w1 ⟨rfl, rfl⟩
  go_wp2
  go_ret
  exact ⟨rfl, rfl⟩

theorem codeOfFault_wrapM {aF aR aS aM : Addr} (n lo hi : Int) (w : World) (h : Sents w aF aR aS aM) :
    Calls Tryd.prog 24 #[.iface 53 (.agg #[.int .i64 n, .int .i64 lo, .int .i64 hi, .iface 76 (.pointer (some aM))])] w fun e w' => e = .returned (.int .i64 9) ∧ Below w.heap.size w w' := by
  have H0 : Hid (Sents w aF aR aS aM) := h
  have k := h.cF
  clear h
  have B0 : Below w.heap.size w w := Below.refl _ _
  go_enter Tryd.func24, Tryd.ntmps24
  go_wp2_with fail
  obtain ⟨c1, t1, e1⟩ := H0.out.bM
  obtain ⟨c2, t2, e2⟩ := H0.out.bF
  refine (is_wrap_other n lo hi aM aF c1 c2 t1 t2 _ H0.out.nMF e1 e2).mono ?_
  clear e1 e2 c1 c2 t1 t2 k
  rintro e w1 ⟨rfl, hb⟩
  have H1 : Hid (Sents w1 aF aR aS aM) := H0.out.below hb
  have B1 : Below w.heap.size w w1 := B0.trans (hb.mono B0.size)
  have k := H1.out.cR
  clear hb
  go_wp2_with fail
  obtain ⟨c1, t1, e1⟩ := H1.out.bM
  obtain ⟨c2, t2, e2⟩ := H1.out.bR
  refine (is_wrap_other n lo hi aM aR c1 c2 t1 t2 _ H1.out.nMR e1 e2).mono ?_
  clear e1 e2 c1 c2 t1 t2 k
  rintro e w2 ⟨rfl, hb⟩
  have H2 : Hid (Sents w2 aF aR aS aM) := H1.out.below hb
  have B2 : Below w.heap.size w w2 := B1.trans (hb.mono B1.size)
  have k := H2.out.cS
  clear hb
  go_wp2_with fail
  obtain ⟨c1, t1, e1⟩ := H2.out.bM
  obtain ⟨c2, t2, e2⟩ := H2.out.bS
  refine (is_wrap_other n lo hi aM aS c1 c2 t1 t2 _ H2.out.nMS e1 e2).mono ?_
  clear e1 e2 c1 c2 t1 t2 k
  rintro e w3 ⟨rfl, hb⟩
  have H3 : Hid (Sents w3 aF aR aS aM) := H2.out.below hb
  have B3 : Below w.heap.size w w3 := B2.trans (hb.mono B2.size)
  have k := H3.out.cM
  clear hb
  go_wp2_with fail
  refine (is_wrap_same n lo hi aM _).mono ?_
  rintro e w9 ⟨rfl, hb⟩
  clear k
  go_wp2
  go_ret
  exact ⟨rfl, B3.trans (hb.mono B3.size)⟩

end Go.Proofs.YtgpnkjapgfkblaaDoor
