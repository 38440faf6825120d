/-
  What takeNumber answers, the program's inner function, way by way (where the four variables hold four sentinels at different places). It makes new memory alone.
-/
import Derived.Test.YtgpnkjapgfkblaaDoorErrFault
namespace Go.Proofs.YtgpnkjapgfkblaaDoor
open Go.RowKit

set_option maxHeartbeats 1000000 in
set_option maxRecDepth 100000 in
theorem takeNumber_end0 {aF aR aS aM : Addr} (s : ByteArray) (a : Nat) (w : World) (hs : s.size ≤ 1048576) (h : Sents w aF aR aS aM)
    (h0 : a = s.size) :
    Calls Tryd.prog 28 #[.string s, .int .i64 (a : Int)] w fun e w' => TakeSays aF aR aS aM (take0 s a) e ∧ Below w.heap.size w w' := by
  have HT : Hid (take0 s a = _) := take_end0 (by omega)
  have kF := h.cF
  have kR := h.cR
  have kS := h.cS
  clear h
  have hz : ((a : Int) == (s.size : Int)) = true := beq_iff_eq.2 (by omega)
  have hle : a ≤ s.size := by omega
  clear h0
  go_enter Tryd.func28, Tryd.ntmps28
  go_wp2_with fail
  refine (checkInt_in _ _ _ _ _ (by omega) (by omega)).mono ?_
  rintro e w1 ⟨rfl, rfl⟩
  go_wp2
  refine wp_loop_rounds 1 ?_
  rw [rounds_succ]
  go_wp2
  go_region
  all_goals go_wp2
  all_goals go_ret3
  all_goals exact ⟨take_says HT.out fault_S, (Below.refl _ _).drew⟩

set_option maxHeartbeats 1000000 in
set_option maxRecDepth 100000 in
theorem takeNumber_zero {aF aR aS aM : Addr} (s : ByteArray) (a : Nat) (w : World) (hs : s.size ≤ 1048576) (h : Sents w aF aR aS aM)
    (h0 : a < s.size) (b0 : s[a].toNat = 0) :
    Calls Tryd.prog 28 #[.string s, .int .i64 (a : Int)] w fun e w' => TakeSays aF aR aS aM (take0 s a) e ∧ Below w.heap.size w w' := by
  have HT : Hid (take0 s a = _) := take_zero h0 b0
  have kF := h.cF
  have kR := h.cR
  have kS := h.cS
  clear h
  have l0 : s[a].toNat < 128 := by omega
  have z : ((s[a].toNat : Int) == 0) = true := beq_iff_eq.2 (by omega)
  have y : (s[a].toNat : Int) % 128 = 0 := by omega
  clear b0
  go_enter Tryd.func28, Tryd.ntmps28
  go_wp2_with fail
  refine (checkInt_in _ _ _ _ _ (by omega) (by omega)).mono ?_
  rintro e w1 ⟨rfl, rfl⟩
  go_wp2
  refine wp_loop_rounds 1 ?_
  rw [rounds_succ]
  go_wp2
  go_ret3
  exact ⟨take_says HT.out fault_nil, Below.refl _ _⟩

set_option maxHeartbeats 1000000 in
set_option maxRecDepth 100000 in
theorem takeNumber_one {aF aR aS aM : Addr} (s : ByteArray) (a : Nat) (w : World) (hs : s.size ≤ 1048576) (h : Sents w aF aR aS aM)
    (h0 : a < s.size) (b0 : s[a].toNat < 128) (z0 : ¬ s[a].toNat = 0) :
    Calls Tryd.prog 28 #[.string s, .int .i64 (a : Int)] w fun e w' => TakeSays aF aR aS aM (take0 s a) e ∧ Below w.heap.size w w' := by
  have HT : Hid (take0 s a = _) := take_one h0 b0
  have kF := h.cF
  have kR := h.cR
  have kS := h.cS
  clear h
  have l0 : s[a].toNat < 256 := UInt8.toNat_lt _
  have z : ((s[a].toNat : Int) == 0) = false := beq_eq_false_iff_ne.2 (by omega)
  go_enter Tryd.func28, Tryd.ntmps28
  go_wp2_with fail
  refine (checkInt_in _ _ _ _ _ (by omega) (by omega)).mono ?_
  rintro e w1 ⟨rfl, rfl⟩
  go_wp2
  refine wp_loop_rounds 1 ?_
  rw [rounds_succ]
  go_wp2
  go_ret3
  exact ⟨take_says HT.out fault_nil, Below.refl _ _⟩

set_option maxHeartbeats 1000000 in
set_option maxRecDepth 100000 in
theorem takeNumber_end1 {aF aR aS aM : Addr} (s : ByteArray) (a : Nat) (w : World) (hs : s.size ≤ 1048576) (h : Sents w aF aR aS aM)
    (h1 : a + 1 = s.size) (b0 : 128 ≤ s[a].toNat) :
    Calls Tryd.prog 28 #[.string s, .int .i64 (a : Int)] w fun e w' => TakeSays aF aR aS aM (take0 s a) e ∧ Below w.heap.size w w' := by
  have HT : Hid (take0 s a = _) := (take_on0 (by omega) b0).trans (take_end1 _ (by omega))
  have kF := h.cF
  have kR := h.cR
  have kS := h.cS
  clear h
  have l0 : s[a].toNat < 256 := UInt8.toNat_lt _
  have hz : ((a : Int) + 1 == (s.size : Int)) = true := beq_iff_eq.2 (by omega)
  have hle : a + 1 ≤ s.size := by omega
  go_enter Tryd.func28, Tryd.ntmps28
  go_wp2_with fail
  refine (checkInt_in _ _ _ _ _ (by omega) (by omega)).mono ?_
  rintro e w1 ⟨rfl, rfl⟩
  go_wp2
  refine wp_loop_rounds 2 ?_
  rw [rounds_succ]
  go_wp2
  rw [rounds_succ]
  go_wp2
  go_region
  all_goals go_wp2
  all_goals go_ret3
  all_goals exact ⟨take_says HT.out fault_S, (Below.refl _ _).drew⟩

set_option maxHeartbeats 1000000 in
set_option maxRecDepth 100000 in
theorem takeNumber_form1 {aF aR aS aM : Addr} (s : ByteArray) (a : Nat) (w : World) (hs : s.size ≤ 1048576) (h : Sents w aF aR aS aM)
    (h1 : a + 1 < s.size) (b0 : 128 ≤ s[a].toNat) (b1 : s[a + 1].toNat = 0) :
    Calls Tryd.prog 28 #[.string s, .int .i64 (a : Int)] w fun e w' => TakeSays aF aR aS aM (take0 s a) e ∧ Below w.heap.size w w' := by
  have HT : Hid (take0 s a = _) := (take_on0 (by omega) b0).trans (take_form1 _ h1 b1)
  have kF := h.cF
  have kR := h.cR
  have kS := h.cS
  clear h
  have l0 : s[a].toNat < 256 := UInt8.toNat_lt _
  have l1 : s[a + 1].toNat < 256 := UInt8.toNat_lt _
  have z : ((s[a + 1].toNat : Int) == 0) = true := beq_iff_eq.2 (by omega)
  have y : s[a + 1].toNat < 128 := by omega
  clear b1
  go_enter Tryd.func28, Tryd.ntmps28
  go_wp2_with fail
  refine (checkInt_in _ _ _ _ _ (by omega) (by omega)).mono ?_
  rintro e w1 ⟨rfl, rfl⟩
  go_wp2
  refine wp_loop_rounds 2 ?_
  rw [rounds_succ]
  go_wp2
  rw [rounds_succ]
  go_wp2
  go_region
  all_goals go_wp2
  all_goals go_ret3
  all_goals exact ⟨take_says HT.out fault_F, (Below.refl _ _).drew⟩

set_option maxHeartbeats 1000000 in
set_option maxRecDepth 100000 in
theorem takeNumber_two {aF aR aS aM : Addr} (s : ByteArray) (a : Nat) (w : World) (hs : s.size ≤ 1048576) (h : Sents w aF aR aS aM)
    (h1 : a + 1 < s.size) (b0 : 128 ≤ s[a].toNat) (b1 : s[a + 1].toNat < 128) (z1 : ¬ s[a + 1].toNat = 0) :
    Calls Tryd.prog 28 #[.string s, .int .i64 (a : Int)] w fun e w' => TakeSays aF aR aS aM (take0 s a) e ∧ Below w.heap.size w w' := by
  have HT : Hid (take0 s a = _) := (take_on0 (by omega) b0).trans (take_two _ h1 b1 z1)
  have kF := h.cF
  have kR := h.cR
  have kS := h.cS
  clear h
  have l0 : s[a].toNat < 256 := UInt8.toNat_lt _
  have l1 : s[a + 1].toNat < 256 := UInt8.toNat_lt _
  have z : ((s[a + 1].toNat : Int) == 0) = false := beq_eq_false_iff_ne.2 (by omega)
  go_enter Tryd.func28, Tryd.ntmps28
  go_wp2_with fail
  refine (checkInt_in _ _ _ _ _ (by omega) (by omega)).mono ?_
  rintro e w1 ⟨rfl, rfl⟩
  go_wp2
  refine wp_loop_rounds 2 ?_
  rw [rounds_succ]
  go_wp2
  rw [rounds_succ]
  go_wp2
  go_ret3
  exact ⟨take_says HT.out fault_nil, Below.refl _ _⟩

set_option maxHeartbeats 1000000 in
set_option maxRecDepth 100000 in
theorem takeNumber_end2 {aF aR aS aM : Addr} (s : ByteArray) (a : Nat) (w : World) (hs : s.size ≤ 1048576) (h : Sents w aF aR aS aM)
    (h2 : a + 2 = s.size) (b0 : 128 ≤ s[a].toNat) (b1 : 128 ≤ s[a + 1].toNat) :
    Calls Tryd.prog 28 #[.string s, .int .i64 (a : Int)] w fun e w' => TakeSays aF aR aS aM (take0 s a) e ∧ Below w.heap.size w w' := by
  have HT : Hid (take0 s a = _) := ((take_on0 (by omega) b0).trans (take_on1 _ (by omega) b1)).trans (take_end2 _ (by omega))
  have kF := h.cF
  have kR := h.cR
  have kS := h.cS
  clear h
  have l0 : s[a].toNat < 256 := UInt8.toNat_lt _
  have l1 : s[a + 1].toNat < 256 := UInt8.toNat_lt _
  have hz : ((a : Int) + 2 == (s.size : Int)) = true := beq_iff_eq.2 (by omega)
  have hle : a + 2 ≤ s.size := by omega
  go_enter Tryd.func28, Tryd.ntmps28
  go_wp2_with fail
  refine (checkInt_in _ _ _ _ _ (by omega) (by omega)).mono ?_
  rintro e w1 ⟨rfl, rfl⟩
  go_wp2
  refine wp_loop_rounds 3 ?_
  rw [rounds_succ]
  go_wp2
  rw [rounds_succ]
  go_wp2
  rw [rounds_succ]
  go_wp2
  go_region
  all_goals go_wp2
  all_goals go_ret3
  all_goals exact ⟨take_says HT.out fault_S, (Below.refl _ _).drew⟩

set_option maxHeartbeats 1000000 in
set_option maxRecDepth 100000 in
theorem takeNumber_form2 {aF aR aS aM : Addr} (s : ByteArray) (a : Nat) (w : World) (hs : s.size ≤ 1048576) (h : Sents w aF aR aS aM)
    (h2 : a + 2 < s.size) (b0 : 128 ≤ s[a].toNat) (b1 : 128 ≤ s[a + 1].toNat) (b2 : s[a + 2].toNat = 0) :
    Calls Tryd.prog 28 #[.string s, .int .i64 (a : Int)] w fun e w' => TakeSays aF aR aS aM (take0 s a) e ∧ Below w.heap.size w w' := by
  have HT : Hid (take0 s a = _) := ((take_on0 (by omega) b0).trans (take_on1 _ (by omega) b1)).trans (take_form2 _ h2 b2)
  have kF := h.cF
  have kR := h.cR
  have kS := h.cS
  clear h
  have l0 : s[a].toNat < 256 := UInt8.toNat_lt _
  have l1 : s[a + 1].toNat < 256 := UInt8.toNat_lt _
  have l2 : s[a + 2].toNat < 256 := UInt8.toNat_lt _
  have z : ((s[a + 2].toNat : Int) == 0) = true := beq_iff_eq.2 (by omega)
  have y : s[a + 2].toNat < 128 := by omega
  clear b2
  go_enter Tryd.func28, Tryd.ntmps28
  go_wp2_with fail
  refine (checkInt_in _ _ _ _ _ (by omega) (by omega)).mono ?_
  rintro e w1 ⟨rfl, rfl⟩
  go_wp2
  refine wp_loop_rounds 3 ?_
  rw [rounds_succ]
  go_wp2
  rw [rounds_succ]
  go_wp2
  rw [rounds_succ]
  go_wp2
  go_region
  all_goals go_wp2
  all_goals go_ret3
  all_goals exact ⟨take_says HT.out fault_F, (Below.refl _ _).drew⟩

set_option maxHeartbeats 1000000 in
set_option maxRecDepth 100000 in
theorem takeNumber_range2 {aF aR aS aM : Addr} (s : ByteArray) (a : Nat) (w : World) (hs : s.size ≤ 1048576) (h : Sents w aF aR aS aM)
    (h2 : a + 2 < s.size) (b0 : 128 ≤ s[a].toNat) (b1 : 128 ≤ s[a + 1].toNat) (b2 : 128 ≤ s[a + 2].toNat) :
    Calls Tryd.prog 28 #[.string s, .int .i64 (a : Int)] w fun e w' => TakeSays aF aR aS aM (take0 s a) e ∧ Below w.heap.size w w' := by
  have HT : Hid (take0 s a = _) := ((take_on0 (by omega) b0).trans (take_on1 _ (by omega) b1)).trans (take_range2 _ h2 b2)
  have kF := h.cF
  have kR := h.cR
  have kS := h.cS
  clear h
  have l0 : s[a].toNat < 256 := UInt8.toNat_lt _
  have l1 : s[a + 1].toNat < 256 := UInt8.toNat_lt _
  have l2 : s[a + 2].toNat < 256 := UInt8.toNat_lt _
  go_enter Tryd.func28, Tryd.ntmps28
  go_wp2_with fail
  refine (checkInt_in _ _ _ _ _ (by omega) (by omega)).mono ?_
  rintro e w1 ⟨rfl, rfl⟩
  go_wp2
  refine wp_loop_rounds 4 ?_
  rw [rounds_succ]
  go_wp2
  rw [rounds_succ]
  go_wp2
  rw [rounds_succ]
  go_wp2
  rw [rounds_succ]
  go_wp2
  go_region
  all_goals go_wp2
  all_goals go_ret3
  all_goals exact ⟨take_says HT.out fault_R, (Below.refl _ _).drew⟩

set_option maxHeartbeats 1000000 in
set_option maxRecDepth 100000 in
theorem takeNumber_great {aF aR aS aM : Addr} (s : ByteArray) (a : Nat) (w : World) (hs : s.size ≤ 1048576) (h : Sents w aF aR aS aM)
    (h2 : a + 2 < s.size) (b0 : 128 ≤ s[a].toNat) (b1 : 128 ≤ s[a + 1].toNat) (b2 : s[a + 2].toNat < 128) (z2 : ¬ s[a + 2].toNat = 0) (g : 999999 < (s[a].toNat : Int) % 128 + (s[a + 1].toNat : Int) % 128 * 128 + (s[a + 2].toNat : Int) % 128 * 16384) :
    Calls Tryd.prog 28 #[.string s, .int .i64 (a : Int)] w fun e w' => TakeSays aF aR aS aM (take0 s a) e ∧ Below w.heap.size w w' := by
  have HT : Hid (take0 s a = _) := ((take_on0 (by omega) b0).trans (take_on1 _ (by omega) b1)).trans (take_great _ h2 b2 z2 g)
  have kF := h.cF
  have kR := h.cR
  have kS := h.cS
  clear h
  have l0 : s[a].toNat < 256 := UInt8.toNat_lt _
  have l1 : s[a + 1].toNat < 256 := UInt8.toNat_lt _
  have l2 : s[a + 2].toNat < 256 := UInt8.toNat_lt _
  have z : ((s[a + 2].toNat : Int) == 0) = false := beq_eq_false_iff_ne.2 (by omega)
  go_enter Tryd.func28, Tryd.ntmps28
  go_wp2_with fail
  refine (checkInt_in _ _ _ _ _ (by omega) (by omega)).mono ?_
  rintro e w1 ⟨rfl, rfl⟩
  go_wp2
  refine wp_loop_rounds 3 ?_
  rw [rounds_succ]
  go_wp2
  rw [rounds_succ]
  go_wp2
  rw [rounds_succ]
  go_wp2
  go_ret3
  exact ⟨take_says HT.out (fault_wrapR _ _ _), Below.refl _ _⟩

set_option maxHeartbeats 1000000 in
set_option maxRecDepth 100000 in
theorem takeNumber_three {aF aR aS aM : Addr} (s : ByteArray) (a : Nat) (w : World) (hs : s.size ≤ 1048576) (h : Sents w aF aR aS aM)
    (h2 : a + 2 < s.size) (b0 : 128 ≤ s[a].toNat) (b1 : 128 ≤ s[a + 1].toNat) (b2 : s[a + 2].toNat < 128) (z2 : ¬ s[a + 2].toNat = 0) (g : ¬ 999999 < (s[a].toNat : Int) % 128 + (s[a + 1].toNat : Int) % 128 * 128 + (s[a + 2].toNat : Int) % 128 * 16384) :
    Calls Tryd.prog 28 #[.string s, .int .i64 (a : Int)] w fun e w' => TakeSays aF aR aS aM (take0 s a) e ∧ Below w.heap.size w w' := by
  have HT : Hid (take0 s a = _) := ((take_on0 (by omega) b0).trans (take_on1 _ (by omega) b1)).trans (take_three _ h2 b2 z2 g)
  have kF := h.cF
  have kR := h.cR
  have kS := h.cS
  clear h
  have l0 : s[a].toNat < 256 := UInt8.toNat_lt _
  have l1 : s[a + 1].toNat < 256 := UInt8.toNat_lt _
  have l2 : s[a + 2].toNat < 256 := UInt8.toNat_lt _
  have z : ((s[a + 2].toNat : Int) == 0) = false := beq_eq_false_iff_ne.2 (by omega)
  go_enter Tryd.func28, Tryd.ntmps28
  go_wp2_with fail
  refine (checkInt_in _ _ _ _ _ (by omega) (by omega)).mono ?_
  rintro e w1 ⟨rfl, rfl⟩
  go_wp2
  refine wp_loop_rounds 3 ?_
  rw [rounds_succ]
  go_wp2
  rw [rounds_succ]
  go_wp2
  rw [rounds_succ]
  go_wp2
  go_ret3
  exact ⟨take_says HT.out fault_nil, Below.refl _ _⟩

/-- takeNumber from a place within the text. -/
theorem takeNumber_in {aF aR aS aM : Addr} (s : ByteArray) (a : Nat) (w : World) (hs : s.size ≤ 1048576) (h : Sents w aF aR aS aM) (ha : a ≤ s.size) :
    Calls Tryd.prog 28 #[.string s, .int .i64 (a : Int)] w fun e w' => TakeSays aF aR aS aM (take0 s a) e ∧ Below w.heap.size w w' := by
  by_cases h0 : a = s.size
  · exact takeNumber_end0 s a w hs h h0
  have h0' : a < s.size := by omega
  by_cases b0 : s[a].toNat < 128
  · by_cases z0 : s[a].toNat = 0
    · exact takeNumber_zero s a w hs h h0' z0
    · exact takeNumber_one s a w hs h h0' b0 z0
  have b0' : 128 ≤ s[a].toNat := by omega
  by_cases h1 : a + 1 = s.size
  · exact takeNumber_end1 s a w hs h h1 b0'
  have h1' : a + 1 < s.size := by omega
  by_cases b1 : s[a + 1].toNat < 128
  · by_cases z1 : s[a + 1].toNat = 0
    · exact takeNumber_form1 s a w hs h h1' b0' z1
    · exact takeNumber_two s a w hs h h1' b0' b1 z1
  have b1' : 128 ≤ s[a + 1].toNat := by omega
  by_cases h2 : a + 2 = s.size
  · exact takeNumber_end2 s a w hs h h2 b0' b1'
  have h2' : a + 2 < s.size := by omega
  by_cases b2 : s[a + 2].toNat < 128
  · by_cases z2 : s[a + 2].toNat = 0
    · exact takeNumber_form2 s a w hs h h2' b0' b1' z2
    · by_cases g : 999999 < (s[a].toNat : Int) % 128 + (s[a + 1].toNat : Int) % 128 * 128 + (s[a + 2].toNat : Int) % 128 * 16384
      · exact takeNumber_great s a w hs h h2' b0' b1' b2 z2 g
      · exact takeNumber_three s a w hs h h2' b0' b1' b2 z2 g
  · exact takeNumber_range2 s a w hs h h2' b0' b1' (by omega)

/-- takeNumber from a place outside of the text. -/
theorem takeNumber_out {aF aR aS aM : Addr} (s : ByteArray) (n : Int) (w : World) (h : Sents w aF aR aS aM) (ha : ¬ (0 ≤ n ∧ n ≤ (s.size : Int))) :
    Calls Tryd.prog 28 #[.string s, .int .i64 n] w fun e w' => TakeSays aF aR aS aM (0, 0, 8) e ∧ Below w.heap.size w w' := by
  have kS := h.cS
  have HN : Hid (¬ (0 ≤ n ∧ n ≤ (s.size : Int))) := ha
  clear h ha
  go_enter Tryd.func28, Tryd.ntmps28
  go_wp2_with fail
  refine (checkInt_out _ _ _ aS _ HN.out).mono ?_
  rintro e w1 ⟨rfl, rfl⟩
  go_wp2
  go_ret3
  exact ⟨take_says rfl (fault_wrapS _ _ _), Below.refl _ _⟩
end Go.Proofs.YtgpnkjapgfkblaaDoor
