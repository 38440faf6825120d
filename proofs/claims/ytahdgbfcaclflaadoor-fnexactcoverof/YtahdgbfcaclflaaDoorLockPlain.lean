/-
  Modes of locks, plainly: what fits, the join of two, what is needed above, what is covered below. No program is named here.
-/
import Derived.Below
namespace Go.Proofs.YtahdgbfcaclflaaDoor

def fitsB (a b : Int) : Bool := decide (a = 0) || decide (b = 0) || (decide (a = 1) && decide (b ≠ 5)) || (decide (b = 1) && decide (a ≠ 5)) || (decide (a = 2) && decide (b = 2)) || (decide (a = 3) && decide (b = 3))
def joinI (a b : Int) : Int := if (a = 2 ∧ b = 3) ∨ (a = 3 ∧ b = 2) then 4 else max a b
def intentI (m : Int) : Int := if m = 0 then 0 else if m = 1 ∨ m = 3 then 1 else 2
def coverI (m : Int) : Int := if m = 3 ∨ m = 4 then 3 else if m = 5 then 5 else 0

/-- A mode. -/
def ModeP (m : Int) : Prop := 0 ≤ m ∧ m ≤ 5

theorem ModeP.ind {p : Int → Prop} {m : Int} (h : ModeP m) (h0 : p 0) (h1 : p 1) (h2 : p 2) (h3 : p 3) (h4 : p 4) (h5 : p 5) : p m := by
  obtain ⟨a, b⟩ := h
  rcases (by omega : m = 0 ∨ m = 1 ∨ m = 2 ∨ m = 3 ∨ m = 4 ∨ m = 5) with rfl | rfl | rfl | rfl | rfl | rfl <;> assumption

theorem fitsB_comm (a b : Int) : fitsB a b = fitsB b a := by
  rw [Bool.eq_iff_iff]
  simp only [fitsB, Bool.or_eq_true, Bool.and_eq_true, decide_eq_true_eq]
  omega

theorem joinI_comm (a b : Int) : joinI a b = joinI b a := by unfold joinI; split <;> split <;> omega
theorem joinI_mode {a b : Int} (ha : ModeP a) (hb : ModeP b) : ModeP (joinI a b) := by
  obtain ⟨a0, a1⟩ := ha; obtain ⟨b0, b1⟩ := hb
  unfold joinI ModeP; split <;> omega
theorem joinI_le {a b c : Int} (h : a ≤ b) (hn : ¬ (a = 2 ∧ b = 3)) (hc : c = b) : joinI a b = c := by unfold joinI; rw [if_neg (by omega)]; omega
theorem joinI_zero {a : Int} (h : 0 ≤ a) : joinI a 0 = a := by unfold joinI; rw [if_neg (by omega)]; omega
theorem joinI_zero' {a : Int} (h : 0 ≤ a) : joinI 0 a = a := by rw [joinI_comm]; exact joinI_zero h
theorem joinI_self {a : Int} : joinI a a = a := by unfold joinI; rw [if_neg (by omega)]; omega
theorem ModeP.cases {m : Int} (h : ModeP m) : m = 0 ∨ m = 1 ∨ m = 2 ∨ m = 3 ∨ m = 4 ∨ m = 5 := by
  obtain ⟨a, b⟩ := h
  omega

theorem joinI_assoc {a b c : Int} (ha : ModeP a) (hb : ModeP b) (hc : ModeP c) : joinI (joinI a b) c = joinI a (joinI b c) := by
  rcases ha.cases with rfl | rfl | rfl | rfl | rfl | rfl <;> rcases hb.cases with rfl | rfl | rfl | rfl | rfl | rfl <;> rcases hc.cases with rfl | rfl | rfl | rfl | rfl | rfl <;> decide

/-- a is no more than b. -/
def LeM (a b : Int) : Prop := joinI a b = b

theorem LeM.anti {a b : Int} (h : LeM a b) (k : LeM b a) : a = b := by unfold LeM at *; rw [joinI_comm] at k; omega
theorem leM_join_left {a b : Int} (ha : ModeP a) (hb : ModeP b) : LeM a (joinI a b) := by unfold LeM; rw [← joinI_assoc ha ha hb, joinI_self]
theorem leM_join_right {a b : Int} (ha : ModeP a) (hb : ModeP b) : LeM b (joinI a b) := by rw [joinI_comm]; exact leM_join_left hb ha
theorem leM_zero {a : Int} (h : 0 ≤ a) : LeM 0 a := joinI_zero' h
theorem leM_refl (a : Int) : LeM a a := joinI_self
theorem LeM.trans {a b c : Int} (ha : ModeP a) (hb : ModeP b) (hc : ModeP c) (h : LeM a b) (k : LeM b c) : LeM a c := by
  unfold LeM at *
  rw [← k, ← joinI_assoc ha hb hc, h]
theorem joinI_least {a b c : Int} (ha : ModeP a) (hb : ModeP b) (hc : ModeP c) (h : LeM a c) (k : LeM b c) : LeM (joinI a b) c := by
  unfold LeM at *
  rw [joinI_assoc ha hb hc, k, h]

/-- The join of a list of modes with one. -/
def joinL (m : Int) (l : List Int) : Int := l.foldl joinI m

theorem joinL_cons (m x : Int) (l : List Int) : joinL m (x :: l) = joinL (joinI m x) l := rfl

theorem joinL_mode : ∀ {l : List Int} {m : Int}, ModeP m → (∀ x ∈ l, ModeP x) → ModeP (joinL m l)
  | [], _, hm, _ => hm
  | x :: l, _, hm, h => joinL_mode (l := l) (joinI_mode hm (h x List.mem_cons_self)) (fun y hy => h y (List.mem_cons_of_mem _ hy))

theorem joinL_start : ∀ {l : List Int} {m : Int}, ModeP m → (∀ x ∈ l, ModeP x) → LeM m (joinL m l)
  | [], m, _, _ => leM_refl m
  | x :: l, _, hm, h => by
    have hx := h x List.mem_cons_self
    have hl := fun y hy => h y (List.mem_cons_of_mem x hy)
    rw [joinL_cons]
    exact LeM.trans hm (joinI_mode hm hx) (joinL_mode (joinI_mode hm hx) hl) (leM_join_left hm hx) (joinL_start (joinI_mode hm hx) hl)

theorem joinL_ge : ∀ {l : List Int} {m : Int}, ModeP m → (∀ x ∈ l, ModeP x) → ∀ x ∈ l, LeM x (joinL m l)
  | [], _, _, _, x, hx => by cases hx
  | y :: l, m, hm, h, x, hx => by
    have hy := h y List.mem_cons_self
    have hl := fun z hz => h z (List.mem_cons_of_mem y hz)
    rw [joinL_cons]
    rcases List.mem_cons.1 hx with rfl | hx
    · exact LeM.trans hy (joinI_mode hm hy) (joinL_mode (joinI_mode hm hy) hl) (leM_join_right hm hy) (joinL_start (joinI_mode hm hy) hl)
    · exact joinL_ge (joinI_mode hm hy) hl x hx

theorem joinL_least : ∀ {l : List Int} {m c : Int}, ModeP m → ModeP c → (∀ x ∈ l, ModeP x) → LeM m c → (∀ x ∈ l, LeM x c) → LeM (joinL m l) c
  | [], _, _, _, _, _, h, _ => h
  | x :: l, _, _, hm, hc, hl, h, k => by
    have hx := hl x List.mem_cons_self
    exact joinL_least (l := l) (joinI_mode hm hx) hc (fun y hy => hl y (List.mem_cons_of_mem _ hy)) (joinI_least hm hx hc h (k x List.mem_cons_self)) (fun y hy => k y (List.mem_cons_of_mem _ hy))

theorem joinL_snoc (m : Int) (l : List Int) (x : Int) : joinL m (l ++ [x]) = joinI (joinL m l) x := by simp [joinL]

/-- Two joins of which each has what the other has are one. -/
theorem joinL_same {m m' : Int} {l l' : List Int} (hm : ModeP m) (hm' : ModeP m') (hl : ∀ x ∈ l, ModeP x) (hl' : ∀ x ∈ l', ModeP x)
    (h1 : LeM m (joinL m' l')) (h2 : ∀ x ∈ l, LeM x (joinL m' l')) (h3 : LeM m' (joinL m l)) (h4 : ∀ x ∈ l', LeM x (joinL m l)) : joinL m l = joinL m' l' :=
  (joinL_least hm (joinL_mode hm' hl') hl h1 h2).anti (joinL_least hm' (joinL_mode hm hl) hl' h3 h4)

theorem intentI_mode (m : Int) : ModeP (intentI m) := by unfold intentI ModeP; split <;> try split
                                                         all_goals omega
theorem coverI_mode (m : Int) : ModeP (coverI m) := by unfold coverI ModeP; split <;> try split
                                                       all_goals omega
end Go.Proofs.YtahdgbfcaclflaaDoor
