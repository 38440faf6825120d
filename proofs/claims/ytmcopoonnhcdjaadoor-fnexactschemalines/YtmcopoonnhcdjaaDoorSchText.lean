/-
  The lines of a schema, plainly, and that they tell the schema.
-/
import Derived.Test.YtmcopoonnhcdjaaDoorSchOK
namespace Go.Proofs.YtmcopoonnhcdjaaDoor
open Go.RowKit

theorem split_at {p : UInt8 → Prop} : ∀ {a a' r r' : List UInt8}, (∀ x ∈ a, p x) → (∀ x ∈ a', p x) → (∀ h t, r = h :: t → ¬ p h) → (∀ h t, r' = h :: t → ¬ p h) → a ++ r = a' ++ r' → a = a' ∧ r = r'
  | [], [], r, r', _, _, _, _, e => ⟨rfl, by simpa using e⟩
  | [], x :: a', r, r', _, h2, h3, _, e => absurd (h2 x (by simp)) (h3 x (a' ++ r') (by simpa using e))
  | x :: a, [], r, r', h1, _, _, h4, e => absurd (h1 x (by simp)) (h4 x (a ++ r) (by simpa using e.symm))
  | x :: a, y :: a', r, r', h1, h2, h3, h4, e => by
    simp only [List.cons_append, List.cons.injEq] at e
    obtain ⟨rfl, e⟩ := e
    obtain ⟨rfl, rfl⟩ := split_at (fun z hz => h1 z (by simp [hz])) (fun z hz => h2 z (by simp [hz])) h3 h4 e
    exact ⟨rfl, rfl⟩

def glue (c : UInt8) (ws : List (List UInt8)) : List UInt8 := ws.flatMap (c :: ·)

theorem glue_head {c : UInt8} {ws : List (List UInt8)} {h : UInt8} {t : List UInt8} (e : glue c ws = h :: t) : h = c := by
  cases ws with
  | nil => simp [glue] at e
  | cons w ws => simp only [glue, List.flatMap_cons, List.cons_append, List.cons.injEq] at e; exact e.1.symm

theorem glue_inj {c : UInt8} : ∀ {ws ws' : List (List UInt8)}, (∀ w ∈ ws, ∀ x ∈ w, x ≠ c) → (∀ w ∈ ws', ∀ x ∈ w, x ≠ c) → glue c ws = glue c ws' → ws = ws'
  | [], [], _, _, _ => rfl
  | [], w :: ws', _, _, e => by simp [glue] at e
  | w :: ws, [], _, _, e => by simp [glue] at e
  | w :: ws, w' :: ws', h1, h2, e => by
    have e' : w ++ glue c ws = w' ++ glue c ws' := by simpa [glue] using e
    obtain ⟨rfl, e2⟩ := split_at (p := (· ≠ c)) (h1 w (by simp)) (h2 w' (by simp)) (fun h t e => by simp [glue_head e]) (fun h t e => by simp [glue_head e]) e'
    rw [glue_inj (fun w hw => h1 w (by simp [hw])) (fun w hw => h2 w (by simp [hw])) e2]

theorem map_inj_on {α β : Type} {f : α → β} : ∀ {xs ys : List α}, (∀ x ∈ xs, ∀ y ∈ ys, f x = f y → x = y) → xs.map f = ys.map f → xs = ys
  | [], [], _, _ => rfl
  | [], _ :: _, _, e => by simp at e
  | _ :: _, [], _, e => by simp at e
  | x :: xs, y :: ys, h, e => by
    simp only [List.map_cons, List.cons.injEq] at e
    rw [h x (by simp) y (by simp) e.1, map_inj_on (fun a ha b hb => h a (by simp [ha]) b (by simp [hb])) e.2]

/-- What stands in no name. -/
def Plain (c : UInt8) : Prop := c ≠ 58 ∧ c ≠ 32 ∧ c ≠ 124 ∧ c ≠ 63 ∧ c ≠ 42 ∧ c ≠ 43

theorem plain_name {s : ByteArray} (h : NameP s) : ∀ c ∈ s.data.toList, Plain c := by
  intro c hc
  obtain ⟨j, hj, rfl⟩ := List.getElem_of_mem hc
  have hj' : j < s.size := by simpa using hj
  have := h.2.2.2 j hj'
  rw [byteAt_in hj'] at this
  have e : s[j] = s.data.toList[j] := by simp [ByteArray.getElem_eq_getElem_data]
  rw [e] at this
  refine ⟨?_, ?_, ?_, ?_, ?_, ?_⟩ <;> (intro e2; rw [e2] at this; revert this; decide)

def nm (l : List PRule) (k : Int) : List UInt8 := (nameAt l (k - 1).toNat).data.toList
def joinT (l : List PRule) : List Int → List UInt8
  | [] => []
  | k :: r => nm l k ++ glue 124 (r.map (nm l))
def markT (m : Int) : List UInt8 := if m = 1 then [63] else if m = 2 then [42] else if m = 3 then [43] else []
def termT (l : List PRule) (t : PTerm) : List UInt8 := joinT l t.kinds ++ markT t.many
def restT (l : List PRule) (x : PRule) : List UInt8 := (if x.leaf then [32, 116, 101, 120, 116] else []) ++ glue 32 (x.terms.map (termT l))
def lineT (l : List PRule) (x : PRule) : List UInt8 := x.name.data.toList ++ 58 :: restT l x

theorem joinT_glue (l : List PRule) {ks : List Int} (h : ks ≠ []) : 124 :: joinT l ks = glue 124 (ks.map (nm l)) := by
  cases ks with
  | nil => exact absurd rfl h
  | cons k r => rfl

theorem names_plain {l : List PRule} (h : SchemaP l) {k : Int} (h1 : 1 ≤ k) (h2 : k ≤ l.length) : (∀ c ∈ nm l k, Plain c) ∧ nm l k ≠ [116, 101, 120, 116] := by
  have hj : (k - 1).toNat < l.length := by omega
  have hm : l[(k - 1).toNat]?.getD ruleNil ∈ l := by rw [List.getElem?_eq_getElem hj]; exact List.getElem_mem hj
  have hr := h.rules _ hm
  refine ⟨plain_name hr.name, fun e => hr.other ?_⟩
  unfold nm nameAt at e
  refine ByteArray.ext (Array.ext' ?_)
  exact e

theorem nm_inj {l : List PRule} (h : SchemaP l) {k k' : Int} (h1 : 1 ≤ k) (h2 : k ≤ l.length) (h1' : 1 ≤ k') (h2' : k' ≤ l.length) (e : nm l k = nm l k') : k = k' := by
  have e' : nameAt l (k - 1).toNat = nameAt l (k' - 1).toNat := ByteArray.ext (Array.ext' e)
  rcases Nat.lt_trichotomy (k - 1).toNat (k' - 1).toNat with hlt | heq | hgt
  · exact absurd e' (h.names _ (by omega) _ hlt)
  · omega
  · exact absurd e'.symm (h.names _ (by omega) _ hgt)

theorem up_in {rules : Int} {t : PTerm} (h : TermP rules t) : ∀ k ∈ t.kinds, 1 ≤ k ∧ k ≤ rules := by
  intro k hk
  obtain ⟨j, hj, rfl⟩ := List.getElem_of_mem hk
  have := h.up j hj
  simp only [List.getElem?_eq_getElem hj, Option.getD_some] at this
  exact ⟨this.1, this.2.1⟩

/-- Between the names stands '|' alone. -/
def Tight (c : UInt8) : Prop := c ≠ 32 ∧ c ≠ 63 ∧ c ≠ 42 ∧ c ≠ 43
theorem Plain.tight {c : UInt8} (h : Plain c) : Tight c := ⟨h.2.1, h.2.2.2.1, h.2.2.2.2.1, h.2.2.2.2.2⟩

theorem join_tight {l : List PRule} {ks : List Int} (h : ∀ k ∈ ks, ∀ c ∈ nm l k, Plain c) : ∀ c ∈ joinT l ks, Tight c := by
  intro c hc
  cases ks with
  | nil => simp [joinT] at hc
  | cons k r =>
    simp only [joinT, glue, List.mem_append, List.mem_flatMap, List.mem_map, List.mem_cons] at hc
    rcases hc with hc | ⟨w, ⟨k2, hk2, rfl⟩, rfl | hc⟩
    · exact (h k (by simp) c hc).tight
    · exact ⟨by decide, by decide, by decide, by decide⟩
    · exact (h k2 (by simp [hk2]) c hc).tight

theorem mark_loose {m : Int} {h : UInt8} {t : List UInt8} (e : markT m = h :: t) : ¬ Tight h := by
  unfold markT at e
  rintro ⟨-, h1, h2, h3⟩
  split at e
  · exact h1 (by simp at e; exact e.1.symm)
  · split at e
    · exact h2 (by simp at e; exact e.1.symm)
    · split at e
      · exact h3 (by simp at e; exact e.1.symm)
      · simp at e

theorem mark_inj {m m' : Int} (h0 : 0 ≤ m) (h3 : m ≤ 3) (h0' : 0 ≤ m') (h3' : m' ≤ 3) (e : markT m = markT m') : m = m' := by
  obtain h | h | h | h : m = 0 ∨ m = 1 ∨ m = 2 ∨ m = 3 := by omega
  all_goals obtain h' | h' | h' | h' : m' = 0 ∨ m' = 1 ∨ m' = 2 ∨ m' = 3 := by omega
  all_goals (subst h; subst h'; first | rfl | simp [markT] at e)

theorem mark_no_blank {m : Int} : ∀ c ∈ markT m, c ≠ 32 := by
  unfold markT
  repeat' split
  all_goals (intro c hc; simp at hc; try (subst hc; decide))

theorem termT_inj {l : List PRule} (h : SchemaP l) {t t' : PTerm} (ht : TermP l.length t) (ht' : TermP l.length t') (e : termT l t = termT l t') : t = t' := by
  have hp : ∀ k ∈ t.kinds, ∀ c ∈ nm l k, Plain c := fun k hk => (names_plain h (up_in ht k hk).1 (up_in ht k hk).2).1
  have hp' : ∀ k ∈ t'.kinds, ∀ c ∈ nm l k, Plain c := fun k hk => (names_plain h (up_in ht' k hk).1 (up_in ht' k hk).2).1
  obtain ⟨ej, em⟩ := split_at (p := Tight) (join_tight hp) (join_tight hp') (fun _ _ => mark_loose) (fun _ _ => mark_loose) e
  have em' := mark_inj ht.many0 ht.many3 ht'.many0 ht'.many3 em
  have eg : glue 124 (t.kinds.map (nm l)) = glue 124 (t'.kinds.map (nm l)) := by rw [← joinT_glue l ht.some, ← joinT_glue l ht'.some, ej]
  have ek := glue_inj (by intro w hw x hx; obtain ⟨k, hk, rfl⟩ := List.mem_map.1 hw; exact (hp k hk x hx).2.2.1) (by intro w hw x hx; obtain ⟨k, hk, rfl⟩ := List.mem_map.1 hw; exact (hp' k hk x hx).2.2.1) eg
  have ek' := map_inj_on (fun k hk k' hk' e => nm_inj h (up_in ht k hk).1 (up_in ht k hk).2 (up_in ht' k' hk').1 (up_in ht' k' hk').2 e) ek
  cases t; cases t'; simp_all

theorem termT_no_blank {l : List PRule} (h : SchemaP l) {t : PTerm} (ht : TermP l.length t) : ∀ c ∈ termT l t, c ≠ 32 := by
  intro c hc
  rcases List.mem_append.1 hc with hc | hc
  · exact (join_tight (fun k hk => (names_plain h (up_in ht k hk).1 (up_in ht k hk).2).1) c hc).1
  · exact mark_no_blank c hc

theorem termT_not_text {l : List PRule} (h : SchemaP l) {t : PTerm} (ht : TermP l.length t) : termT l t ≠ [116, 101, 120, 116] := by
  intro e
  have hp : ∀ k ∈ t.kinds, ∀ c ∈ nm l k, Plain c := fun k hk => (names_plain h (up_in ht k hk).1 (up_in ht k hk).2).1
  have e1 : joinT l t.kinds ++ markT t.many = [116, 101, 120, 116] ++ [] := by simpa [termT] using e
  obtain ⟨ej, -⟩ := split_at (p := Tight) (join_tight hp) (by intro x hx; simp at hx; rcases hx with rfl | rfl | rfl | rfl <;> exact ⟨by decide, by decide, by decide, by decide⟩) (fun _ _ => mark_loose) (fun _ _ e => by cases e) e1
  have eg : glue 124 (t.kinds.map (nm l)) = glue 124 [[116, 101, 120, 116]] := by rw [← joinT_glue l ht.some, ej]; rfl
  have ek := glue_inj (by intro w hw x hx; obtain ⟨k, hk, rfl⟩ := List.mem_map.1 hw; exact (hp k hk x hx).2.2.1) (by intro w hw x hx; simp at hw; subst hw; simp at hx; rcases hx with rfl | rfl | rfl | rfl <;> decide) eg
  have hm : [116, 101, 120, 116] ∈ t.kinds.map (nm l) := by rw [ek]; simp
  obtain ⟨k, hk, e2⟩ := List.mem_map.1 hm
  exact (names_plain h (up_in ht k hk).1 (up_in ht k hk).2).2 e2

def wordsT (l : List PRule) (x : PRule) : List (List UInt8) := if x.leaf then [[116, 101, 120, 116]] else x.terms.map (termT l)

theorem restT_glue {l : List PRule} {x : PRule} (hx : RuleP l.length x) : restT l x = glue 32 (wordsT l x) := by
  unfold restT wordsT
  by_cases hl : x.leaf
  · rw [hx.leaf hl, if_pos hl, if_pos hl]; rfl
  · simp [hl]

theorem restT_inj {l : List PRule} (h : SchemaP l) {x y : PRule} (hx : RuleP l.length x) (hy : RuleP l.length y) (e : restT l x = restT l y) : x.leaf = y.leaf ∧ x.terms = y.terms := by
  have nb : ∀ z, RuleP l.length z → ∀ w ∈ wordsT l z, ∀ c ∈ w, c ≠ 32 := by
    intro z hz w hw c hc
    unfold wordsT at hw
    split at hw
    · simp at hw; subst hw; simp at hc; rcases hc with rfl | rfl | rfl | rfl <;> decide
    · obtain ⟨t, ht, rfl⟩ := List.mem_map.1 hw
      exact termT_no_blank h (hz.terms.all t ht) c hc
  rw [restT_glue hx, restT_glue hy] at e
  have ew := glue_inj (nb x hx) (nb y hy) e
  unfold wordsT at ew
  by_cases h1 : x.leaf = true
  · by_cases h2 : y.leaf = true
    · exact ⟨h1.trans h2.symm, by rw [hx.leaf h1, hy.leaf h2]⟩
    · rw [if_pos h1, if_neg h2] at ew
      have hm : [116, 101, 120, 116] ∈ y.terms.map (termT l) := by rw [← ew]; simp
      obtain ⟨t, ht, e2⟩ := List.mem_map.1 hm
      exact absurd e2 (termT_not_text h (hy.terms.all t ht))
  · by_cases h2 : y.leaf = true
    · rw [if_neg h1, if_pos h2] at ew
      have hm : [116, 101, 120, 116] ∈ x.terms.map (termT l) := by rw [ew]; simp
      obtain ⟨t, ht, e2⟩ := List.mem_map.1 hm
      exact absurd e2 (termT_not_text h (hx.terms.all t ht))
    · rw [if_neg h1, if_neg h2] at ew
      exact ⟨by simp_all, map_inj_on (fun a ha b hb => termT_inj h (hx.terms.all a ha) (hy.terms.all b hb)) ew⟩

theorem restT_names {l l' : List PRule} (h : ∀ j, nameAt l j = nameAt l' j) : restT l = restT l' := by
  have e1 : nm l = nm l' := by funext k; unfold nm; rw [h]
  have e2 : joinT l = joinT l' := by funext ks; cases ks <;> simp [joinT, e1]
  have e3 : termT l = termT l' := by funext t; simp [termT, e2]
  funext x; simp [restT, e3]

theorem rule_eq_iff' {x y : PRule} : x = y ↔ x.name = y.name ∧ x.leaf = y.leaf ∧ x.terms = y.terms := by
  cases x; cases y; simp

theorem lines_inj {l l' : List PRule} (h : SchemaP l) (h' : SchemaP l') (e : l.map (lineT l) = l'.map (lineT l')) : l = l' := by
  have hl : l.length = l'.length := by simpa using congrArg List.length e
  have hline : ∀ j (h1 : j < l.length) (h2 : j < l'.length), l[j].name = l'[j].name ∧ restT l l[j] = restT l' l'[j] := by
    intro j h1 h2
    have ej : lineT l l[j] = lineT l' l'[j] := by
      have := congrArg (fun z => z[j]?) e
      simpa [h1, h2] using this
    obtain ⟨en, er⟩ := split_at (p := (· ≠ 58)) (fun c hc => (plain_name (h.rules _ (List.getElem_mem h1)).name c hc).1) (fun c hc => (plain_name (h'.rules _ (List.getElem_mem h2)).name c hc).1) (fun _ _ e => by simp at e; simp [e.1]) (fun _ _ e => by simp at e; simp [e.1]) ej
    exact ⟨ByteArray.ext (Array.ext' en), by simpa using er⟩
  have hn : ∀ j, nameAt l j = nameAt l' j := by
    intro j
    unfold nameAt
    by_cases h1 : j < l.length
    · have h2 : j < l'.length := by omega
      simpa [h1, h2] using (hline j h1 h2).1
    · have h2 : ¬ j < l'.length := by omega
      simp [h1, h2]
  refine List.ext_getElem hl fun j h1 h2 => ?_
  obtain ⟨en, er⟩ := hline j h1 h2
  rw [← restT_names hn] at er
  obtain ⟨e1, e2⟩ := restT_inj h (h.rules _ (List.getElem_mem h1)) (by rw [hl]; exact h'.rules _ (List.getElem_mem h2)) er
  exact rule_eq_iff'.2 ⟨en, e1, e2⟩
end Go.Proofs.YtmcopoonnhcdjaaDoor
