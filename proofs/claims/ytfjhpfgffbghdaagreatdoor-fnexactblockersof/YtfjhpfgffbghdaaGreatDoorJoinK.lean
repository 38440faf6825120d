/-
  Tables of numbers and of answers yes or no, as laid: what their cells hold.
  What a row's list gives of the table of intentions.
  What the program's locks need of a node, and the join of it: what a session has there.
  What a row's list gives of the table of modes that fit.
  Whether another session's locks stand against a lock, as the program asks it: node by node, up to the root.
-/
import Derived.Test.YtfjhpfgffbghdaaGreatDoorRows
import Derived.OpenShut
import Derived.ChangeArms
import Derived.FnData
import Derived.MakeChecks
import Derived.Lib.LaidTab
import Derived.Below
import Derived.Test.YtfjhpfgffbghdaaGreatDoorJoinF
import Derived.Test.YtfjhpfgffbghdaaGreatDoorJoinJ
import Derived.Test.YtfjhpfgffbghdaaGreatDoorJoinH
import Derived.Test.YtfjhpfgffbghdaaGreatDoorJoinI
import Derived.Test.YtfjhpfgffbghdaaGreatDoorJoinC
namespace Go.Proofs.YtfjhpfgffbghdaaGreatDoor
open Go.RowKit

theorem int_elem {H : Type} {enc : TypeId × Value → H} {w : World} {base fuel : Nat} {sp : Nat → Bool} {held : Bool} {cs : List Value} {a : Int} {p : List MemPlace}
    (h : DataW.trod enc Tryz.prog w base sp held fuel 3 cs = some (.lit (.int .i64 a), p)) : cs = [.int .i64 a] := by
  obtain ⟨n1, h1, e1, _⟩ := DataW.trod_int Tryz.underlying3 h
  have e2 := (Prod.mk.inj e1).1
  simp only [DataW.lit.injEq, Lit.int.injEq, true_and] at e2
  rw [h1, e2]

theorem list6 {α : Type} : ∀ {l : List α}, l.length = 6 → ∃ a b c d e f, l = [a, b, c, d, e, f]
  | [a, b, c, d, e, f], _ => ⟨a, b, c, d, e, f, rfl⟩

theorem six_of {α : Type} {p : Nat → α → Prop} {l : List α} {a b c d e f : α} (hl : l = [a, b, c, d, e, f]) (h0 : p 0 a) (h1 : p 1 b) (h2 : p 2 c) (h3 : p 3 d) (h4 : p 4 e) (h5 : p 5 f) : ∀ j x, l[j]? = some x → p j x := by
  subst hl
  intro j x hx
  match j with
  | 0 => cases hx; exact h0
  | 1 => cases hx; exact h1
  | 2 => cases hx; exact h2
  | 3 => cases hx; exact h3
  | 4 => cases hx; exact h4
  | 5 => cases hx; exact h5
  | j + 6 => simp at hx

theorem take_one {α : Type} {l : List α} {j : Nat} {v : α} (h : (l.drop (j * 1)).take 1 = [v]) : l[j]? = some v := by
  have := congrArg (fun z => z[0]?) h
  simpa using this

set_option maxRecDepth 100000 in
/-- Six numbers in a row. -/
theorem row_ints6 {H : Type} {enc : TypeId × Value → H} {w : World} {base fuel : Nat} {sp : Nat → Bool} {held : Bool} {cs : List Value} {a b c d e f : Int} {p : List MemPlace}
    (h : DataW.trod enc Tryz.prog w base sp held fuel 184 cs = some (.agg [.lit (.int .i64 a), .lit (.int .i64 b), .lit (.int .i64 c), .lit (.int .i64 d), .lit (.int .i64 e), .lit (.int .i64 f)], p)) :
    ∀ (j : Nat) (x : Int), [a, b, c, d, e, f][j]? = some x → cs[j]? = some (Value.int .i64 x) := by
  have cI : Tryz.prog.cellsOf 3 = 1 := by kernel_rfl
  obtain ⟨xs, m, _, ex, hlen, hl, hel⟩ := DataW.trod_array Tryz.underlying184 h
  have e := (DataW.agg.inj (Prod.mk.inj ex).1)
  obtain ⟨⟨d0, p0⟩, ⟨d1, p1⟩, ⟨d2, p2⟩, ⟨d3, p3⟩, ⟨d4, p4⟩, ⟨d5, p5⟩, rfl⟩ := list6 hl
  simp only [List.map_cons, List.map_nil, List.cons.injEq, and_true] at e
  obtain ⟨q0, q1, q2, q3, q4, q5⟩ := e
  subst q0 q1 q2 q3 q4 q5
  have h0 := hel 0 (by decide)
  have h1 := hel 1 (by decide)
  have h2 := hel 2 (by decide)
  have h3 := hel 3 (by decide)
  have h4 := hel 4 (by decide)
  have h5 := hel 5 (by decide)
  rw [cI] at h0 h1 h2 h3 h4 h5
  exact six_of (p := fun j x => cs[j]? = some (.int .i64 x)) rfl (take_one (int_elem h0)) (take_one (int_elem h1)) (take_one (int_elem h2)) (take_one (int_elem h3)) (take_one (int_elem h4)) (take_one (int_elem h5))
end Go.Proofs.YtfjhpfgffbghdaaGreatDoor

namespace Go.Proofs.YtfjhpfgffbghdaaGreatDoor
open Go.RowKit

/-- The table of intentions, cell for cell. -/
def IntentsAt (w : World) : Prop := ∀ m : Nat, m < 6 → w.cell? ⟨1, m, none⟩ = some (.int .i64 (intentI m))

theorem IntentsAt.lt {w : World} (h : IntentsAt w) : 1 < w.heap.size := World.block_lt_of_cell? w _ (h 0 (by decide))
theorem IntentsAt.below {n : Nat} {w w' : World} (h : IntentsAt w) (hb : Below n w w') (hn : 1 < n) : IntentsAt w' := fun m hm => (hb.cell (p := ⟨_, _, none⟩) hn).trans (h m hm)

theorem six_cases {p : Nat → Prop} (h0 : p 0) (h1 : p 1) (h2 : p 2) (h3 : p 3) (h4 : p 4) (h5 : p 5) : ∀ m, m < 6 → p m := by
  intro m hm
  rcases (by omega : m = 0 ∨ m = 1 ∨ m = 2 ∨ m = 3 ∨ m = 4 ∨ m = 5) with rfl | rfl | rfl | rfl | rfl | rfl <;> assumption

set_option maxRecDepth 100000 in
theorem intentsAt_of_laid {W : World} {rest : List (String × DataW Unit)} (h : laidMet Tryz.prog (("loop.example/g00701/impl.intents", Rows.laid_loop_example_g00701_impl_intents) :: rest) W) : IntentsAt W := by
  obtain ⟨ps, ⟨g, t, cs, fuel, p, q, hg, ht, hv, hd, _, _⟩, _, _⟩ := h
  obtain rfl := Option.some.inj ((show Tryz.prog.globalNamed "loop.example/g00701/impl.intents" = some 1 by kernel_rfl).symm.trans hg)
  obtain rfl := Option.some.inj ((show (Tryz.prog.globals[1]?).map (·.type) = some 184 by kernel_rfl).symm.trans ht)
  have hd' : DataW.trod _ Tryz.prog W _ _ _ fuel 184 cs.toList = some (.agg [.lit (.int .i64 0), .lit (.int .i64 1), .lit (.int .i64 2), .lit (.int .i64 1), .lit (.int .i64 2), .lit (.int .i64 2)], p) := hd
  have hr := row_ints6 hd'
  have G : ∀ m (x : Int), [(0 : Int), 1, 2, 1, 2, 2][m]? = some x → W.cell? ⟨1, m, none⟩ = some (.int .i64 x) := fun m x hx => by
    rw [World.var?_cell hg hv, ← Array.getElem?_toList]; exact hr m x hx
  exact six_cases (p := fun m => W.cell? ⟨1, m, none⟩ = some (.int .i64 (intentI m))) (G 0 _ rfl) (G 1 _ rfl) (G 2 _ rfl) (G 3 _ rfl) (G 4 _ rfl) (G 5 _ rfl)
end Go.Proofs.YtfjhpfgffbghdaaGreatDoor

namespace Go.Proofs.YtfjhpfgffbghdaaGreatDoor
open Go.RowKit

theorem nat_modeN {m : Int} (h : ModeP m) : ∃ n : Nat, n < 6 ∧ m = n := ⟨m.toNat, by obtain ⟨a, b⟩ := h; omega, by obtain ⟨a, b⟩ := h; omega⟩

set_option maxHeartbeats 1000000 in
set_option maxRecDepth 100000 in
theorem needs_any (d : PDoc) (G : Good d) (n₀ tb : Nat) (ad : Int → Nat) (up : Int → Option Int) (kv : Int → Value) (x : PHold) (hx : HoldP d x) (i : Int) (hi : i ∈ idsOf d.nodes) (w : World) (hgr : Grown n₀ w d tb ad up kv) (hI : IntentsAt w) :
    Calls Tryz.prog 121 #[lockVal ad x, .pointer (some ⟨ad i, 0, none⟩)] w fun e w' => e = .returned (.int .i64 (partI d i x)) ∧ Below w.heap.size w w' := by
  obtain ⟨xs, xn, xm⟩ := x
  have hxn : xn ∈ idsOf d.nodes := hx.2.1
  have hW := (Below.refl w.heap.size w).alloc (Nat.le_refl _) (.cells #[.int .i64 xs, .int .i64 xm, .pointer (some ⟨ad xn, 0, none⟩)] 109)
  have hgr1 := hgr.below hW
  obtain ⟨r, hr⟩ : ∃ r, r = partI d i ⟨xs, xn, xm⟩ := ⟨_, rfl⟩
  rw [← hr]
  show Calls Tryz.prog 121 #[.agg #[.int .i64 xs, .int .i64 xm, .pointer (some ⟨ad xn, 0, none⟩)], .pointer (some ⟨ad i, 0, none⟩)] w fun e w' => e = .returned (.int .i64 r) ∧ Below w.heap.size w w'
  have HR := hide hr
  have hIlt := hI.lt
  by_cases hni : xn = i
  · have HE : Hid (r = xm) := HR.out.trans (partI_on hni)
    subst hni
    have hcmp := branch_same (ad xn) (w.alloc (.cells #[.int .i64 xs, .int .i64 xm, .pointer (some ⟨ad xn, 0, none⟩)] 109))
    clear hgr hgr1 hr hx
    go_enter Tryz.func121, Tryz.ntmps121
    go_wp2_with fail
    go_ret
    exact ⟨ret_int HE.out.symm, hW⟩
  · have hne : ad xn ≠ ad i := fun e => by
      obtain ⟨y, hy, rfl⟩ := node_of hxn
      obtain ⟨z, hz, rfl⟩ := node_of hi
      exact hni (hgr.hung.inj y hy z hz e)
    have hcmp := branch_other hgr1.hung hxn hi hne
    have HBl := hide (isBelow_any d G n₀ tb ad up kv xn i hxn hi _ hgr1)
    by_cases hab : i ∈ upsOf d xn
    · have HE : Hid (r = intentI xm) := HR.out.trans (partI_above hni hab)
      have hb1 : aboveB d xn i = true := (aboveB_iff G hxn hni).2 hab
      rw [hb1] at HBl
      obtain ⟨m, hm, rfl⟩ := nat_modeN (show ModeP xm from hx.modeP)
      have hc := hI m hm
      clear hni hgr hgr1 hr hx hab hI hb1
      generalize intentI (m : Int) = z at *
      go_enter Tryz.func121, Tryz.ntmps121
      go_wp2_with (go_at_call 103; refine HBl.out.mono ?_; rintro e w' ⟨rfl, rfl⟩)
      go_ret
      exact ⟨ret_int HE.out.symm, hW⟩
    · have HE : Hid (r = 0) := HR.out.trans (partI_off hni hab)
      have hb1 : aboveB d xn i = false := by rw [← Bool.not_eq_true, aboveB_iff G hxn hni]; exact hab
      rw [hb1] at HBl
      clear hni hgr hgr1 hr hx hab hI hb1
      go_enter Tryz.func121, Tryz.ntmps121
      go_wp2_with (go_at_call 103; refine HBl.out.mono ?_; rintro e w' ⟨rfl, rfl⟩)
      go_ret
      exact ⟨ret_int HE.out.symm, hW⟩

set_option maxHeartbeats 2000000 in
set_option maxRecDepth 100000 in
theorem joinedNeeds_any (d : PDoc) (G : Good d) (n₀ n₁ lb tb : Nat) (ad : Int → Nat) (up : Int → Option Int) (kv : Int → Value) (L : List PHold) (hL : HoldsP d L) (s i : Int) (hi : i ∈ idsOf d.nodes) (w : World) (hgr : Grown n₀ w d tb ad up kv) (hlk : LocksAt n₁ w lb tb ad L) (hn : n₁ ≤ w.heap.size) (hI : IntentsAt w) :
    Calls Tryz.prog 138 #[.pointer (some ⟨lb, 0, none⟩), .int .i64 s, .pointer (some ⟨ad i, 0, none⟩), .func (.func 121) #[] #[]] w fun e w' => e = .returned (.int .i64 (modeAtP d L s i)) ∧ Below w.heap.size w w' := by
  have HGr := hide hgr
  have HI := hide hI
  have hIlt := hI.lt
  have hl30 := hL.len
  obtain ⟨hlb, hc0, a, cap, hc1, hk⟩ := hlk
  have hlb2 : lb < w.heap.size := by omega
  clear hgr hI
  go_enter Tryz.func138, Tryz.ntmps138
  go_wp2_with fail
  go_loopw [9, 17] (fun m idx wr => ∃ k : Nat, k ≤ L.length ∧ m = .int .i64 (joinedOf (partI d i) (L.take k) s) ∧ idx = .int .i64 k ∧ Below w.heap.size w wr) (fun _ idx _ => L.length - (intOf idx).toNat)
  case atStart => exact ⟨0, Nat.zero_le _, rfl, rfl, Below.refl _ _⟩
  case round =>
    obtain ⟨k, hkl, rfl, rfl, hbr⟩ := hrel
    have hsz := hbr.size
    by_cases hlt : k < L.length
    · obtain ⟨b, rfl, hb, hc⟩ := hk.resolve_left (by intro e; simp [e] at hlt)
      have hA := (hc k hlt).below (by omega) hbr
      have g0 := hA.c0
      have g1 := hA.c1
      have g2 := hA.c2
      have hxm := at_mem hlt
      have hxh := hL.mode _ hxm
      have hlt1 : (k : Int) < (L.length : Int) := by omega
      have hbl : b < wr.heap.size := by omega
      have hM : ModeP (joinedOf (partI d i) (L.take k) s) := joinedOf_mode (take_mem fun y hy => partI_mode (hL.mode y hy).modeP)
      have HHit := hide (@joinedOf_hit (partI d i) L s k hlt)
      have HMiss := hide (@joinedOf_miss (partI d i) L s k hlt)
      generalize L[k]?.getD holdNil = x at *
      have hb1 : Below wr.heap.size wr (wr.alloc (.cells #[.int .i64 x.session, .int .i64 x.mode, .pointer (some ⟨ad x.node, 0, none⟩)] 109)) := (Below.refl _ _).alloc (Nat.le_refl _) _
      have hb2 : Below w.heap.size w (wr.alloc (.cells #[.int .i64 x.session, .int .i64 x.mode, .pointer (some ⟨ad x.node, 0, none⟩)] 109)) := hbr.trans (hb1.mono hsz)
      have HNd := hide (needs_any d G n₀ tb ad up kv x hxh i hi _ (HGr.out.below hb2) (HI.out.below hb2 hIlt))
      have hPm := partI_mode (d := d) (i := i) hxh.modeP
      have hJm := joinI_mode hM hPm
      have HJ := hide (fun wx => implJoin_any (joinedOf (partI d i) (L.take k) s) (partI d i x) hM hPm wx)
      clear hc hk hA
      by_cases hss : x.session = s
      · have HE := hide (HHit.out hss)
        have hse : (x.session == s) = true := by simp [hss]
        clear hss HHit HMiss
        generalize joinedOf (partI d i) (L.take k) s = m0 at *
        generalize partI d i x = p0 at *
        go_wp2_with fail
        refine HNd.out.mono ?_
        rintro e w3 ⟨rfl, hb3⟩
        simp only [World.size_alloc] at hb3
        have hs3 := hb3.size
        go_wp2_with (go_at_call 93; refine (HJ.out _).mono ?_; rintro e w' ⟨rfl, rfl⟩)
        exact ⟨⟨k + 1, by omega, by rw [HE.out], by go_num, hb2.trans (hb3.mono (by omega))⟩, by simp [intOf]; omega⟩
      · have HE := hide (HMiss.out hss)
        have hse : (x.session == s) = false := by simp [hss]
        clear hss HHit HMiss
        generalize joinedOf (partI d i) (L.take k) s = m0 at *
        go_wp2_with fail
        exact ⟨⟨k + 1, by omega, by rw [HE.out], by go_num, hb2⟩, by simp [intOf]; omega⟩
    · have HF : Hid (joinedOf (partI d i) (L.take k) s = modeAtP d L s i) := by rw [Hid, List.take_of_length_le (by omega)]; rfl
      clear hk
      generalize joinedOf (partI d i) (L.take k) s = m0 at *
      go_wp2_with fail
      go_ret
      exact ⟨ret_int HF.out, hbr⟩

set_option maxHeartbeats 400000 in
theorem modeAt_any (d : PDoc) (G : Good d) (n₀ n₁ lb tb : Nat) (ad : Int → Nat) (up : Int → Option Int) (kv : Int → Value) (L : List PHold) (hL : HoldsP d L) (s i : Int) (hi : i ∈ idsOf d.nodes) (w : World) (hgr : Grown n₀ w d tb ad up kv) (hlk : LocksAt n₁ w lb tb ad L) (hn : n₁ ≤ w.heap.size) (hI : IntentsAt w) :
    Calls Tryz.prog 120 #[.pointer (some ⟨lb, 0, none⟩), .int .i64 s, .pointer (some ⟨ad i, 0, none⟩)] w fun e w' => e = .returned (.int .i64 (modeAtP d L s i)) ∧ Below w.heap.size w w' := by
  have HJ := hide (joinedNeeds_any d G n₀ n₁ lb tb ad up kv L hL s i hi w hgr hlk hn hI)
  clear hgr hlk hI
  go_enter Tryz.func120, Tryz.ntmps120
  go_wp2_with (go_at_call 138; refine HJ.out.mono ?_; rintro e w' ⟨rfl, hb⟩)
  go_ret
  exact ⟨rfl, hb⟩
end Go.Proofs.YtfjhpfgffbghdaaGreatDoor

namespace Go.Proofs.YtfjhpfgffbghdaaGreatDoor
open Go.RowKit

/-- The table of what fits, cell for cell. -/
def FitsAt (w : World) : Prop := ∀ a b : Nat, a < 6 → b < 6 → w.cell? ⟨0, a * 6 + b, none⟩ = some (.bool (fitsB a b))

theorem FitsAt.lt {w : World} (h : FitsAt w) : 0 < w.heap.size := World.block_lt_of_cell? w _ (h 0 0 (by decide) (by decide))
theorem FitsAt.below {n : Nat} {w w' : World} (h : FitsAt w) (hb : Below n w w') (hn : 0 < n) : FitsAt w' := fun a b ha hb' => (hb.cell (p := ⟨_, _, none⟩) hn).trans (h a b ha hb')

theorem bool_elem {H : Type} {enc : TypeId × Value → H} {w : World} {base fuel : Nat} {sp : Nat → Bool} {held : Bool} {cs : List Value} {a : Bool} {p : List MemPlace}
    (h : DataW.trod enc Tryz.prog w base sp held fuel 4 cs = some (.lit (.bool a), p)) : cs = [.bool a] := by
  obtain ⟨n1, h1, e1⟩ := DataW.trod_bool Tryz.underlying4 h
  have e2 := (Prod.mk.inj e1).1
  simp only [DataW.lit.injEq, Lit.bool.injEq] at e2
  rw [h1, e2]

set_option maxRecDepth 100000 in
/-- Six answers in a row. -/
theorem row_bools6 {H : Type} {enc : TypeId × Value → H} {w : World} {base fuel : Nat} {sp : Nat → Bool} {held : Bool} {cs : List Value} {a b c d e f : Bool} {p : List MemPlace}
    (h : DataW.trod enc Tryz.prog w base sp held fuel 154 cs = some (.agg [.lit (.bool a), .lit (.bool b), .lit (.bool c), .lit (.bool d), .lit (.bool e), .lit (.bool f)], p)) :
    ∀ (j : Nat) (x : Bool), [a, b, c, d, e, f][j]? = some x → cs[j]? = some (Value.bool x) := by
  have cI : Tryz.prog.cellsOf 4 = 1 := by kernel_rfl
  obtain ⟨xs, m, _, ex, hlen, hl, hel⟩ := DataW.trod_array Tryz.underlying154 h
  have e := (DataW.agg.inj (Prod.mk.inj ex).1)
  obtain ⟨⟨d0, p0⟩, ⟨d1, p1⟩, ⟨d2, p2⟩, ⟨d3, p3⟩, ⟨d4, p4⟩, ⟨d5, p5⟩, rfl⟩ := list6 hl
  simp only [List.map_cons, List.map_nil, List.cons.injEq, and_true] at e
  obtain ⟨q0, q1, q2, q3, q4, q5⟩ := e
  subst q0 q1 q2 q3 q4 q5
  have h0 := hel 0 (by decide)
  have h1 := hel 1 (by decide)
  have h2 := hel 2 (by decide)
  have h3 := hel 3 (by decide)
  have h4 := hel 4 (by decide)
  have h5 := hel 5 (by decide)
  rw [cI] at h0 h1 h2 h3 h4 h5
  exact six_of (p := fun j x => cs[j]? = some (.bool x)) rfl (take_one (bool_elem h0)) (take_one (bool_elem h1)) (take_one (bool_elem h2)) (take_one (bool_elem h3)) (take_one (bool_elem h4)) (take_one (bool_elem h5))

theorem take_six {α : Type} {l : List α} {a b : Nat} (hb : b < 6) {v : α} (h : ((l.drop (a * 6)).take 6)[b]? = some v) : l[a * 6 + b]? = some v := by
  rwa [List.getElem?_take, if_pos hb, List.getElem?_drop] at h

theorem six_six {p : Nat → Nat → Prop} (h : ∀ b, b < 6 → p 0 b ∧ p 1 b ∧ p 2 b ∧ p 3 b ∧ p 4 b ∧ p 5 b) : ∀ a b, a < 6 → b < 6 → p a b := by
  intro a b ha hb
  obtain ⟨h0, h1, h2, h3, h4, h5⟩ := h b hb
  rcases (by omega : a = 0 ∨ a = 1 ∨ a = 2 ∨ a = 3 ∨ a = 4 ∨ a = 5) with rfl | rfl | rfl | rfl | rfl | rfl <;> assumption

theorem six_row {p : Nat → Prop} (h0 : p 0) (h1 : p 1) (h2 : p 2) (h3 : p 3) (h4 : p 4) (h5 : p 5) : ∀ m, m < 6 → p m := by
  intro m hm
  rcases (by omega : m = 0 ∨ m = 1 ∨ m = 2 ∨ m = 3 ∨ m = 4 ∨ m = 5) with rfl | rfl | rfl | rfl | rfl | rfl <;> assumption

set_option maxRecDepth 100000 in
theorem fitsAt_of_laid {W : World} {rest : List (String × DataW Unit)} (h : laidMet Tryz.prog (("loop.example/g00701/impl.fits", Rows.laid_loop_example_g00701_impl_fits) :: rest) W) : FitsAt W := by
  obtain ⟨ps, ⟨g, t, cs, fuel, p, q, hg, ht, hv, hd, _, _⟩, _, _⟩ := h
  obtain rfl := Option.some.inj ((show Tryz.prog.globalNamed "loop.example/g00701/impl.fits" = some 0 by kernel_rfl).symm.trans hg)
  obtain rfl := Option.some.inj ((show (Tryz.prog.globals[0]?).map (·.type) = some 155 by kernel_rfl).symm.trans ht)
  have cR : Tryz.prog.cellsOf 154 = 6 := by kernel_rfl
  have hd' : DataW.trod _ Tryz.prog W _ _ _ fuel 155 cs.toList = some (.agg [.agg [.lit (.bool true), .lit (.bool true), .lit (.bool true), .lit (.bool true), .lit (.bool true), .lit (.bool true)], .agg [.lit (.bool true), .lit (.bool true), .lit (.bool true), .lit (.bool true), .lit (.bool true), .lit (.bool false)], .agg [.lit (.bool true), .lit (.bool true), .lit (.bool true), .lit (.bool false), .lit (.bool false), .lit (.bool false)], .agg [.lit (.bool true), .lit (.bool true), .lit (.bool false), .lit (.bool true), .lit (.bool false), .lit (.bool false)], .agg [.lit (.bool true), .lit (.bool true), .lit (.bool false), .lit (.bool false), .lit (.bool false), .lit (.bool false)], .agg [.lit (.bool true), .lit (.bool false), .lit (.bool false), .lit (.bool false), .lit (.bool false), .lit (.bool false)]], p) := hd
  obtain ⟨xs, m, _, ex, hlen, hl, hel⟩ := DataW.trod_array Tryz.underlying155 hd'
  have e := (DataW.agg.inj (Prod.mk.inj ex).1)
  obtain ⟨⟨d0, p0⟩, ⟨d1, p1⟩, ⟨d2, p2⟩, ⟨d3, p3⟩, ⟨d4, p4⟩, ⟨d5, p5⟩, rfl⟩ := list6 hl
  simp only [List.map_cons, List.map_nil, List.cons.injEq, and_true] at e
  obtain ⟨q0, q1, q2, q3, q4, q5⟩ := e
  subst q0 q1 q2 q3 q4 q5
  have h0 := hel 0 (by decide)
  have h1 := hel 1 (by decide)
  have h2 := hel 2 (by decide)
  have h3 := hel 3 (by decide)
  have h4 := hel 4 (by decide)
  have h5 := hel 5 (by decide)
  rw [cR] at h0 h1 h2 h3 h4 h5
  have r0 := row_bools6 h0
  have r1 := row_bools6 h1
  have r2 := row_bools6 h2
  have r3 := row_bools6 h3
  have r4 := row_bools6 h4
  have r5 := row_bools6 h5
  have G : ∀ a b x, b < 6 → ((cs.toList.drop (a * 6)).take 6)[b]? = some (.bool x) → W.cell? ⟨0, a * 6 + b, none⟩ = some (.bool x) := fun a b x hb hx => by
    rw [World.var?_cell hg hv, ← Array.getElem?_toList]; exact take_six hb hx
  refine six_six (p := fun a b => W.cell? ⟨0, a * 6 + b, none⟩ = some (.bool (fitsB a b))) ?_
  refine six_row ?_ ?_ ?_ ?_ ?_ ?_
  all_goals exact ⟨G 0 _ _ (by decide) (r0 _ _ rfl), G 1 _ _ (by decide) (r1 _ _ rfl), G 2 _ _ (by decide) (r2 _ _ rfl), G 3 _ _ (by decide) (r3 _ _ rfl), G 4 _ _ (by decide) (r4 _ _ rfl), G 5 _ _ (by decide) (r5 _ _ rfl)⟩
end Go.Proofs.YtfjhpfgffbghdaaGreatDoor

namespace Go.Proofs.YtfjhpfgffbghdaaGreatDoor
open Go.RowKit

set_option maxHeartbeats 2000000 in
set_option maxRecDepth 100000 in
theorem modeWith_any (d : PDoc) (G : Good d) (n₀ n₁ lb tb : Nat) (ad : Int → Nat) (up : Int → Option Int) (kv : Int → Value) (L : List PHold) (hL : HoldsP d L) (x : PHold) (hx : HoldP d x) (i : Int) (hi : i ∈ upsOf d x.node) (w : World) (hgr : Grown n₀ w d tb ad up kv) (hlk : LocksAt n₁ w lb tb ad L) (hn : n₁ ≤ w.heap.size) (hI : IntentsAt w) :
    Calls Tryz.prog 104 #[.pointer (some ⟨lb, 0, none⟩), lockVal ad x, .pointer (some ⟨ad i, 0, none⟩)] w fun e w' => e = .returned (.int .i64 (joinI (modeAtP d L x.session i) (needI x i))) ∧ Below w.heap.size w w' := by
  have hin : i ∈ idsOf d.nodes := upsOf_in G hx.2.1 i hi
  obtain ⟨W0, hW0⟩ : ∃ W0, W0 = w.alloc (.cells #[.int .i64 x.session, .int .i64 x.mode, .pointer (some ⟨ad x.node, 0, none⟩)] 109) := ⟨_, rfl⟩
  have hw0 : Below w.heap.size w W0 := by rw [hW0]; exact (Below.refl w.heap.size w).alloc (Nat.le_refl _) _
  have hs0 : W0.heap.size = w.heap.size + 1 := by rw [hW0]; simp
  have hh0 : W0.heap[w.heap.size]? = some (.cells #[.int .i64 x.session, .int .i64 x.mode, .pointer (some ⟨ad x.node, 0, none⟩)] 109 (0, 0)) := by
    rw [hW0]; exact alloc_new w _
  have y0 := cell_of_heap hh0 0
  have y1 := cell_of_heap hh0 1
  have y2 := cell_of_heap hh0 2
  simp only [List.getElem?_toArray, List.getElem?_cons_succ, List.getElem?_cons_zero] at y0 y1 y2
  have hz : w.heap.size < W0.heap.size := by omega
  have hzl : w.heap.size ≤ W0.heap.size := by omega
  have HMo : ModeP (modeAtP d L x.session i) := modeAtP_mode (fun x hx => (hL.mode x hx).modeP) _ i
  have HNm := needI_mode hx.modeP i
  have HMa : Hid (∀ t : Calm W0, Calls Tryz.prog 120 #[.pointer (some ⟨lb, 0, none⟩), .int .i64 x.session, .pointer (some ⟨ad i, 0, none⟩)] t.out fun e w' => e = .returned (.int .i64 (modeAtP d L x.session i)) ∧ Below t.out.heap.size t.out w') := fun t => by
    have hb := hw0.trans (t.below.mono hzl)
    exact modeAt_any d G n₀ w.heap.size lb tb ad up kv L hL x.session i hin t.out (hgr.below hb) ((hlk.below hn (hb.mono hn)).below (Nat.le_refl _) (Below.refl _ _)) hb.size (hI.below hb hI.lt)
  have HNd : Hid (∀ t : Calm W0, Calls Tryz.prog 121 #[lockVal ad x, .pointer (some ⟨ad i, 0, none⟩)] t.out fun e w' => e = .returned (.int .i64 (needI x i)) ∧ Below t.out.heap.size t.out w') := fun t => by
    have hb := hw0.trans (t.below.mono hzl)
    have := needs_any d G n₀ tb ad up kv x hx i hin t.out (hgr.below hb) (hI.below hb hI.lt)
    rwa [needI_part hi] at this
  have HJo : Hid (∀ t : Calm W0, Calls Tryz.prog 93 #[.int .i64 (modeAtP d L x.session i), .int .i64 (needI x i)] t.out fun e w' => e = .returned (.int .i64 (joinI (modeAtP d L x.session i) (needI x i))) ∧ w' = t.out) := fun t => implJoin_any _ _ HMo HNm t.out
  have HW0 := hide hw0
  have hcal := calm_cell W0
  clear hgr hlk hI hs0 hh0 hw0 HMo HNm
  generalize joinI (modeAtP d L x.session i) (needI x i) = z at *
  generalize modeAtP d L x.session i = m1 at *
  generalize needI x i = m2 at *
  go_enter Tryz.func104, Tryz.ntmps104
  go_wp2_with fail
  rw [← hW0]
  clear hW0
  refine wp_region_calm (by kernel_rfl) (by kernel_rfl) ?_
  repeat (go_big_quiet_step (first | (go_at_call 120; exact calm_of (HMa.out _)) | (go_at_call 121; exact calm_of (HNd.out _)) | (go_at_call 93; exact calm_of_same (HJo.out _))))
  refine wpQuiet_nil ?_
  rintro _ ⟨t, rfl⟩
  have ht := t.below
  go_wp2_with fail
  go_ret
  exact ⟨rfl, HW0.out.trans (ht.mono hzl)⟩

set_option maxHeartbeats 4000000 in
set_option maxRecDepth 100000 in
theorem standsAgainst_any (d : PDoc) (G : Good d) (n₀ n₁ lb tb : Nat) (ad : Int → Nat) (up : Int → Option Int) (kv : Int → Value) (L : List PHold) (hL : HoldsP d L) (x : PHold) (hx : HoldP d x) (o : Int) (w : World) (hgr : Grown n₀ w d tb ad up kv) (hlk : LocksAt n₁ w lb tb ad L) (hn : n₁ ≤ w.heap.size) (hF : FitsAt w) (hI : IntentsAt w) (r : Bool) (hr : r = true ↔ ClashP d L x o) :
    Calls Tryz.prog 102 #[.pointer (some ⟨lb, 0, none⟩), .int .i64 o, lockVal ad x] w fun e w' => e = .returned (.bool r) ∧ Below w.heap.size w w' := by
  obtain ⟨q, hq⟩ := G.dep hx.2.1
  have hpos : 0 ≤ x.node := by
    have := (show Left d x.node (upsOf d x.node) from .inl ⟨q, hq, upsOf_eq G hq⟩).pos G
    exact this
  have hne : x.node ≠ 0 := fun e => by
    have h1 := upsOf_self G hx.2.1
    have h2 : Left d x.node (upsOf d x.node) := .inl ⟨q, hq, upsOf_eq G hq⟩
    rw [e] at h1 h2
    rw [h2.done G] at h1
    cases h1
  obtain ⟨W0, hW0⟩ : ∃ W0, W0 = w.alloc (.cells #[.int .i64 x.session, .int .i64 x.mode, .pointer (some ⟨ad x.node, 0, none⟩)] 109) := ⟨_, rfl⟩
  have hw0 : Below w.heap.size w W0 := by rw [hW0]; exact (Below.refl w.heap.size w).alloc (Nat.le_refl _) _
  have hs0 : W0.heap.size = w.heap.size + 1 := by rw [hW0]; simp
  have hh0 : W0.heap[w.heap.size]? = some (.cells #[.int .i64 x.session, .int .i64 x.mode, .pointer (some ⟨ad x.node, 0, none⟩)] 109 (0, 0)) := by
    rw [hW0]; exact alloc_new w _
  have hzl : w.heap.size + 1 ≤ W0.heap.size := by omega
  have HOld : Hid (∀ wx, Below W0.heap.size W0 wx → Below w.heap.size w wx ∧ w.heap.size + 1 ≤ wx.heap.size) := fun wx hb => ⟨hw0.trans (hb.mono (by omega)), by have := hb.size; omega⟩
  have HB : Hid (∀ wx, Below W0.heap.size W0 wx → wx.cell? ⟨w.heap.size, 0, none⟩ = some (.int .i64 x.session) ∧ wx.cell? ⟨w.heap.size, 1, none⟩ = some (.int .i64 x.mode) ∧ wx.cell? ⟨w.heap.size, 2, none⟩ = some (.pointer (some ⟨ad x.node, 0, none⟩))) := fun wx hb => by
    have j0 := (hb.block w.heap.size (by omega)).trans hh0
    exact ⟨cell_of_heap j0 0, cell_of_heap j0 1, cell_of_heap j0 2⟩
  have HG := hide G
  have HIn2 : Hid (∀ a ∈ idsOf d.nodes, ∀ b ∈ idsOf d.nodes, ad a = ad b → a = b) := fun a ha b hb e => by
    obtain ⟨x, hx, rfl⟩ := node_of ha
    obtain ⟨y, hy, rfl⟩ := node_of hb
    exact hgr.hung.inj x hx y hy e
  have HUp : Hid (∀ c ∈ idsOf d.nodes, ∀ wx, Below W0.heap.size W0 wx → ad c < wx.heap.size ∧ wx.cell? ⟨ad c, 4, none⟩ = some (curPtr ad (parentOf d.nodes c))) := fun c hc wx hb => by
    obtain ⟨y, hy, rfl⟩ := node_of hc
    have hgx := hgr.below (HOld.out wx hb).1
    have hB2 := (hgx.tree G) y hy
    have e4 := hB2.c4
    rw [up_ptr hgx G] at e4
    exact ⟨hB2.lt, e4⟩
  have HWi : Hid (∀ c ∈ upsOf d x.node, ∀ wx, Below W0.heap.size W0 wx → Calls Tryz.prog 104 #[.pointer (some ⟨lb, 0, none⟩), lockVal ad x, .pointer (some ⟨ad c, 0, none⟩)] wx fun e w' => e = .returned (.int .i64 (joinI (modeAtP d L x.session c) (needI x c))) ∧ Below wx.heap.size wx w') := fun c hc wx hb => by
    have hb' := (HOld.out wx hb).1
    exact modeWith_any d G n₀ w.heap.size lb tb ad up kv L hL x hx c hc wx (hgr.below hb') ((hlk.below hn (hb'.mono hn)).below (Nat.le_refl _) (Below.refl _ _)) hb'.size (hI.below hb' hI.lt)
  have HMa : Hid (∀ c ∈ upsOf d x.node, ∀ wx, Below W0.heap.size W0 wx → Calls Tryz.prog 120 #[.pointer (some ⟨lb, 0, none⟩), .int .i64 o, .pointer (some ⟨ad c, 0, none⟩)] wx fun e w' => e = .returned (.int .i64 (modeAtP d L o c)) ∧ Below wx.heap.size wx w') := fun c hc wx hb => by
    have hb' := (HOld.out wx hb).1
    exact modeAt_any d G n₀ w.heap.size lb tb ad up kv L hL o c (upsOf_in G hx.2.1 c hc) wx (hgr.below hb') ((hlk.below hn (hb'.mono hn)).below (Nat.le_refl _) (Below.refl _ _)) hb'.size (hI.below hb' hI.lt)
  have HM1 : Hid (∀ c, ∃ m : Nat, m < 6 ∧ joinI (modeAtP d L x.session c) (needI x c) = m) := fun c => nat_modeN (joinI_mode (modeAtP_mode (fun x hx => (hL.mode x hx).modeP) _ _) (needI_mode hx.modeP c))
  have HM2 : Hid (∀ c, ∃ m : Nat, m < 6 ∧ modeAtP d L o c = m) := fun c => nat_modeN (modeAtP_mode (fun x hx => (hL.mode x hx).modeP) _ _)
  have HFx : Hid (∀ wx, Below W0.heap.size W0 wx → FitsAt wx ∧ 0 < wx.heap.size) := fun wx hb => by
    have h := hF.below (HOld.out wx hb).1 hF.lt
    exact ⟨h, h.lt⟩
  have HCd : Hid (∀ c, clashAt d L x o c = !fitsB (joinI (modeAtP d L x.session c) (needI x c)) (modeAtP d L o c)) := fun _ => rfl
  have HUi : Hid (∀ c ∈ upsOf d x.node, c ∈ idsOf d.nodes) := upsOf_in G hx.2.1
  have HLf : Hid (Left d x.node (upsOf d x.node)) := .inl ⟨q, hq, upsOf_eq G hq⟩
  have HRr : Hid (r = true ↔ ∃ i ∈ upsOf d x.node, clashAt d L x o i = true) := hr
  clear hr hgr hlk hI hF hs0 hh0 hw0 hx hL hq
  have hb00 : Below W0.heap.size W0 W0 := Below.refl _ _
  obtain ⟨y0, y1, y2⟩ := HB.out _ hb00
  have hz : w.heap.size < W0.heap.size := by omega
  go_enter Tryz.func102, Tryz.ntmps102
  go_wp2_with fail
  rw [← hW0]
  clear hW0
  go_wp2_with fail
  clear y0 y1 y2
  go_loopw [7] (fun pv wr => ∃ (cur : Int) (rest : List Int), pv = curPtr ad cur ∧ 0 ≤ cur ∧ Hid (Left d cur rest ∧ (∀ c ∈ rest, c ∈ upsOf d x.node) ∧ (r = true ↔ ∃ i ∈ rest, clashAt d L x o i = true)) ∧ Below W0.heap.size W0 wr) (fun pv _ => leftLen d ad pv)
  case atStart => exact ⟨x.node, upsOf d x.node, by rw [curPtr_some hne], hpos, ⟨HLf.out, fun _ h => h, HRr.out⟩, hb00⟩
  case round =>
    obtain ⟨cur, rest, rfl, hc0, hinv, hbr⟩ := hrel
    by_cases h0 : cur = 0
    · subst h0
      have HE : Hid (r = false) := no_of hinv.out.2.2 fun ⟨i, hi, _⟩ => by
        rw [hinv.out.1.done HG.out] at hi
        cases hi
      have hbw := (HOld.out _ hbr).1
      rw [curPtr_none]
      go_wp2_with fail
      go_ret
      exact ⟨ret_bool HE.out.symm, hbw⟩
    · obtain ⟨rest', hr1, hr2, hr3⟩ := hinv.out.1.next HG.out h0
      have hcu : cur ∈ upsOf d x.node := hinv.out.2.1 cur (by rw [hr1]; exact List.mem_cons_self)
      have HM : Hid (leftLen d ad (curPtr ad cur) = rest'.length + 1) := by rw [Hid, leftLen_eq HG.out HIn2.out hinv.out.1, hr1]; rfl
      have HMn : Hid (leftLen d ad (curPtr ad (parentOf d.nodes cur)) = rest'.length) := leftLen_eq HG.out HIn2.out hr2
      have HYes : Hid (clashAt d L x o cur = true → r = true) := fun h => hinv.out.2.2.2 ⟨cur, by rw [hr1]; exact List.mem_cons_self, h⟩
      have HNo : Hid (clashAt d L x o cur = false → Left d (parentOf d.nodes cur) rest' ∧ (∀ c ∈ rest', c ∈ upsOf d x.node) ∧ (r = true ↔ ∃ i ∈ rest', clashAt d L x o i = true)) := fun h => ⟨hr2, fun c hc => hinv.out.2.1 c (by rw [hr1]; exact List.mem_cons_of_mem _ hc), by
        rw [hinv.out.2.2, hr1]
        simp [h]⟩
      have hpos2 := hr2.pos HG.out
      obtain ⟨m1, hm1, hmm1⟩ := HM1.out cur
      obtain ⟨m2, hm2, hmm2⟩ := HM2.out cur
      have HCc : Hid (clashAt d L x o cur = !fitsB (m1 : Int) (m2 : Int)) := by rw [Hid, HCd.out, hmm1, hmm2]
      have hcal := calm_cell wr
      have HW1 : Hid (∀ t : Calm wr, Calls Tryz.prog 104 #[.pointer (some ⟨lb, 0, none⟩), lockVal ad x, .pointer (some ⟨ad cur, 0, none⟩)] t.out fun e w' => e = .returned (.int .i64 (m1 : Int)) ∧ Below t.out.heap.size t.out w') := fun t => by
        have := HWi.out cur hcu t.out (hbr.trans (t.below.mono hbr.size))
        rwa [hmm1] at this
      have HA1 : Hid (∀ t : Calm wr, Calls Tryz.prog 120 #[.pointer (some ⟨lb, 0, none⟩), .int .i64 o, .pointer (some ⟨ad cur, 0, none⟩)] t.out fun e w' => e = .returned (.int .i64 (m2 : Int)) ∧ Below t.out.heap.size t.out w') := fun t => by
        have := HMa.out cur hcu t.out (hbr.trans (t.below.mono hbr.size))
        rwa [hmm2] at this
      obtain ⟨hFa, hFl⟩ := HFx.out wr hbr
      have hfc := hFa m1 m2 hm1 hm2
      have HUpc := hide (HUp.out cur hr3)
      obtain ⟨y0, y1, y2⟩ := HB.out _ hbr
      have hzr : w.heap.size < wr.heap.size := (HOld.out _ hbr).2
      have hsr := hbr.size
      obtain ⟨pp, hpp⟩ : ∃ pp, curPtr ad (parentOf d.nodes cur) = .pointer pp := ⟨_, rfl⟩
      have HPP := hide hpp
      clear hr1 hr2 hr3 hcu hmm1 hmm2 hFa hpp
      generalize fitsB (m1 : Int) (m2 : Int) = f at *
      rw [curPtr_some h0] at HM ⊢
      cases f
      · have HE := hide (HYes.out HCc.out)
        go_wp2_with fail
        refine wp_region_calm (by kernel_rfl) (by kernel_rfl) ?_
        repeat (go_big_quiet_step (first | (go_at_call 104; exact calm_of (HW1.out _)) | (go_at_call 120; exact calm_of (HA1.out _))))
        refine wpQuiet_nil ?_
        rintro _ ⟨t, rfl⟩
        have ht := t.below
        go_wp2_with fail
        go_ret
        exact ⟨ret_bool HE.out.symm, (HOld.out _ (hbr.trans (ht.mono hsr))).1⟩
      · have HE := hide (HNo.out HCc.out)
        go_wp2_with fail
        refine wp_region_calm (by kernel_rfl) (by kernel_rfl) ?_
        repeat (go_big_quiet_step (first | (go_at_call 104; exact calm_of (HW1.out _)) | (go_at_call 120; exact calm_of (HA1.out _))))
        refine wpQuiet_nil ?_
        rintro _ ⟨t, rfl⟩
        have ht := t.below
        have hbt := hbr.trans (ht.mono hsr)
        obtain ⟨hyl, e4⟩ := HUpc.out _ hbt
        rw [HPP.out] at e4
        clear y0 y1 y2 hfc hcal
        go_wp2_with fail
        refine ⟨⟨_, rest', HPP.out.symm, hpos2, HE, hbt⟩, ?_⟩
        rw [← HPP.out, HM.out, HMn.out]; omega
end Go.Proofs.YtfjhpfgffbghdaaGreatDoor
