/-
  A map from numbers to pointers that the call itself has made.
  Small facts on rows that a call owns.
  How deep a document is, as the specification counts it.
  A region that draws its order, whose operations read old memory and whose callees make new memory alone: one walk, in the order of the text.
  That a document's nodes are right but for the walk from the root, as the specification asks it.
-/
import Derived.Test.YtfjhpfgffbghdaaGreatDoorJoinA
import Derived.Maps.Own
import Derived.Maps.Views
import Derived.Test.YtfjhpfgffbghdaaGreatDoorJoinB
import Derived.Deep.RegionWith
import Derived.Deep.RegionLaw
import Derived.Deep.DeepCutAuto
import Derived.WalkLawsBesides
import Derived.Deep.Quiet
import Derived.Deep.QuietTactic
import Derived.BigQuiet
import Derived.Maps.AppendAt
namespace Go.Proofs.YtfjhpfgffbghdaaGreatDoor
open Go.RowKit

/-- A pointer to a block's beginning, read as the block's number. -/
def ptrR : Value → Option (DataW Unit × List MemPlace)
  | .pointer none => some (.nil, [])
  | .pointer (some ⟨b, 0, none⟩) => some (.lit (.int .i64 b), [])
  | _ => none

def ptrTo (c : Option Nat) : Value := .pointer (c.map fun b => ⟨b, 0, none⟩)

theorem ptrR_to (c : Option Nat) : ptrR (ptrTo c) = some (match c with | some b => .lit (.int .i64 b) | none => .nil, []) := by
  cases c <;> rfl

theorem ptrR_inv {v : Value} {c : Option Nat} {ps : List MemPlace} (h : ptrR v = some (match c with | some b => .lit (.int .i64 (b : Int)) | none => .nil, ps)) : v = ptrTo c := by
  unfold ptrR at h
  split at h
  · cases c with
    | none => rfl
    | some b => simp at h
  · rename_i b
    cases c with
    | none => simp at h
    | some b' =>
      simp only [Option.some.injEq, Prod.mk.injEq, DataW.lit.injEq, Lit.int.injEq, true_and] at h
      have : b = b' := by omega
      subst this; rfl
  · cases h

/-- Block b is a map from numbers to pointers. -/
def PtrMap (w : World) (b n : Nat) (m : Int → Option Nat) : Prop :=
  ∃ D : DataW Unit, w.ownsMap Tryz.prog 3 ptrR b n D ∧ Maps.IsMap D ∧ ∀ i, D.atKey (.int .i64 i) .nil = match m i with | some c => .lit (.int .i64 c) | none => .nil

theorem ownsMap_below {w w' : World} {k : TypeId} {b n : Nat} {D : DataW Unit} (h : w.ownsMap Tryz.prog k ptrR b n D) (hb : Below w.heap.size w w') : w'.ownsMap Tryz.prog k ptrR b n D := by
  have hlt := h.lt
  obtain ⟨es, clock, hh, F, hs, hD⟩ := h
  exact ⟨es, clock, (hb.block b hlt).trans hh, F, hs, hD⟩

theorem ownsMap_far {w : World} {k : TypeId} {b n : Nat} {D : DataW Unit} (h : w.ownsMap Tryz.prog k ptrR b n D) {c : Nat} {cs : Array Value} {t : TypeId} {fr : Nat × Nat} (hc : w.heap[c]? = some (.cells cs t fr)) : c ≠ b := by
  obtain ⟨es, clock, hh, _⟩ := h
  intro e; subst e; rw [hh] at hc; cases hc

theorem ptrMap_made (w : World) : PtrMap (w.alloc (.map #[] 0)) w.heap.size 0 (fun _ => none) :=
  ⟨.map [], World.ownsMap_made w _ _ _, ⟨[], rfl⟩, fun _ => rfl⟩

theorem PtrMap.lt {w : World} {b n : Nat} {m : Int → Option Nat} (h : PtrMap w b n m) : b < w.heap.size := let ⟨_, h, _⟩ := h; h.lt

theorem PtrMap.kept {w w' : World} {b n : Nat} {m : Int → Option Nat} {row : Option Nat} (h : PtrMap w b n m) (hg : w.grownBy w' row) (hne : some b ≠ row) : PtrMap w' b n m := by
  obtain ⟨D, h1, h2, h3⟩ := h
  exact ⟨D, h1.kept hg hne, h2, h3⟩

theorem PtrMap.alloc {w : World} {b n : Nat} {m : Int → Option Nat} (h : PtrMap w b n m) (o : Obj) : PtrMap (w.alloc o) b n m := h.kept (World.grownBy_alloc w o none) (by simp)

theorem PtrMap.heap {w w' : World} {b n : Nat} {m : Int → Option Nat} (h : PtrMap w b n m) (he : w'.heap[b]? = w.heap[b]?) : PtrMap w' b n m := by
  obtain ⟨D, ⟨es, clock, hb, F, hs, hD⟩, h2, h3⟩ := h
  exact ⟨D, ⟨es, clock, he.trans hb, F, hs, hD⟩, h2, h3⟩

theorem ptrMap_zero (w : World) : (zeroValue 93).run Tryz.prog w = .ok (.pointer none) w := by kernel_rfl

theorem PtrMap.look {w : World} {b n : Nat} {m : Int → Option Nat} (h : PtrMap w b n m) {i : Int} (hi : Wf64 i) :
    (Instr.lookup 177 (.map (some b)) (.int .i64 i) false).run Tryz.prog w = .ok (ptrTo (m i)) w := by
  obtain ⟨D, h1, h2, h3⟩ := h
  obtain ⟨v, ps, hr, hv⟩ := h1.lookup (Maps.int_keyed Tryz.underlying3) Tryz.underlying177 (ptrMap_zero w) (zd := .nil) (zp := []) rfl (Maps.keyOf_int_mk Tryz.underlying3 hi)
  rw [h3 i] at hv
  rw [hr, ptrR_inv hv]

theorem PtrMap.put {w' : World} {b n : Nat} {m : Int → Option Nat} {D : DataW Unit} {i : Int} {c : Nat} (h2 : Maps.IsMap D) (h3 : ∀ i, D.atKey (.int .i64 i) .nil = match m i with | some c => .lit (.int .i64 c) | none => .nil)
    (h : w'.ownsMap Tryz.prog 3 ptrR b n (D.put (.int .i64 i) (.lit (.int .i64 c)))) : PtrMap w' b n (fun j => if j = i then some c else m j) := by
  refine ⟨_, h, ?_, fun j => ?_⟩
  · obtain ⟨es, rfl⟩ := h2; exact ⟨_, rfl⟩
  · by_cases e : j = i
    · subst e; rw [Maps.atKey_put_same h2 (by trivial)]; simp
    · rw [Maps.atKey_put_other (by intro h; simp at h; exact e h), h3]; simp [e]

end Go.Proofs.YtfjhpfgffbghdaaGreatDoor

namespace Go.Proofs.YtfjhpfgffbghdaaGreatDoor
open Go.RowKit

theorem row_shape {w : World} {B : Nat} {e : TypeId} {size : Nat} {v : Value} {n : Nat} {xs : List Value} (h : w.ownsRow B e size v n xs) : ∃ a cap, v = .slice a n cap := by
  obtain ⟨_, ⟨rfl, rfl⟩ | ⟨g, cap, cur, rfl, _⟩⟩ := h
  · exact ⟨none, 0, rfl⟩
  · exact ⟨_, cap, rfl⟩

theorem ret_vc {v : Value} {a b : Int} (h : a = b) : Ending.returned (.tuple #[v, .int .i64 a]) = Ending.returned (.tuple #[v, .int .i64 b]) := by rw [h]

/-- A list of numbers of its own, and a code. -/
def ListPost (w : World) (ks : List Int) (c : Int) (e : Ending) (w' : World) : Prop :=
  ∃ v, e = .returned (.tuple #[v, .int .i64 c]) ∧ w'.ownsRow w.heap.size 3 1 v ks.length (ks.map (Value.int .i64)) ∧ Below w.heap.size w w'

theorem ints_one (xs : List Int) : ∀ u ∈ xs.map (Value.int .i64), u.oneCell' = true := by
  intro u hu
  obtain ⟨x, _, rfl⟩ := List.mem_map.1 hu
  rfl

theorem row_one (w : World) (base : Nat) (hb : base ≤ w.heap.size) (i : Int) : (w.alloc (.cells #[.int .i64 i] 3)).ownsRow base 3 1 (.slice (some ⟨w.heap.size, 0, none⟩) 1 1) 1 [.int .i64 i] :=
  ⟨by simp, .inr ⟨w.heap.size, 1, #[.int .i64 i], rfl, hb, (MapKept.heap_alloc w _).1, Nat.le_refl _, by unfold maxLen; omega, rfl, by simp⟩⟩

theorem ownsRow_base {w : World} {b b' : Nat} {e : TypeId} {size : Nat} {v : Value} {n : Nat} {xs : List Value} (h : w.ownsRow b e size v n xs) (hb : b' ≤ b) : w.ownsRow b' e size v n xs := by
  obtain ⟨hl, h | ⟨g, cap, cur, rfl, hg, hh, h1, h2, h3, h4⟩⟩ := h
  · exact ⟨hl, .inl h⟩
  · exact ⟨hl, .inr ⟨g, cap, cur, rfl, by omega, hh, h1, h2, h3, h4⟩⟩

def lenOf : Value → Nat
  | .slice _ n _ => n
  | _ => 0
theorem lenOf_slice (a : Option Addr) (n c : Nat) : lenOf (.slice a n c) = n := rfl

theorem row_some {w : World} {B : Nat} {e : TypeId} {v : Value} {n : Nat} {xs : List Value} (h : w.ownsRow B e 1 v n xs) (hn : 0 < n) : ∃ g c, v = .slice (some ⟨g, 0, none⟩) n c := by
  obtain ⟨_, ⟨rfl, rfl⟩ | ⟨g, cap, cur, rfl, _⟩⟩ := h
  · omega
  · exact ⟨g, cap, rfl⟩

theorem one_ptr (p : Option Addr) : ∀ u ∈ [Value.pointer p], u.oneCell' = true := by
  intro u hu; simp at hu; subst hu; rfl

/-- A list of numbers of its own. -/
def IdsPost (w : World) (ks : List Int) (e : Ending) (w' : World) : Prop :=
  ∃ v, e = .returned v ∧ w'.ownsRow w.heap.size 3 1 v ks.length (ks.map (Value.int .i64)) ∧ Below w.heap.size w w'
theorem row_none (w : World) (base : Nat) (hb : base ≤ w.heap.size) : (w.alloc (.cells #[] 3)).ownsRow base 3 1 (.slice (some ⟨w.heap.size, 0, none⟩) 0 0) 0 [] :=
  World.ownsRow_made w #[] 0 hb (Nat.zero_le _) rfl

end Go.Proofs.YtfjhpfgffbghdaaGreatDoor

namespace Go.Proofs.YtfjhpfgffbghdaaGreatDoor
open Go.RowKit

theorem placeOf_lt {l : List PNode} {i : Int} (h : i ∈ idsOf l) : ∃ p : Nat, placeOf l i = p ∧ p < l.length ∧ (l[p]?.getD nodeNil).id = i ∧ kidsAt l i = (l[p]?.getD nodeNil).kids := by
  induction l with
  | nil => simp [idsOf] at h
  | cons x l ih =>
    by_cases hx : x.id = i
    · exact ⟨0, by simp [placeOf, hx], by simp, by simp [hx], by simp [kidsAt, hx]⟩
    · obtain ⟨p, h1, h2, h3, h4⟩ := ih (by simp only [idsOf, List.map_cons, List.mem_cons] at h; exact h.resolve_left (fun e => hx e.symm))
      refine ⟨p + 1, ?_, by simp; omega, by simpa using h3, ?_⟩
      · simp only [placeOf]; rw [if_neg hx, h1, if_neg (by omega)]; omega
      · have hb : (x.id == i) = false := by simpa using hx
        simp only [kidsAt, List.find?_cons, hb] at h4 ⊢
        simpa using h4

theorem fold_snoc {ks : List Int} {j : Nat} (h : j < ks.length) (f : Nat → Int → Nat) : (ks.take (j + 1)).foldl f 0 = f ((ks.take j).foldl f 0) (ks[j]?.getD 0) := by
  rw [List.take_succ_eq_append_getElem h, List.foldl_append]; simp [h]

theorem fold_max_le (g : Int → Nat) (m : Nat) (hg : ∀ k, g k ≤ m) : ∀ (ks : List Int), ks.foldl (fun n j => max n (g j)) 0 ≤ m := fun ks =>
  (foldl_max_le g m ks 0).2 ⟨Nat.zero_le _, fun k _ => hg k⟩

set_option maxHeartbeats 800000 in
set_option maxRecDepth 100000 in
theorem specDeep_any (n₀ : Nat) (r nx : Int) (s : Value) (l : List PNode) (hl : l.length ≤ 1048576) (hkl : ∀ x ∈ l, x.kids.length ≤ 1048576) (hth : ∀ j ∈ allKids l, j ∈ idsOf l) :
    ∀ (k : Nat) (i c : Int) (w : World), c ≤ 1000 → Hid (c = (k : Int)) → NodesAt n₀ w s l → n₀ ≤ w.heap.size → i ∈ idsOf l →
    Calls Tryz.prog 127 #[.agg #[.int .i64 r, .int .i64 nx, s], .int .i64 i, .int .i64 c] w fun e w' => e = .returned (.int .i64 (deep l k i)) ∧ Below w.heap.size w w' := by
  intro k
  induction k with
  | zero =>
    intro i c w _ hC hN hn hi
    have hc0 : (c == 0) = true := by simp [hC.out]
    obtain ⟨a, cap, rfl, -⟩ := hN
    go_enter Tryz.func127, Tryz.ntmps127
    go_wp2_with fail
    go_ret
    exact ⟨rfl, (Below.refl _ _).alloc (Nat.le_refl _) _⟩
  | succ k ih =>
    intro i c w hk hC hN hn hi
    have hk0 : (c == 0) = false := by have := hC.out; simp; omega
    have hc1 : 1 ≤ c := by have := hC.out; omega
    have hkk : k ≤ 1000 := by have := hC.out; omega
    have HC : Hid (c - 1 = (k : Int)) := by have := hC.out; unfold Hid; omega
    obtain ⟨p, hp, hpl, hpi, hpk⟩ := placeOf_lt hi
    have HP := hide hp
    have HK := hide hpk
    clear hp hpi hpk
    have hN' := hN
    obtain ⟨a, cap, rfl, hk'⟩ := hN
    obtain ⟨b, off, rfl, hb, hc⟩ := hk'.resolve_left (by intro e; simp [e] at hpl)
    have hbw : b < w.heap.size := by omega
    obtain ⟨vk, hc4, hik⟩ := (hc p hpl).c4
    have hlk : (l[p]?.getD nodeNil).kids.length ≤ 1048576 := by simp [hpl]; exact hkl _ (List.getElem_mem hpl)
    have hth' : Hid (∀ j ∈ (l[p]?.getD nodeNil).kids, j ∈ idsOf l) := fun j hj => hth j (kidsAt_all (HK.out ▸ hj))
    generalize (l[p]?.getD nodeNil).kids = ks at *
    have hik' := hik
    obtain ⟨ak, ck, rfl, hka⟩ := hik
    clear hc hk' hkl hth
    have IH := hide ih
    clear ih
    go_enter Tryz.func127, Tryz.ntmps127
    go_wp2_with fail
    go_cut [8] (fun v8 wc => v8 = .slice ak ks.length ck ∧ Below (w.heap.size + 1) (w.alloc (.cells #[.int .i64 r, .int .i64 nx, .slice (some ⟨b, off, none⟩) l.length cap] 38)) wc)
    case first =>
      go_region_with (go_at_call 27; refine (specAt_any n₀ r nx _ l i _ (hN'.below (Nat.le_refl _) (by first | exact (Below.refl _ _).alloc hn _ | exact ((Below.refl _ _).alloc hn _).drew)) (by simp; omega) hl).mono ?_; rintro e w1 ⟨rfl, hbel⟩; rw [HP.out]; obtain ⟨hcx, hfx⟩ := bcell hbel)
      all_goals
        go_wp2_with fail
        go_meet
        exact ⟨rfl, by simpa using (((Below.refl _ _).drew).trans hbel)⟩
    case rest =>
      obtain ⟨rfl, hbel⟩ := hcut
      obtain ⟨hcx, hfx⟩ := bcell (W := w.alloc _) (by simpa using hbel)
      have hsz := hbel.size
      go_wp2_with fail
      go_loopw [7, 9] (fun n j wr => ∃ m : Nat, m ≤ ks.length ∧ j = .int .i64 m ∧ n = .int .i64 (((ks.take m).foldl (fun n j => max n (deep l k j)) 0 : Nat) : Int) ∧ Below (w.heap.size + 1) (w.alloc (.cells #[.int .i64 r, .int .i64 nx, .slice (some ⟨b, off, none⟩) l.length cap] 38)) wr) (fun _ j _ => ks.length - (intOf j).toNat)
      case atStart => exact ⟨0, Nat.zero_le _, rfl, rfl, hbel⟩
      case round =>
        obtain ⟨m, hm, rfl, rfl, hbr⟩ := hrel
        clear hcx hfx hsz hbel
        obtain ⟨hcx, hfx⟩ := bcell (W := w.alloc _) (by simpa using hbr)
        have hsz := hbr.size
        simp only [World.size_alloc] at hsz
        have hq := fold_max_le (deep l k) (k + 1) (fun _ => deep_le) (ks.take m)
        by_cases hlt : m < ks.length
        · obtain ⟨bk, offk, rfl, hbk, hck⟩ := hka.resolve_left (by intro e; simp [e] at hlt)
          have hbkw : bk < w.heap.size := by omega
          have hcm := hck m hlt
          have hy : Hid (ks[m]?.getD 0 ∈ idsOf l) := hth'.out _ (by simp [hlt])
          have HS := hide (fold_snoc hlt (fun n j => max n (deep l k j)))
          clear hck hka
          generalize (ks.take m).foldl (fun n j => max n (deep l k j)) 0 = q at *
          generalize ks[m]?.getD 0 = y at *
          have hdy : deep l k y ≤ k + 1 := deep_le
          have hwk : IntKind.i64.wrap (c - 1) = c - 1 := by rw [IntKind.wrap_i64]; omega
          go_wp2_with fail
          go_region_with (go_at_call 127; refine (IH.out y _ _ (by omega) HC (hN'.below (Nat.le_refl _) (by first | exact ((Below.refl _ _).alloc hn _).trans (hbr.mono (by omega)) | exact (((Below.refl _ _).alloc hn _).trans (hbr.mono (by omega))).drew)) (by simp; omega) hy.out).mono ?_; rintro e w1 ⟨rfl, hb1⟩)
          all_goals
            have HZ : Hid ((if q < deep l k y then ((deep l k y : Nat) : Int) else (q : Int)) = ((max q (deep l k y) : Nat) : Int)) := by unfold Hid; split <;> omega
            generalize (if q < deep l k y then ((deep l k y : Nat) : Int) else (q : Int)) = z at *
            go_wp2_with fail
            go_roundw
            case rel => exact ⟨m + 1, by omega, by go_num, by rw [HS.out, HZ.out], hbr.trans ((((Below.refl _ _).drew).trans hb1).mono (by simp; omega))⟩
            case measure => simp [intOf]; omega
        · have HE : Hid (deep l (k + 1) i = (ks.take m).foldl (fun n j => max n (deep l k j)) 0 + 1) := by unfold Hid; rw [List.take_of_length_le (by omega), deep, HK.out]
          generalize (ks.take m).foldl (fun n j => max n (deep l k j)) 0 = q at *
          clear hka
          go_wp2_with fail
          go_ret
          exact ⟨ret_int (by rw [HE.out]; omega), ((Below.refl _ _).alloc (Nat.le_refl _) _).trans (hbr.mono (by omega))⟩
end Go.Proofs.YtfjhpfgffbghdaaGreatDoor

namespace Go.Proofs.YtfjhpfgffbghdaaGreatDoor
open Go.RowKit

/-- The worlds in which all that W has is as it is there. -/
structure Calm (W : World) where
  out : World
  below : Below W.heap.size W out

instance (W : World) : Nonempty (Calm W) := ⟨⟨W, Below.refl _ _⟩⟩

theorem calm_cell (W : World) (t : Calm W) (b o : Nat) (h : b < W.heap.size) : t.out.cell? ⟨b, o, none⟩ = W.cell? ⟨b, o, none⟩ := t.below.cell (p := ⟨b, o, none⟩) h

theorem wp_region_calm {P : Program} {id : Nat} {Q : Exit → Act → World → Prop} {a : Act} {w : World} {l : List Oper} (hm : P.follows .mixedOrders = true) (hB : Region.lexB .any l.toArray = true)
    (h : wpQuiet P l.toArray (fun w' => ∃ t : Calm w, w' = t.out) (fun a' => ∀ w', (∃ t : Calm w, w' = t.out) → Q .normal a' w') l a) : (Code.region id l.toArray true).wp P Q a w :=
  wp_region_quiet (C := fun w' => ∃ t : Calm w, w' = t.out) hm hB ⟨⟨_, (Below.refl _ _).drew⟩, rfl⟩ (by simpa using h)

theorem calm_of {P : Program} {f : FuncId} {args : Array Value} {W : World} {t : Calm W} {v : Value}
    (h : Calls P f args t.out fun e w' => e = .returned v ∧ Below t.out.heap.size t.out w') : Calls P f args t.out fun e w'' => e = .returned v ∧ ∃ t' : Calm W, w'' = t'.out :=
  h.mono fun _ _ ⟨he, hb⟩ => ⟨he, ⟨_, t.below.trans (hb.mono t.below.size)⟩, rfl⟩

theorem calm_of_same {P : Program} {f : FuncId} {args : Array Value} {W : World} {t : Calm W} {v : Value}
    (h : Calls P f args t.out fun e w' => e = .returned v ∧ w' = t.out) : Calls P f args t.out fun e w'' => e = .returned v ∧ ∃ t' : Calm W, w'' = t'.out :=
  h.mono fun _ _ ⟨he, hb⟩ => ⟨he, t, hb⟩

end Go.Proofs.YtfjhpfgffbghdaaGreatDoor

namespace Go.Proofs.YtfjhpfgffbghdaaGreatDoor
open Go.RowKit

/-- What has been found right when so many nodes, and so many kids of the next one, have been looked at. -/
structure Seen (d : PDoc) (k : Nat) (sn : List Int) : Prop where
  fine : ∀ x ∈ d.nodes.take k, NodeFine d.next x
  rise : (idsOf (d.nodes.take k)).Pairwise (· < ·)
  there : ∀ j ∈ sn, j ∈ idsOf d.nodes
  once : sn.Nodup
  rootNo : d.root ∉ sn

theorem pw_snoc {xs : List Int} {y : Int} (h : xs.Pairwise (· < ·)) (hl : ∀ x ∈ xs, x < y) : (xs ++ [y]).Pairwise (· < ·) := by
  rw [List.pairwise_append]; refine ⟨h, by simp, ?_⟩; intro a ha b hb; simp at hb; subst hb; exact hl a ha

/-- In what rises all is at most the last one. -/
theorem pw_last {l : List PNode} {k : Nat} (hk : k < l.length) (hr : (idsOf (l.take (k + 1))).Pairwise (· < ·)) : ∀ i ∈ idsOf (l.take (k + 1)), i ≤ (l[k]?.getD nodeNil).id := by
  rw [ids_snoc hk] at *
  intro i hi
  rcases List.mem_append.1 hi with h | h
  · have := (List.pairwise_append.1 hr).2.2 i h (l[k]?.getD nodeNil).id (by simp); omega
  · simp at h; omega

theorem Seen.start (d : PDoc) : Seen d 0 [] := ⟨by simp, by simp [idsOf], by simp, by simp, by simp⟩

section
variable {d : PDoc} {k : Nat} {sn : List Int}

theorem Seen.node (h : Seen d k sn) (hk : k < d.nodes.length) (hf : NodeFine d.next (d.nodes[k]?.getD nodeNil)) (hr : k = 0 ∨ (d.nodes[k - 1]?.getD nodeNil).id < (d.nodes[k]?.getD nodeNil).id) : Seen d (k + 1) sn :=
  ⟨take_no_snoc hk h.fine hf, by
    rw [ids_snoc hk]
    refine pw_snoc h.rise ?_
    intro i hi
    cases k with
    | zero => simp [idsOf] at hi
    | succ m =>
      rcases hr with hr | hr
      · omega
      · have := pw_last (by omega) h.rise i hi; simp only [Nat.add_sub_cancel] at hr; omega, h.there, h.once, h.rootNo⟩

theorem Seen.kid (h : Seen d k sn) {j : Int} (h1 : j ≠ d.root) (h2 : j ∉ sn) (h3 : j ∈ idsOf d.nodes) : Seen d k (sn ++ [j]) :=
  ⟨h.fine, h.rise, by intro i hi; rcases List.mem_append.1 hi with hi | hi; exact h.there i hi; simp at hi; subst hi; exact h3,
    by rw [List.nodup_append]; exact ⟨h.once, by simp, by intro a ha b hb e; simp at hb; subst hb; subst e; exact h2 ha⟩,
    by intro hm; rcases List.mem_append.1 hm with hm | hm; exact h.rootNo hm; simp at hm; exact h1 hm.symm⟩
end

theorem kids_snoc {l : List PNode} {k : Nat} (h : k < l.length) : allKids (l.take (k + 1)) = allKids (l.take k) ++ (l[k]?.getD nodeNil).kids := by
  rw [List.take_succ_eq_append_getElem h]; simp [allKids, h, -List.take_append_getElem]

theorem int_snoc {ks : List Int} {m : Nat} (h : m < ks.length) : ks.take (m + 1) = ks.take m ++ [ks[m]?.getD 0] := by
  rw [List.take_succ_eq_append_getElem h]; simp [h]

theorem pw_at {xs : List Int} (h : xs.Pairwise (· < ·)) {i j : Nat} (hi : i < j) (hj : j < xs.length) : xs[i]'(by omega) < xs[j] := List.pairwise_iff_getElem.1 h i j (by omega) hj hi

theorem rise_at {l : List PNode} (h : (idsOf l).Pairwise (· < ·)) {k : Nat} (hk : k < l.length) (h0 : 0 < k) : (l[k - 1]?.getD nodeNil).id < (l[k]?.getD nodeNil).id := by
  have := pw_at h (i := k - 1) (j := k) (by omega) (by rw [idsOf_len]; exact hk)
  have hk1 : k - 1 < l.length := by omega
  simpa [idsOf, hk, hk1] using this

theorem one_int (x : Int) : ∀ u ∈ [Value.int .i64 x], u.oneCell' = true := by
  intro u hu; simp at hu; subst hu; rfl

/-- A kid in a right list: not the root, not seen before, and there. -/
theorem flat_kid {d : PDoc} (F : Flat d) {k m : Nat} (hk : k < d.nodes.length) (hm : m < (d.nodes[k]?.getD nodeNil).kids.length) :
    (d.nodes[k]?.getD nodeNil).kids[m]?.getD 0 ≠ d.root ∧ (d.nodes[k]?.getD nodeNil).kids[m]?.getD 0 ∉ allKids (d.nodes.take k) ++ (d.nodes[k]?.getD nodeNil).kids.take m ∧ (d.nodes[k]?.getD nodeNil).kids[m]?.getD 0 ∈ idsOf d.nodes := by
  have hx : d.nodes[k]?.getD nodeNil ∈ d.nodes := by simp [hk]
  have hy : (d.nodes[k]?.getD nodeNil).kids[m]?.getD 0 ∈ (d.nodes[k]?.getD nodeNil).kids := by rw [List.getElem?_eq_getElem hm]; exact List.getElem_mem hm
  have hall : (d.nodes[k]?.getD nodeNil).kids[m]?.getD 0 ∈ allKids d.nodes := List.mem_flatMap.2 ⟨_, hx, hy⟩
  refine ⟨fun e => F.rootNo (e ▸ hall), ?_, F.there _ hall⟩
  have e : allKids d.nodes = (allKids (d.nodes.take k) ++ (d.nodes[k]?.getD nodeNil).kids.take m) ++ ((d.nodes[k]?.getD nodeNil).kids[m]?.getD 0 :: ((d.nodes[k]?.getD nodeNil).kids.drop (m + 1) ++ allKids (d.nodes.drop (k + 1)))) := by
    have e1 : d.nodes = d.nodes.take k ++ (d.nodes[k]?.getD nodeNil) :: d.nodes.drop (k + 1) := by simp [hk]
    have e2 : (d.nodes[k]?.getD nodeNil).kids = (d.nodes[k]?.getD nodeNil).kids.take m ++ (d.nodes[k]?.getD nodeNil).kids[m]?.getD 0 :: (d.nodes[k]?.getD nodeNil).kids.drop (m + 1) := by
      rw [List.getElem?_eq_getElem hm]; simp
    calc allKids d.nodes = allKids (d.nodes.take k) ++ ((d.nodes[k]?.getD nodeNil).kids ++ allKids (d.nodes.drop (k + 1))) := by
          conv => lhs; rw [e1]
          simp [allKids]
      _ = _ := by conv => lhs; rw [e2]
                  simp
  have hn := F.once
  rw [e, List.nodup_append] at hn
  intro hmem
  exact hn.2.2 _ hmem _ (List.mem_cons_self) rfl

/-- All that the specification asks of the nodes. -/
def NodesFine (d : PDoc) : Prop := Flat d ∧ (allKids d.nodes).length + 1 = d.nodes.length

theorem specInfoInt : (Tryz.prog.info? 3).map (fun i => (i.zero, i.size, i.bytes)) = some (some (.int .i64 0), 1, 8) := by kernel_rfl

set_option maxHeartbeats 1000000 in
set_option maxRecDepth 100000 in
theorem specNodes_any (n₀ : Nat) (d : PDoc) (s : Value) (w : World) (h1 : 1 ≤ d.nodes.length) (h40 : d.nodes.length ≤ 40) (hx2 : 2 ≤ d.next) (hxm : d.next ≤ 999999) (hN : NodesAt n₀ w s d.nodes) (hn : n₀ ≤ w.heap.size) (hkl : ∀ x ∈ d.nodes, x.kids.length ≤ 1048576) (r : Bool) (hr : r = true ↔ NodesFine d) :
    Calls Tryz.prog 125 #[.agg #[.int .i64 d.root, .int .i64 d.next, s]] w fun e w' => e = .returned (.bool r) ∧ Below w.heap.size w w' := by
  obtain ⟨i0, hi, hz0, hz1, hz2⟩ := info_parts specInfoInt
  have HKL := hide hkl
  have HR := hide hr
  clear hkl hr
  have hN' := hN
  obtain ⟨a, cap, rfl, hk'⟩ := hN
  obtain ⟨b, off, rfl, hb, hc⟩ := hk'.resolve_left (by intro e; simp [e] at h1)
  have hbw : b < w.heap.size := by omega
  clear hk'
  have HCs := hide hc
  clear hc
  go_enter Tryz.func125, Tryz.ntmps125
  go_wp2_with fail
  go_loopw [3, 4] (fun sv i' wr => ∃ k : Nat, k ≤ d.nodes.length ∧ i' = .int .i64 k ∧ Hid (Seen d k (allKids (d.nodes.take k))) ∧ wr.ownsRow (w.heap.size + 1) 3 1 sv (allKids (d.nodes.take k)).length ((allKids (d.nodes.take k)).map (Value.int .i64)) ∧ Below (w.heap.size + 1) (w.alloc (.cells #[.int .i64 d.root, .int .i64 d.next, .slice (some ⟨b, off, none⟩) d.nodes.length cap] 38)) wr) (fun _ i' _ => d.nodes.length - (intOf i').toNat)
  case atStart => exact ⟨0, Nat.zero_le _, rfl, Seen.start d, by simpa [allKids] using World.ownsRow_made (base := w.heap.size + 1) (w.alloc (.cells #[.int .i64 d.root, .int .i64 d.next, .slice (some ⟨b, off, none⟩) d.nodes.length cap] 38)) #[] 0 (e := 3) (size := 1) (by simp) (Nat.zero_le _) rfl, (Below.refl _ _).alloc (by simp) _⟩
  case round =>
    obtain ⟨wo, hwo⟩ : ∃ wo, wo = wr := ⟨_, rfl⟩
    subst hwo
    obtain ⟨k, hkl', rfl, hse, hown, hbr⟩ := hrel
    obtain ⟨hcx, hfx⟩ := bcell (W := w.alloc _) (by simpa using hbr)
    have hsz := hbr.size
    simp only [World.size_alloc] at hsz
    have hszl : w.heap.size < wo.heap.size := by omega
    have hbr1 : b < wo.heap.size := by omega
    by_cases hlt : k < d.nodes.length
    · have hA := HCs.out k hlt
      have g0 := hA.c0
      have g1 := hA.c1
      have g2 := hA.c2
      have g3 := hA.c3
      obtain ⟨vk, g4, hik⟩ := hA.c4
      have hik' := hik
      obtain ⟨ak, ck, rfl, hka⟩ := hik
      have HX := hide (rfl : d.nodes[k]?.getD nodeNil = d.nodes[k]?.getD nodeNil)
      have HSN := hide (@Seen.node d k _ hse.out hlt)
      have hkx : (d.nodes[k]?.getD nodeNil).kids.length ≤ 1048576 := by have := HKL.out _ (List.getElem_mem hlt); simpa [hlt] using this
      have HKS := hide (kids_snoc hlt)
      have HMem : Hid ((d.nodes[k]?.getD nodeNil) ∈ d.nodes) := by simp [Hid, hlt]
      have hprev : Hid (0 < k → w.cell? ⟨b, off + (k - 1) * 5, none⟩ = some (.int .i64 (d.nodes[k - 1]?.getD nodeNil).id)) := fun h => (HCs.out (k - 1) (by omega)).c0
      have HFK : Hid (Flat d → ∀ m, m < (d.nodes[k]?.getD nodeNil).kids.length → (d.nodes[k]?.getD nodeNil).kids[m]?.getD 0 ≠ d.root ∧ (d.nodes[k]?.getD nodeNil).kids[m]?.getD 0 ∉ allKids (d.nodes.take k) ++ (d.nodes[k]?.getD nodeNil).kids.take m ∧ (d.nodes[k]?.getD nodeNil).kids[m]?.getD 0 ∈ idsOf d.nodes) := fun F m hm => flat_kid F hlt hm
      have HRA : Hid (Flat d → 0 < k → (d.nodes[k - 1]?.getD nodeNil).id < (d.nodes[k]?.getD nodeNil).id) := fun F h0 => rise_at F.rise hlt h0
      clear hA HX
      generalize d.nodes[k]?.getD nodeNil = x at *
      generalize (d.nodes[k - 1]?.getD nodeNil).id = pv at *
      obtain ⟨nb, hnb⟩ : ∃ nb, nodeB d.next x = nb := ⟨_, rfl⟩
      have HN : Hid (∀ w', Calls Tryz.prog 150 #[.agg #[.int .i64 x.id, .int .i64 x.kind, .int .i64 x.attr, .string x.text, .slice ak x.kids.length ck], .int .i64 d.next] w' fun e w'' => e = .returned (.bool nb) ∧ Below w'.heap.size w' w'') := by
        intro w'; rw [← hnb]; exact specNode_any x d.next ak ck w' hx2 hxm
      have HNB := hide hnb
      clear hnb
      go_wp2_with fail
      go_cut [40] (fun v40 wc => v40 = .bool (!nb || (decide (0 < k) && decide (x.id ≤ pv))) ∧ Below (wo.heap.size + 1) (wo.alloc (.cells #[.int .i64 x.id, .int .i64 x.kind, .int .i64 x.attr, .string x.text, .slice ak x.kids.length ck] 84)) wc)
      case first =>
        have hwk : IntKind.i64.wrap ((k : Int) - 1) = (k : Int) - 1 := by rw [IntKind.wrap_i64]; omega
        have hcal := calm_cell (wo.alloc (.cells #[.int .i64 x.id, .int .i64 x.kind, .int .i64 x.attr, .string x.text, .slice ak x.kids.length ck] 84))
        cases nb with
        | false =>
          refine wp_region_calm (by kernel_rfl) (by kernel_rfl) ?_
          repeat (go_big_quiet_step ((go_at_call 150; exact calm_of (HN.out _))))
          refine wpQuiet_nil ?_
          rintro _ ⟨t, rfl⟩
          go_wp2_with fail
          go_meet
          exact ⟨rfl, by simpa using t.below⟩
        | true =>
          by_cases hk0 : 0 < k
          · have hp1 := hprev.out hk0
            have hk1 : (0 : Int) < (k : Int) := by omega
            have hk2 : (0 : Int) ≤ (k : Int) - 1 := by omega
            have hk3 : (k : Int) - 1 < (d.nodes.length : Int) := by omega
            have hk4 : ((k : Int) - 1).toNat = k - 1 := by omega
            refine wp_region_calm (by kernel_rfl) (by kernel_rfl) ?_
            repeat (go_big_quiet_step ((go_at_call 150; exact calm_of (HN.out _))))
            refine wpQuiet_nil ?_
            rintro _ ⟨t, rfl⟩
            go_wp2_with fail
            go_meet
            exact ⟨by simp [hk0], by simpa using t.below⟩
          · have hk1 : decide ((0 : Int) < (k : Int)) = false := by simp; omega
            refine wp_region_calm (by kernel_rfl) (by kernel_rfl) ?_
            repeat (go_big_quiet_step ((go_at_call 150; exact calm_of (HN.out _))))
            refine wpQuiet_nil ?_
            rintro _ ⟨t, rfl⟩
            go_wp2_with fail
            go_meet
            exact ⟨by simp; omega, by simpa using t.below⟩
      case rest =>
        obtain ⟨rfl, hbc⟩ := hcut
        have hszc := hbc.size
        simp only [World.size_alloc] at hszc
        have hbx : wc.heap[wo.heap.size]? = some (.cells #[.int .i64 x.id, .int .i64 x.kind, .int .i64 x.attr, .string x.text, .slice ak x.kids.length ck] 84 (0, 0)) := (hbc.block wo.heap.size (by omega)).trans (alloc_new wo _)
        have hb2 : Below (w.heap.size + 1) (w.alloc (.cells #[.int .i64 d.root, .int .i64 d.next, .slice (some ⟨b, off, none⟩) d.nodes.length cap] 38)) wc := (hbr.alloc hsz _).trans (hbc.mono (by omega))
        have hown2 : wc.ownsRow (w.heap.size + 1) 3 1 u3 (allKids (d.nodes.take k)).length ((allKids (d.nodes.take k)).map (Value.int .i64)) := ownsRow_below (hown.alloc _) (by simpa using hbc)
        clear hcx hfx hown hbr HN
        cases hbad : (!nb || (decide (0 < k) && decide (x.id ≤ pv))) with
        | true =>
          have hf : Hid (r = false) := by
            cases hrr : r with
            | false => rfl
            | true =>
              have F := (HR.out.1 hrr).1
              have f1 : nb = true := by rw [← HNB.out, nodeB_iff]; exact F.fine x HMem.out
              have f2 := HRA.out F
              simp [f1] at hbad
              have := f2 hbad.1
              omega
          go_wp2_with fail
          go_ret
          exact ⟨ret_bool hf.out.symm, ((Below.refl _ _).alloc (Nat.le_refl _) _).trans (hb2.mono (by omega))⟩
        | false =>
          have HS1 : Hid (Seen d (k + 1) (allKids (d.nodes.take k))) := by
            simp only [Bool.or_eq_false_iff, Bool.not_eq_false', Bool.and_eq_false_iff, decide_eq_false_iff_not] at hbad
            refine HSN.out (nodeB_iff.1 (HNB.out.trans hbad.1)) ?_
            omega
          clear hbad HSN hse HRA HNB
          go_wp2_with fail
          go_loopw [3, 6] (fun sv i' wq => ∃ m : Nat, m ≤ x.kids.length ∧ i' = .int .i64 m ∧ Hid (Seen d (k + 1) (allKids (d.nodes.take k) ++ x.kids.take m)) ∧ wq.ownsRow (w.heap.size + 1) 3 1 sv (allKids (d.nodes.take k) ++ x.kids.take m).length ((allKids (d.nodes.take k) ++ x.kids.take m).map (Value.int .i64)) ∧ Below (w.heap.size + 1) (w.alloc (.cells #[.int .i64 d.root, .int .i64 d.next, .slice (some ⟨b, off, none⟩) d.nodes.length cap] 38)) wq ∧ wo.heap.size < wq.heap.size ∧ Hid (wq.heap[wo.heap.size]? = some (.cells #[.int .i64 x.id, .int .i64 x.kind, .int .i64 x.attr, .string x.text, .slice ak x.kids.length ck] 84 (0, 0)))) (fun _ i' _ => x.kids.length - (intOf i').toNat)
          case atStart => exact ⟨0, Nat.zero_le _, rfl, by simpa using HS1, by simpa using hown2, hb2, by omega, hbx⟩
          case round =>
            obtain ⟨m, hm, rfl, hse, hown, hbr, hbo, HBX⟩ := hrel
            clear hbx hb2 hown2 hbc hszc hsz hszl hbr1 HS1
            obtain ⟨hcx, hfx⟩ := bcell (W := w.alloc _) (by simpa using hbr)
            have hsz := hbr.size
            simp only [World.size_alloc] at hsz
            have hszl : w.heap.size < wr.heap.size := by omega
            have hbr1 : b < wr.heap.size := by omega
            have hx4 := cell_of_heap HBX.out 4
            simp only [List.getElem?_toArray, List.getElem?_cons_succ, List.getElem?_cons_zero] at hx4
            by_cases hlm : m < x.kids.length
            · obtain ⟨bk, offk, rfl, hbk, hck⟩ := hka.resolve_left (by intro e; simp [e] at hlm)
              have hbkw : bk < w.heap.size := by omega
              have hbkr : bk < wr.heap.size := by omega
              have hcm := hck m hlm
              have HTS := hide (int_snoc hlm)
              have HFm : Hid (Flat d → x.kids[m]?.getD 0 ≠ d.root ∧ x.kids[m]?.getD 0 ∉ allKids (d.nodes.take k) ++ x.kids.take m ∧ x.kids[m]?.getD 0 ∈ idsOf d.nodes) := fun F => HFK.out F m hlm
              clear hck hka HFK
              have hsnl : (allKids (d.nodes.take k) ++ x.kids.take m).length ≤ 40 := by
                have := nodup_sub_len hse.out.once hse.out.there; rw [idsOf_len] at this; omega
              have HIA : Hid (IntsAt wr.heap.size wr u3 (allKids (d.nodes.take k) ++ x.kids.take m)) := ints_of_row hown
              generalize hsn : allKids (d.nodes.take k) ++ x.kids.take m = sn at *
              have HSNEq := hide hsn
              clear hsn
              generalize x.kids[m]?.getD 0 = y at *
              have hcal := calm_cell wr
              have HH : Hid (∀ t : Calm wr, Calls Tryz.prog 71 #[u3, .int .i64 y] t.out fun e w'' => e = .returned (.bool (hasB sn y)) ∧ w'' = t.out) := fun t => specHas_any wr.heap.size u3 sn y t.out (HIA.out.below (Nat.le_refl _) t.below) (by omega)
              have HAt : Hid (∀ t : Calm wr, Calls Tryz.prog 27 #[.agg #[.int .i64 d.root, .int .i64 d.next, .slice (some ⟨b, off, none⟩) d.nodes.length cap], .int .i64 y] t.out fun e w'' => e = .returned (.int .i64 (placeOf d.nodes y)) ∧ Below t.out.heap.size t.out w'') := fun t =>
                specAt_any n₀ d.root d.next _ d.nodes y t.out (hN'.below (Nat.le_refl _) (((Below.refl _ _).alloc hn _).trans ((hbr.mono (by omega)).trans (t.below.mono (by omega))))) (by have := t.below.size; omega) (by omega)
              generalize he1 : (y == d.root) = e1 at *
              generalize he2 : hasB sn y = e2 at *
              generalize he3 : placeOf d.nodes y = e3 at *
              have HE1 := hide he1
              have HE2 := hide he2
              have HE3 := hide he3
              clear he2 he3
              go_wp2_with fail
              go_cut [74] (fun v74 wc => v74 = .bool (e1 || e2 || decide (e3 < 0)) ∧ Below wr.heap.size wr wc)
              case first =>
                cases e1 with
                | true =>
                  refine wp_region_calm (by kernel_rfl) (by kernel_rfl) ?_
                  repeat (go_big_quiet_step (fail))
                  refine wpQuiet_nil ?_
                  rintro _ ⟨t, rfl⟩
                  go_wp2_with fail
                  go_meet
                  exact ⟨rfl, t.below⟩
                | false =>
                  cases e2 with
                  | true =>
                    refine wp_region_calm (by kernel_rfl) (by kernel_rfl) ?_
                    repeat (go_big_quiet_step ((go_at_call 71; exact calm_of_same (HH.out _))))
                    refine wpQuiet_nil ?_
                    rintro _ ⟨t, rfl⟩
                    go_wp2_with fail
                    go_meet
                    exact ⟨rfl, t.below⟩
                  | false =>
                    refine wp_region_calm (by kernel_rfl) (by kernel_rfl) ?_
                    repeat (go_big_quiet_step (first | (go_at_call 71; exact calm_of_same (HH.out _)) | (go_at_call 27; exact calm_of (HAt.out _))))
                    refine wpQuiet_nil ?_
                    rintro _ ⟨t, rfl⟩
                    go_wp2_with fail
                    go_meet
                    exact ⟨by simp, t.below⟩
              case rest =>
                obtain ⟨rfl, hbc⟩ := hcut
                have hszc := hbc.size
                have HBX2 : Hid (wc.heap[wo.heap.size]? = some (.cells #[.int .i64 x.id, .int .i64 x.kind, .int .i64 x.attr, .string x.text, .slice (some ⟨bk, offk, none⟩) x.kids.length ck] 84 (0, 0))) := (hbc.block _ hbo).trans HBX.out
                have hown2 := ownsRow_below hown hbc
                have hb2 : Below (w.heap.size + 1) (w.alloc (.cells #[.int .i64 d.root, .int .i64 d.next, .slice (some ⟨b, off, none⟩) d.nodes.length cap] 38)) wc := hbr.trans (hbc.mono hsz)
                clear HH HAt HIA hcal hcx hfx hown HBX hx4
                cases hbad : (e1 || e2 || decide (e3 < 0)) with
                | true =>
                  have hf : Hid (r = false) := by
                    cases hrr : r with
                    | false => rfl
                    | true =>
                      obtain ⟨f1, f2, f3⟩ := HFm.out (HR.out.1 hrr).1
                      have g1 : e1 = false := by rw [← HE1.out]; simpa using f1
                      have g2 : e2 = false := by rw [← HE2.out]; exact hasB_no.2 f2
                      have g3 : 0 ≤ e3 := by rw [← HE3.out]; obtain ⟨p, hp, _⟩ := placeOf_lt f3; omega
                      simp [g1, g2] at hbad
                      omega
                  go_wp2_with fail
                  go_ret
                  exact ⟨ret_bool hf.out.symm, ((Below.refl _ _).alloc (Nat.le_refl _) _).trans (hb2.mono (by omega))⟩
                | false =>
                  simp only [Bool.or_eq_false_iff, decide_eq_false_iff_not] at hbad
                  have HSe2 : Hid (Seen d (k + 1) (sn ++ [y])) := by
                    refine hse.out.kid (by have := HE1.out.trans hbad.1.1; simpa using this) (hasB_no.1 (HE2.out.trans hbad.1.2)) ?_
                    have h1 := hbad.2
                    rw [← HE3.out] at h1
                    exact Classical.byContradiction fun hno => h1 (by rw [placeOf_no.2 hno]; omega)
                  have hx5 := cell_of_heap HBX2.out 4
                  simp only [List.getElem?_toArray, List.getElem?_cons_succ, List.getElem?_cons_zero] at hx5
                  have hcm2 : wc.cell? ⟨bk, offk + m, none⟩ = some (.int .i64 y) := (((Below.refl _ _).alloc (Nat.le_refl _) _).trans (hb2.mono (by omega))).cell (p := ⟨bk, offk + m, none⟩) hbkw |>.trans hcm
                  clear hbad
                  go_wp2_with (at_builtin; refine wpList_append_own _ rfl _ _ 33 rfl (w.heap.size + 1) 3 i0 (.int .i64 0) 1 8 Tryz.underlying33 hi hz0 hz1 hz2 rfl (by decide) _ _ _ rfl (hown2.alloc _) ⟨wc.heap.size, 0, none⟩ 1 1 [Value.int .i64 y] rfl rfl (cell_one_new _ _ _) (one_int _) (by unfold maxLen; omega) (by omega) (by simp; omega) ?_)
                  intro v' w1 hown' hgrow _
                  have hne := own_other hown2 HBX2.out (by decide)
                  have hb3 := (hb2.alloc (by omega) (.cells #[.int .i64 y] 3)).grown hgrow (by simp; omega) (fun g hg => (hown2.lt g hg).1)
                  have hw1 := hgrow.size
                  simp only [World.size_alloc] at hw1
                  have HBX3 : Hid (w1.heap[wo.heap.size]? = some (.cells #[.int .i64 x.id, .int .i64 x.kind, .int .i64 x.attr, .string x.text, .slice (some ⟨bk, offk, none⟩) x.kids.length ck] 84 (0, 0))) :=
                    (hgrow.block wo.heap.size (by simp; omega) (fun e => hne e.symm)).trans ((Below.heap_alloc wc _ _ (by omega)).trans HBX2.out)
                  have HRow : Hid (w1.ownsRow (w.heap.size + 1) 3 1 v' (allKids (d.nodes.take k) ++ x.kids.take (m + 1)).length ((allKids (d.nodes.take k) ++ x.kids.take (m + 1)).map (Value.int .i64))) := by
                    unfold Hid; rw [HTS.out, ← List.append_assoc, HSNEq.out]; simpa using hown'
                  have HSe3 : Hid (Seen d (k + 1) (allKids (d.nodes.take k) ++ x.kids.take (m + 1))) := by
                    rw [HTS.out, ← List.append_assoc, HSNEq.out]; exact HSe2.out
                  clear hown' hgrow hne hx5 hcm2 hown2 HSe2
                  go_wp2_with fail
                  go_roundw
                  case rel => exact ⟨m + 1, by omega, by go_num, HSe3, HRow.out, hb3, by omega, HBX3⟩
                  case measure => simp [intOf]; omega
            · have HRow : Hid (wr.ownsRow (w.heap.size + 1) 3 1 u3 (allKids (d.nodes.take (k + 1))).length ((allKids (d.nodes.take (k + 1))).map (Value.int .i64))) := by
                rw [HKS.out]; have h := hown; rw [List.take_of_length_le (l := x.kids) (by omega)] at h; exact h
              have HSe3 : Hid (Seen d (k + 1) (allKids (d.nodes.take (k + 1)))) := by
                have := hse.out; rw [List.take_of_length_le (l := x.kids) (by omega)] at this; rw [HKS.out]; exact this
              clear hown hse
              go_wp2_with fail
              exact ⟨⟨k + 1, by omega, by go_num, HSe3, HRow.out, hbr⟩, by simp [intOf]; omega⟩
    · rw [List.take_of_length_le (by omega)] at hse hown
      have hsn := hse.out.once
      have hsnl : (allKids d.nodes).length ≤ 40 := by
        have := nodup_sub_len hse.out.once hse.out.there; rw [idsOf_len] at this; omega
      have HRT : Hid (r = true ↔ ((allKids d.nodes).length + 1 = d.nodes.length ∧ 0 ≤ placeOf d.nodes d.root)) := by
        have hS := hse.out
        have hfine := hS.fine
        have hrise := hS.rise
        rw [List.take_of_length_le (by omega)] at hfine hrise
        refine HR.out.trans ⟨fun ⟨F, hl⟩ => ⟨hl, ?_⟩, fun ⟨hl, hp⟩ => ⟨⟨h1, h40, hx2, hxm, hfine, hrise, hS.there, hS.once, hS.rootNo, ?_⟩, hl⟩⟩
        · obtain ⟨p, hp, _⟩ := placeOf_lt F.rootIn; omega
        · exact Classical.byContradiction fun hno => by rw [placeOf_no.2 hno] at hp; omega
      clear hse hsn HR
      obtain ⟨a3, c3, rfl⟩ := row_shape hown
      clear hown
      generalize (allKids d.nodes).length = q at *
      have HAt : Hid (Calls Tryz.prog 27 #[.agg #[.int .i64 d.root, .int .i64 d.next, .slice (some ⟨b, off, none⟩) d.nodes.length cap], .int .i64 d.root] wo fun e w'' => e = .returned (.int .i64 (placeOf d.nodes d.root)) ∧ Below wo.heap.size wo w'') :=
        specAt_any n₀ d.root d.next _ d.nodes d.root wo (hN'.below (Nat.le_refl _) (((Below.refl _ _).alloc hn _).trans (hbr.mono (by omega)))) (by omega) (by omega)
      generalize placeOf d.nodes d.root = e3 at *
      by_cases hq : (q : Int) = (d.nodes.length : Int) - 1
      · have hq1 : ((q : Int) == (d.nodes.length : Int) - 1) = true := by simpa using hq
        have HQ := hide hq
        clear hq
        go_wp2_with (go_at_call 27; refine HAt.out.mono ?_; rintro e w1 ⟨rfl, hb1⟩)
        go_ret
        refine ⟨ret_bool ?_, ((Below.refl _ _).alloc (Nat.le_refl _) _).trans ((hbr.trans (hb1.mono hsz)).mono (by omega))⟩
        rw [Bool.eq_iff_iff, HRT.out]
        have := HQ.out
        simp only [decide_eq_true_eq]
        omega
      · have hq1 : ((q : Int) == (d.nodes.length : Int) - 1) = false := by simpa using hq
        have hf : Hid (r = false) := by
          cases hrr : r with
          | false => rfl
          | true => have := HRT.out.1 hrr; omega
        clear hq
        go_wp2_with fail
        go_ret
        exact ⟨ret_bool hf.out.symm, ((Below.refl _ _).alloc (Nat.le_refl _) _).trans (hbr.mono (by omega))⟩
end Go.Proofs.YtfjhpfgffbghdaaGreatDoor
