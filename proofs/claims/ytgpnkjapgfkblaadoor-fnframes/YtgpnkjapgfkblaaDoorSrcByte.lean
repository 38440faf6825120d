/-
  What a source's next byte is: a number from 0 to 255; the source goes on by one place. Conditions: the source lies in a block of its own, its row of bytes elsewhere.
-/
import Derived.Test.YtgpnkjapgfkblaaDoorRows
import Derived.WalkKit
import Derived.WalkSpells
import Derived.BigRegion
namespace Go.Proofs.YtgpnkjapgfkblaaDoor
open Go.RowKit

/-- A source in block b: its row of bytes, its place, its seed. -/
structure SrcAt (w : World) (b : Nat) (a : Option Addr) (len cap : Nat) (k sd : Int) : Prop where
  c0 : w.cell? ⟨b, 0, none⟩ = some (.slice a len cap)
  c1 : w.cell? ⟨b, 1, none⟩ = some (.int .i64 k)
  c2 : w.cell? ⟨b, 2, none⟩ = some (.int .i64 sd)
  f1 : w.frozen? ⟨b, 1, none⟩ = false
  f2 : w.frozen? ⟨b, 2, none⟩ = false

section
variable {w : World} {b : Nat} {a : Option Addr} {len cap : Nat} {k sd : Int}
theorem SrcAt.place (h : SrcAt w b a len cap k sd) (k' : Int) : SrcAt (w.setCell ⟨b, 1, none⟩ (.int .i64 k')) b a len cap k' sd :=
  ⟨by rw [World.cell?_setCell_other _ _ _ _ (by simp)]; exact h.c0, World.cell?_setCell_same _ _ _ h.c1, by rw [World.cell?_setCell_other _ _ _ _ (by simp)]; exact h.c2, by rw [World.frozen?_setCell]; exact h.f1, by rw [World.frozen?_setCell]; exact h.f2⟩
theorem SrcAt.seed (h : SrcAt w b a len cap k sd) (sd' : Int) : SrcAt (w.setCell ⟨b, 2, none⟩ (.int .i64 sd')) b a len cap k sd' :=
  ⟨by rw [World.cell?_setCell_other _ _ _ _ (by simp)]; exact h.c0, by rw [World.cell?_setCell_other _ _ _ _ (by simp)]; exact h.c1, World.cell?_setCell_same _ _ _ h.c2, by rw [World.frozen?_setCell]; exact h.f1, by rw [World.frozen?_setCell]; exact h.f2⟩
theorem SrcAt.drew (h : SrcAt w b a len cap k sd) : SrcAt w.drew b a len cap k sd := ⟨h.c0, h.c1, h.c2, h.f1, h.f2⟩
end

theorem size_setCell (w : World) (p : Addr) (v : Value) : (w.setCell p v).heap.size = w.heap.size := by simp [World.setCell]

theorem grown_set {w w' : World} {b o : Nat} (h : w.grownBy w' (some b)) (u : Value) : w.grownBy (w'.setCell ⟨b, o, none⟩ u) (some b) :=
  ⟨h.os, h.tape, h.output, by rw [size_setCell]; exact h.size, fun j hj hne => (Below.heap_setCell w' ⟨b, o, none⟩ u j (fun e => hne (by rw [e]))).trans (h.block j hj hne)⟩
theorem grown_drew {w w' : World} {b : Nat} (h : w.grownBy w' (some b)) : w.grownBy w'.drew (some b) := ⟨h.os, h.tape, h.output, h.size, h.block⟩
theorem below_one (w : World) (b : Nat) (u : Value) : w.grownBy (w.setCell ⟨b, 1, none⟩ u).drew (some b) := grown_drew (grown_set (World.grownBy.refl w (some b)) u)
theorem below_two (w : World) (b : Nat) (u v : Value) : w.grownBy ((w.setCell ⟨b, 1, none⟩ u).setCell ⟨b, 2, none⟩ v) (some b) := grown_set (grown_set (World.grownBy.refl w (some b)) u) v
theorem size_two (w : World) (b : Nat) (u v : Value) : ((w.setCell ⟨b, 1, none⟩ u).setCell ⟨b, 2, none⟩ v).heap.size = w.heap.size := by rw [size_setCell, size_setCell]

/-- An ending answers a byte; the source has gone on. -/
def ByteSays (w : World) (b : Nat) (a : Option Addr) (len cap : Nat) (k : Int) (e : Ending) (w' : World) : Prop :=
  ∃ r sd : Int, e = .returned (.int .i64 r) ∧ 0 ≤ r ∧ r ≤ 255 ∧ 0 ≤ sd ∧ sd < 2147483648 ∧ SrcAt w' b a len cap (k + 1) sd ∧ w.grownBy w' (some b) ∧ w'.heap.size = w.heap.size

set_option maxHeartbeats 1000000 in
set_option maxRecDepth 100000 in
theorem byte_seed (b : Nat) (a : Option Addr) (len cap : Nat) (k sd : Int) (w : World) (h : SrcAt w b a len cap k sd) (hk0 : 0 ≤ k) (hk : k ≤ 1000000) (s0 : 0 ≤ sd) (s1 : sd < 2147483648) (h1 : (len : Int) < k + 1) (h2 : ¬ 3000 < k + 1) :
    Calls Tryd.prog 40 #[.pointer (some ⟨b, 0, none⟩)] w fun e w' => ByteSays w b a len cap k e w' := by
  have k0 := h.c0
  have k1 := h.c1
  have k2 := h.c2
  have g1 := h.f1
  have g2 := h.f2
  have HF : Hid (∀ x : Int, SrcAt ((w.setCell ⟨b, 1, none⟩ (.int .i64 (k + 1))).setCell ⟨b, 2, none⟩ (.int .i64 x)).drew b a len cap (k + 1) x) := fun x => ((h.place (k + 1)).seed x).drew
  clear h
  go_enter Tryd.func40, Tryd.ntmps40
  go_wp2
  go_region
  all_goals go_wp2
  all_goals go_ret
  all_goals exact ⟨_, _, rfl, by omega, by omega, by omega, by omega, HF.out _, grown_drew (below_two _ _ _ _), size_two _ _ _ _⟩

set_option maxHeartbeats 2000000 in
set_option maxRecDepth 100000 in
theorem byte_read (b ab ao len cap k : Nat) (z sd : Int) (w : World) (h : SrcAt w b (some ⟨ab, ao, none⟩) len cap (k : Int) sd) (s0 : 0 ≤ sd) (s1 : sd < 2147483648) (hl : len ≤ 1048576) (h1 : k < len) (hne : ab ≠ b)
    (hz : w.cell? ⟨ab, ao + k, none⟩ = some (.int .u8 z)) (z0 : 0 ≤ z) (z1 : z ≤ 255) :
    Calls Tryd.prog 40 #[.pointer (some ⟨b, 0, none⟩)] w fun e w' => ByteSays w b (some ⟨ab, ao, none⟩) len cap (k : Int) e w' := by
  have k0 := h.c0
  have k1 := h.c1
  have k2 := h.c2
  have g1 := h.f1
  have g2 := h.f2
  have HF : Hid (∀ x : Int, SrcAt ((w.setCell ⟨b, 1, none⟩ (.int .i64 ((k : Int) + 1))).setCell ⟨b, 2, none⟩ (.int .i64 x)) b (some ⟨ab, ao, none⟩) len cap ((k : Int) + 1) x) := fun x => (h.place ((k : Int) + 1)).seed x
  have y1 : ∀ u, (w.setCell ⟨b, 1, none⟩ u).cell? ⟨ab, ao + k, none⟩ = some (.int .u8 z) := fun u => by rw [World.cell?_setCell_other _ _ _ _ (by intro e; exact hne (congrArg Addr.block e).symm)]; exact hz
  have y2 : ∀ u v, ((w.setCell ⟨b, 1, none⟩ u).setCell ⟨b, 2, none⟩ v).cell? ⟨ab, ao + k, none⟩ = some (.int .u8 z) := fun u v => by rw [World.cell?_setCell_other _ _ _ _ (by intro e; exact hne (congrArg Addr.block e).symm)]; exact y1 u
  clear h hz
  go_enter Tryd.func40, Tryd.ntmps40
  go_wp2
  go_region
  all_goals go_wp2
  all_goals go_region
  all_goals go_wp2
  all_goals go_region
  all_goals go_wp2
  all_goals go_ret
  all_goals exact ⟨_, _, rfl, by omega, by omega, by omega, by omega, (HF.out _).drew.drew.drew, grown_drew (grown_drew (grown_drew (below_two _ _ _ _))), size_two _ _ _ _⟩

/-- What is told of a slice of bytes that came in: nil, or a row of cells. -/
def BytesRow (w : World) (a : Option Addr) (len cap : Nat) (zs : List Int) : Prop :=
  (a = none ∧ len = 0 ∧ cap = 0 ∧ zs = []) ∨
  ∃ x, a = some x ∧ len ≤ cap ∧ cap ≤ maxLen ∧ zs.length = cap ∧ (∀ i, i < zs.length → w.cell? (x.add i) = some (.int .u8 (zs.getD i 0))) ∧ ∀ n ∈ zs, (Lit.int .u8 n).wf = true

theorem add_block (x : Addr) (i : Nat) : (x.add i).block = x.block := by unfold Addr.add; split <;> rfl

theorem BytesRow.below {w w' : World} {a : Option Addr} {len cap : Nat} {zs : List Int} (h : BytesRow w a len cap zs) {B : Nat} (hb : Below B w w') (hB : ∀ x, a = some x → 0 < cap → x.block < B) : BytesRow w' a len cap zs := by
  rcases h with h | ⟨x, ha, h1, h2, h3, h4, h5⟩
  · exact .inl h
  · exact .inr ⟨x, ha, h1, h2, h3, fun i hi => (hb.cell (p := x.add i) (by rw [add_block]; exact hB x ha (by omega))).trans (h4 i hi), h5⟩

theorem wf_byte {n : Int} (h : (Lit.int .u8 n).wf = true) : 0 ≤ n ∧ n ≤ 255 := by
  simpa [Lit.wf, IntKind.min, IntKind.max, IntKind.signed, IntKind.bits] using h

/-- A byte of a slice that came in, in a plain spelling. -/
theorem BytesRow.at {w : World} {a : Option Addr} {len cap : Nat} {zs : List Int} (h : BytesRow w a len cap zs) {k : Nat} (hk : k < len) :
    ∃ ab ao, a = some ⟨ab, ao, none⟩ ∧ w.cell? ⟨ab, ao + k, none⟩ = some (.int .u8 (zs.getD k 0)) ∧ 0 ≤ zs.getD k 0 ∧ zs.getD k 0 ≤ 255 := by
  rcases h with ⟨_, h0, _⟩ | ⟨⟨ab, ao, spot⟩, rfl, h1, h2, h3, h4, h5⟩
  · omega
  · have hc := h4 k (by omega)
    have hspot : spot = none := by simpa [Addr.add] using World.cell?_spot (h4 0 (by omega))
    subst hspot
    have hb := wf_byte (h5 (zs.getD k 0) (by rw [List.getD_eq_getElem?_getD, List.getElem?_eq_getElem (by omega), Option.getD_some]; exact List.getElem_mem _))
    refine ⟨ab, ao, rfl, ?_, hb.1, hb.2⟩
    have e : (⟨ab, ao, none⟩ : Addr).add k = ⟨ab, ao + k, none⟩ := by simp [Addr.add]
    rw [← e]; exact hc

theorem byte_any (b : Nat) (a : Option Addr) (len cap k : Nat) (sd : Int) (zs : List Int) (w : World) (h : SrcAt w b a len cap (k : Int) sd) (hr : BytesRow w a len cap zs) (hne : ∀ x, a = some x → 0 < cap → x.block < b) (hk : k ≤ 1000) (s0 : 0 ≤ sd) (s1 : sd < 2147483648) (hl : len ≤ 1048576) :
    Calls Tryd.prog 40 #[.pointer (some ⟨b, 0, none⟩)] w fun e w' => ByteSays w b a len cap (k : Int) e w' := by
  by_cases h1 : k < len
  · obtain ⟨ab, ao, rfl, hc, z0, z1⟩ := hr.at h1
    have hcap : 0 < cap := by
      rcases hr with ⟨h0, _⟩ | ⟨_, _, h2, _⟩
      · cases h0
      · omega
    exact byte_read b ab ao len cap k _ sd w h s0 s1 hl h1 (by have := hne _ rfl hcap; simp at this; omega) hc z0 z1
  · exact byte_seed b a len cap k sd w h (by omega) (by omega) s0 s1 (by omega) (by omega)
end Go.Proofs.YtgpnkjapgfkblaaDoor
