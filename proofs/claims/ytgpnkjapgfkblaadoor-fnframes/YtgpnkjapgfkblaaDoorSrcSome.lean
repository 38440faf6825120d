/-
  What SomeText answers: some text of as many bytes as were asked for. It makes new memory alone. Conditions: the slice is at most 1048576 bytes long, at most 1000 bytes are asked for.
-/
import Derived.Test.YtgpnkjapgfkblaaDoorSrcByte
import Derived.Test.YtgpnkjapgfkblaaDoorRowText
namespace Go.Proofs.YtgpnkjapgfkblaaDoor
open Go.RowKit

theorem SrcAt.same {w w' : World} {b : Nat} {a : Option Addr} {len cap : Nat} {k sd : Int} (h : SrcAt w b a len cap k sd) (e : w'.heap[b]? = w.heap[b]?) : SrcAt w' b a len cap k sd :=
  ⟨(World.cell?_of_block (a := ⟨b, 0, none⟩) e).trans h.c0, (World.cell?_of_block (a := ⟨b, 1, none⟩) e).trans h.c1, (World.cell?_of_block (a := ⟨b, 2, none⟩) e).trans h.c2, (World.frozen?_of_block (a := ⟨b, 1, none⟩) e).trans h.f1, (World.frozen?_of_block (a := ⟨b, 2, none⟩) e).trans h.f2⟩

theorem below_of_grown {w w' : World} {b : Nat} (h : w.grownBy w' (some b)) (hb : b ≤ w.heap.size) : Below b w w' :=
  ⟨h.os, h.tape, h.output, h.size, fun k hk => h.block k (by omega) (fun e => by have := Option.some.inj e; omega)⟩

theorem byte_snoc (l : List UInt8) {x : Int} (h0 : 0 ≤ x) (h1 : x ≤ 255) : Lib.byteCells l ++ [Value.int .u8 x] = Lib.byteCells (l ++ [x.toNat.toUInt8]) := by
  have e : ((x.toNat.toUInt8).toNat : Int) = x := by
    have : x.toNat.toUInt8.toNat = x.toNat := by rw [Nat.toUInt8_eq, UInt8.toNat_ofNat']; omega
    rw [this]; omega
  simp only [Lib.byteCells, List.map_append, List.map_cons, List.map_nil, e]

/-- An ending answers a text of so many bytes. -/
def TextOf (n : Nat) (e : Ending) : Prop := ∃ t : ByteArray, e = .returned (.string t) ∧ t.size = n

/-- What holds of the loop that gathers bytes. -/
def SomeRel (w : World) (b : Nat) (a : Option Addr) (len cap n : Nat) (zs : List Int) (k : Nat) (v : Value) (wr : World) : Prop :=
  ∃ (l : List UInt8) (sd : Int), l.length = k ∧ wr.ownsRow w.heap.size 5 1 v k (Lib.byteCells l) ∧ SrcAt wr b a len cap (k : Int) sd ∧ 0 ≤ sd ∧ sd < 2147483648 ∧ BytesRow wr a len cap zs ∧ Below b w wr ∧ k ≤ n

set_option maxHeartbeats 1000000 in
set_option maxRecDepth 100000 in
theorem some_any (b : Nat) (a : Option Addr) (len cap n : Nat) (sd : Int) (zs : List Int) (w : World) (h : SrcAt w b a len cap 0 sd) (hr : BytesRow w a len cap zs) (hlt : b < w.heap.size) (hne : ∀ x, a = some x → 0 < cap → x.block < b) (hn : n ≤ 1000) (s0 : 0 ≤ sd) (s1 : sd < 2147483648) (hl : len ≤ 1048576) :
    Calls Tryd.prog 22 #[.pointer (some ⟨b, 0, none⟩), .int .i64 (n : Int)] w fun e w' => TextOf n e ∧ Below b w w' := by
  obtain ⟨i0, hi, hz0, hz1, hz2⟩ := info_parts infoByte
  have HS : Hid (SomeRel w b a len cap n zs 0 (.slice (some ⟨w.heap.size, 0, none⟩) 0 0) (w.alloc (.cells #[] 5))) :=
    ⟨[], sd, rfl, World.ownsRow_made w #[] 0 (Nat.le_refl _) (Nat.zero_le _) rfl, h.same (Below.heap_alloc _ _ _ hlt), s0, s1, hr.below ((Below.refl b w).alloc (by omega) _) hne, (Below.refl b w).alloc (by omega) _, Nat.zero_le _⟩
  clear h hr
  go_enter Tryd.func22, Tryd.ntmps22
  go_wp2
  go_loopw [5, 6] (fun v i wr => ∃ k : Nat, i = .int .i64 k ∧ k ≤ n ∧ Hid (SomeRel w b a len cap n zs k v wr)) (fun _ i _ => n - (intOf i).toNat)
  case atStart => exact ⟨0, rfl, Nat.zero_le _, HS⟩
  case round =>
    clear HS
    obtain ⟨k, rfl, hk, HR⟩ := hrel
    obtain ⟨l, sd', hll, hown, hsrc, t0, t1, hrow, hnx, _⟩ := HR.out
    have hsz := hnx.size
    by_cases hlt2 : k < n
    · have HL : Hid (l.length = k) := hll
      have HO : Hid (wr.ownsRow w.heap.size 5 1 u5 k (Lib.byteCells l)) := hown
      have HR2 : Hid (BytesRow wr a len cap zs) := hrow
      have HSr : Hid (SrcAt wr b a len cap (k : Int) sd') := hsrc
      clear hll hown hrow hsrc
      go_wp2_with fail
      refine (byte_any b a len cap k sd' zs _ HSr.out HR2.out hne (by omega) t0 t1 hl).mono ?_
      rintro e w1 ⟨r, sd2, rfl, r0, r1, u0, u1, hs1, hg1, hz1'⟩
      have hown1 : w1.ownsRow w.heap.size 5 1 u5 k (Lib.byteCells l) := HO.out.kept hg1 (by cases hv : u5.ownBlock with | none => exact .inl rfl | some g => exact .inr (fun e => by have := (HO.out.lt g hv).1; have := Option.some.inj e; omega))
      have hb1 : Below b wr w1 := below_of_grown hg1 (by omega)
      have HS1 : Hid (SrcAt w1 b a len cap ((k : Int) + 1) sd2) := hs1
      have hsz1 : w.heap.size ≤ w1.heap.size := by omega
      have HC : Hid (Lib.byteCells l ++ [Value.int .u8 r] = Lib.byteCells (l ++ [r.toNat.toUInt8])) := byte_snoc l r0 r1
      have HG : Hid (w1.heap.size = wr.heap.size) := hz1'
      clear hg1 hs1 hz1'
      go_wp2_with (at_builtin; refine wpList_append_own _ rfl _ _ 22 rfl w.heap.size 5 i0 (.int .u8 0) 1 1 Tryd.underlying22 hi hz0 hz1 hz2 rfl (by decide) _ _ _ rfl (hown1.alloc _) ⟨_, 0, none⟩ 1 1 [Value.int .u8 r] rfl rfl (cell_one_new _ _ _) (cell_one _) (by unfold maxLen; omega) (by omega) (by simp; omega) ?_)
      intro v' w2 hown2 hgrow _
      rw [HC.out] at hown2
      have hb2 : Below b w1 w2 := ((Below.refl b w1).alloc (by omega) _).grown hgrow (by simp; omega) (fun j hj => by have := (hown1.lt j hj).1; omega)
      have hsame : w2.heap[b]? = w1.heap[b]? := (hgrow.block b (by simp; omega) (fun e => by have := (hown1.lt b e.symm).1; omega)).trans (Below.heap_alloc _ _ _ (by omega))
      have HF : Hid (SomeRel w b a len cap n zs (k + 1) v' w2) :=
        ⟨l ++ [r.toNat.toUInt8], sd2, by simp [HL.out], hown2, by have := HS1.out.same hsame; simpa using this, u0, u1, (HR2.out.below hb1 hne).below hb2 hne, (hnx.trans hb1).trans hb2, by omega⟩
      clear hgrow hown2 hown1 hsame
      go_wp2
      go_roundw
      case rel => exact ⟨k + 1, by go_num, by omega, HF⟩
      case measure => simp [intOf]; omega
    · obtain rfl : k = n := by omega
      rw [show wr.ownsRow w.heap.size 5 1 u5 k (Lib.byteCells l) = wr.ownsRow w.heap.size 5 1 u5 l.length (Lib.byteCells l) by rw [hll]] at hown
      have HL : Hid (l.length = k) := hll
      clear hll hsrc hrow
      rcases hown.2 with ⟨rfl, h0⟩ | ⟨g, cap', cur, rfl, -⟩
      · have HN : Hid (l = []) := List.eq_nil_of_length_eq_zero h0
        have hcv := text_of_none wr
        clear hown h0
        go_wp2
        go_ret
        exact ⟨⟨⟨#[]⟩, rfl, by rw [← HL.out, HN.out]; rfl⟩, hnx⟩
      · have hcv := text_of_row hown
        clear hown
        go_wp2
        go_ret
        exact ⟨⟨⟨l.toArray⟩, rfl, by rw [← HL.out]; simp [ByteArray.size]⟩, hnx⟩

theorem BytesRow.lt {w : World} {a : Option Addr} {len cap : Nat} {zs : List Int} (h : BytesRow w a len cap zs) : ∀ x, a = some x → 0 < cap → x.block < w.heap.size := by
  intro x e hc
  rcases h with ⟨h0, _⟩ | ⟨y, hy, h1, h2, h3, h4, _⟩
  · rw [h0] at e; cases e
  · obtain rfl := Option.some.inj (hy.symm.trans e)
    have := World.block_lt_of_cell? w _ (h4 0 (by omega))
    rwa [add_block] at this

theorem source_any (a : Option Addr) (len cap : Nat) (w : World) (hl : len ≤ 1048576) :
    Calls Tryd.prog 21 #[.slice a len cap] w fun e w' => e = .returned (.pointer (some ⟨w.heap.size, 0, none⟩)) ∧ w' = w.alloc (.cells #[.slice a len cap, .int .i64 0, .int .i64 ((len : Int) % 1000)] 50) := by
  go_enter Tryd.func21, Tryd.ntmps21
  go_wp2
  go_ret
  exact ⟨rfl, rfl⟩

theorem someText_any (a : Option Addr) (len cap : Nat) (n : Int) (zs : List Int) (w : World) (hr : BytesRow w a len cap zs) (hl : len ≤ 1048576) (n0 : 0 ≤ n) (n1 : n ≤ 1000) :
    Calls Tryd.prog 6 #[.slice a len cap, .int .i64 n] w fun e w' => TextOf n.toNat e ∧ Below w.heap.size w w' := by
  obtain ⟨m, rfl⟩ := Int.eq_ofNat_of_zero_le n0
  rw [Int.toNat_natCast]
  have HL : Hid (∀ x, a = some x → 0 < cap → x.block < w.heap.size) := hr.lt
  have HR : Hid (BytesRow w a len cap zs) := hr
  clear hr
  go_enter Tryd.func6, Tryd.ntmps6
  go_wp2_with fail
  refine (source_any a len cap _ hl).mono ?_
  rintro e w1 ⟨rfl, hw⟩
  have hb1 : Below w.heap.size w w1 := by rw [hw]; exact (Below.refl _ _).alloc (Nat.le_refl _) _
  have HS : Hid (SrcAt w1 w.heap.size a len cap 0 ((len : Int) % 1000)) := by
    rw [hw]
    exact ⟨by simp, by simp, by simp, by simp, by simp⟩
  have hs1 : w.heap.size < w1.heap.size := by rw [hw]; simp
  clear hw
  go_wp2_with fail
  refine (some_any w.heap.size a len cap m _ zs _ HS.out (HR.out.below hb1 HL.out) hs1 HL.out (by omega) (by omega) (by omega) hl).mono ?_
  rintro e w2 ⟨⟨t, rfl, ht⟩, hb2⟩
  have HT : Hid (t.size = m) := ht
  clear ht
  go_wp2
  go_ret
  exact ⟨⟨t, rfl, HT.out⟩, hb1.trans hb2⟩
end Go.Proofs.YtgpnkjapgfkblaaDoor
