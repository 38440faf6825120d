/-
  What the law FnFrames asks of a frame with another byte: the byte that it draws, the text that it makes, the answer.
-/
import Derived.Test.YtgpnkjapgfkblaaDoorFrameChange
import Derived.Test.YtgpnkjapgfkblaaDoorHexBack
import Derived.Test.YtgpnkjapgfkblaaDoorSrcSome
import Derived.Test.YtgpnkjapgfkblaaDoorLawAt
import Derived.Test.YtgpnkjapgfkblaaDoorSumLaw
import Derived.Laws.BitsAllLaws
namespace Go.Proofs.YtgpnkjapgfkblaaDoor
open Go.RowKit

/-- Another byte by exclusive or with a number that is not 0. -/
theorem xor_other (b : UInt8) (y : Int) (y0 : 1 ≤ y) (y1 : y ≤ 255) : ∃ c : Nat, bits .xor .u8 (b.toNat : Int) y = (c : Int) ∧ c < 256 ∧ c ≠ b.toNat := by
  have hb := b.toNat_lt
  refine ⟨b.toNat ^^^ y.toNat, ?_, ?_, ?_⟩
  · rw [u8_xor _ _ (by omega) (by omega) (by omega) (by omega), Int.toNat_natCast]
  · exact Nat.xor_lt_two_pow (n := 8) (by omega) (by omega)
  · intro e
    have h2 : b.toNat ^^^ (b.toNat ^^^ y.toNat) = y.toNat := by rw [← Nat.xor_assoc, Nat.xor_self, Nat.zero_xor]
    rw [e, Nat.xor_self] at h2
    omega

/-- A slice of one byte that was written out reads back as the text of this byte. -/
theorem one_text (w : World) (c : Nat) (hc : c < 256) :
    (convert 22 9 (.slice (some ⟨w.heap.size, 0, none⟩) 1 1)).run Tryd.prog (w.alloc (.cells #[.int .u8 (c : Int)] 5)) = .ok (.string ⟨#[c.toUInt8]⟩) (w.alloc (.cells #[.int .u8 (c : Int)] 5)) :=
  run_convert_bytes_back (P := Tryd.prog) _ 22 9 5 ⟨w.heap.size, 0, none⟩ 1 [c.toUInt8] Tryd.underlying22 Tryd.underlying5 Tryd.underlying9 (fun j hj => by
    match j, hj with
    | 0, _ =>
      have e := u8_back hc
      simp only [List.getElem_cons_zero, e]
      simp [Addr.add])

theorem changed_any {aF aR aS aM : Addr} (s t : ByteArray) (j c : Nat) (w : World) (hS : Sents w aF aR aS aM) (h : s.size ≤ 60) (hj : j < s.size) (hc : c < 256) (ht : headB s ++ sumB (headB s) = t) (hlt : 3 + j < t.size) (hne : c ≠ (t[3 + j]'hlt).toNat) (o p q m : Nat) (ho : o = 0) (hp : p = 3 + j) (hq : q = 3 + j + 1) (hm : m = t.size) :
    Calls Tryd.prog 15 #[.string (t.extract o p ++ ⟨#[c.toUInt8]⟩ ++ t.extract q m)] w fun e w' => e = .returned (.tuple #[.string ⟨#[]⟩, .int .i64 9]) ∧ Below w.heap.size w w' := by
  subst ho hp hq hm
  have z := frame_len h
  rw [ht] at z
  have o : (⟨#[c.toUInt8]⟩ : ByteArray).size = 1 := rfl
  have hz : (t.extract 0 (3 + j) ++ (⟨#[c.toUInt8]⟩ : ByteArray) ++ t.extract (3 + j + 1) t.size).size ≤ 1048576 := by
    rw [ByteArray.size_append, ByteArray.size_append, ByteArray.size_extract, ByteArray.size_extract, o]
    omega
  have e : readTop (t.extract 0 (3 + j) ++ ⟨#[c.toUInt8]⟩ ++ t.extract (3 + j + 1) t.size) = (⟨#[]⟩, 9) := by
    subst ht
    exact readTop_changed h hj hc hlt hne
  refine (implReadFrame_any _ w hz hS).mono ?_
  rw [e]
  rintro e w' ⟨rfl, hb⟩
  exact ⟨rfl, hb⟩

/-- The text of the byte that the law makes, in all the walk's spellings. -/
theorem other_text (w : World) (t : ByteArray) (j : Nat) (hlt : 3 + j < t.size) (h3 : ((3 : Int) + (j : Int)).toNat < t.size) (x : Int) (c : Nat) (lo : 0 ≤ x) (hi : x < 255) (hx : bits .xor .u8 ((t[3 + j]'hlt).toNat : Int) (1 + x) = (c : Int)) (hc : c < 256) :
    (bits .xor .u8 ((t[((3 : Int) + (j : Int)).toNat]'h3).toNat : Int) (IntKind.u8.wrap (IntKind.i64.wrap (1 + x))) = (c : Int))
    ∧ (bits .xor .u8 ((t[((3 : Int) + (j : Int)).toNat]'h3).toNat : Int) (IntKind.u8.wrap (1 + x)) = (c : Int))
    ∧ (bits .xor .u8 ((t[((3 : Int) + (j : Int)).toNat]'h3).toNat : Int) (1 + x) = (c : Int))
    ∧ (bits .xor .u8 ((t[3 + j]'hlt).toNat : Int) (IntKind.u8.wrap (IntKind.i64.wrap (1 + x))) = (c : Int))
    ∧ (bits .xor .u8 ((t[3 + j]'hlt).toNat : Int) (IntKind.u8.wrap (1 + x)) = (c : Int))
    ∧ (bits .xor .u8 ((t[3 + j]'hlt).toNat : Int) (1 + x) = (c : Int))
    ∧ ((convert 22 9 (.slice (some ⟨w.heap.size, 0, none⟩) 1 1)).run Tryd.prog (w.alloc (.cells #[.int .u8 (bits .xor .u8 ((t[((3 : Int) + (j : Int)).toNat]'h3).toNat : Int) (IntKind.u8.wrap (IntKind.i64.wrap (1 + x))))] 5)) = .ok (.string ⟨#[c.toUInt8]⟩) (w.alloc (.cells #[.int .u8 (c : Int)] 5)))
    ∧ ((convert 22 9 (.slice (some ⟨w.heap.size, 0, none⟩) 1 1)).run Tryd.prog (w.alloc (.cells #[.int .u8 (bits .xor .u8 ((t[((3 : Int) + (j : Int)).toNat]'h3).toNat : Int) (IntKind.u8.wrap (1 + x)))] 5)) = .ok (.string ⟨#[c.toUInt8]⟩) (w.alloc (.cells #[.int .u8 (c : Int)] 5)))
    ∧ ((convert 22 9 (.slice (some ⟨w.heap.size, 0, none⟩) 1 1)).run Tryd.prog (w.alloc (.cells #[.int .u8 (bits .xor .u8 ((t[((3 : Int) + (j : Int)).toNat]'h3).toNat : Int) (1 + x))] 5)) = .ok (.string ⟨#[c.toUInt8]⟩) (w.alloc (.cells #[.int .u8 (c : Int)] 5)))
    ∧ ((convert 22 9 (.slice (some ⟨w.heap.size, 0, none⟩) 1 1)).run Tryd.prog (w.alloc (.cells #[.int .u8 (bits .xor .u8 ((t[3 + j]'hlt).toNat : Int) (IntKind.u8.wrap (IntKind.i64.wrap (1 + x))))] 5)) = .ok (.string ⟨#[c.toUInt8]⟩) (w.alloc (.cells #[.int .u8 (c : Int)] 5)))
    ∧ ((convert 22 9 (.slice (some ⟨w.heap.size, 0, none⟩) 1 1)).run Tryd.prog (w.alloc (.cells #[.int .u8 (bits .xor .u8 ((t[3 + j]'hlt).toNat : Int) (IntKind.u8.wrap (1 + x)))] 5)) = .ok (.string ⟨#[c.toUInt8]⟩) (w.alloc (.cells #[.int .u8 (c : Int)] 5)))
    ∧ ((convert 22 9 (.slice (some ⟨w.heap.size, 0, none⟩) 1 1)).run Tryd.prog (w.alloc (.cells #[.int .u8 (bits .xor .u8 ((t[3 + j]'hlt).toNat : Int) (1 + x))] 5)) = .ok (.string ⟨#[c.toUInt8]⟩) (w.alloc (.cells #[.int .u8 (c : Int)] 5)))
    ∧ ((convert 22 9 (.slice (some ⟨w.heap.size, 0, none⟩) 1 1)).run Tryd.prog (w.alloc (.cells #[.int .u8 (c : Int)] 5)) = .ok (.string ⟨#[c.toUInt8]⟩) (w.alloc (.cells #[.int .u8 (c : Int)] 5)))
    ∧ (IntKind.i64.wrap (1 + x) = 1 + x)
    ∧ (IntKind.u8.wrap (1 + x) = 1 + x) := by
  have e0 : ((3 : Int) + (j : Int)).toNat = 3 + j := by omega
  have e : (t[((3 : Int) + (j : Int)).toNat]'h3) = t[3 + j]'hlt := by simp only [e0]
  have w1 : IntKind.i64.wrap (1 + x) = 1 + x := by rw [IntKind.wrap_i64]; omega
  have w2 : IntKind.u8.wrap (1 + x) = 1 + x := u8_wrap _ (by omega) (by omega)
  have o := one_text w c hc
  rw [e, w1, w2, hx]
  exact ⟨rfl, rfl, rfl, rfl, rfl, rfl, o, o, o, o, o, o, o, rfl, rfl⟩

/-- The law's third choice: a number from 0 to 254, and by it another byte. -/
def OtherOf (b : UInt8) (e : Ending) : Prop := ∃ x : Int, ∃ c : Nat, e = .returned (.int .i64 x) ∧ 0 ≤ x ∧ x < 255 ∧ bits .xor .u8 (b.toNat : Int) (1 + x) = (c : Int) ∧ c < 256 ∧ c ≠ b.toNat
theorem atOther_any (b : UInt8) (a : Option Addr) (len cap : Nat) (zs : List Int) (w : World) (hr : BytesRow w a len cap zs) (hl : len ≤ 1048576) :
    Calls Tryd.prog 5 #[.slice a len cap, .int .i64 2, .int .i64 255] w fun e w' => OtherOf b e ∧ Below w.heap.size w w' := by
  refine (at_any a len cap 2 255 zs w hr hl (by omega) (by omega) (by omega)).mono ?_
  rintro e w7 ⟨⟨x7, rfl, lo7, hi7⟩, hb7⟩
  have hi := hi7 (by omega)
  obtain ⟨c, hx, hc, hne⟩ := xor_other b (1 + x7) (by omega) (by omega)
  exact ⟨⟨x7, c, rfl, lo7, hi, hx, hc, hne⟩, hb7⟩
theorem atOther_from {w0 : World} (b : UInt8) (a : Option Addr) (len cap : Nat) (zs : List Int) (w : World) (hR : Hid (∀ wk, Below w0.heap.size w0 wk → BytesRow wk a len cap zs)) (hl : len ≤ 1048576) (hb : Below w0.heap.size w0 w) :
    Calls Tryd.prog 5 #[.slice a len cap, .int .i64 2, .int .i64 255] w fun e w' => OtherOf b e ∧ Below w0.heap.size w0 w' :=
  (atOther_any b a len cap zs w (hR.out _ hb) hl).mono fun _ _ h => ⟨h.1, hb.trans (h.2.mono hb.size)⟩
theorem changed_from {w0 : World} {aF aR aS aM : Addr} (s t : ByteArray) (j c : Nat) (w : World) (hH : Hid (∀ wk, Below w0.heap.size w0 wk → Sents wk aF aR aS aM)) (h : s.size ≤ 60) (hj : j < s.size) (hc : c < 256) (ht : headB s ++ sumB (headB s) = t) (hlt : 3 + j < t.size) (hne : c ≠ (t[3 + j]'hlt).toNat) (o p q m : Nat) (hb : Below w0.heap.size w0 w) (ho : o = 0) (hp : p = 3 + j) (hq : q = 3 + j + 1) (hm : m = t.size) :
    Calls Tryd.prog 15 #[.string (t.extract o p ++ ⟨#[c.toUInt8]⟩ ++ t.extract q m)] w fun e w' => e = .returned (.tuple #[.string ⟨#[]⟩, .int .i64 9]) ∧ Below w0.heap.size w0 w' :=
  (changed_any s t j c w (hH.out _ hb) h hj hc ht hlt hne o p q m ho hp hq hm).mono fun _ _ h => ⟨h.1, hb.trans (h.2.mono hb.size)⟩
theorem below_more {w wk : World} (hb : Below w.heap.size w wk) (o : Obj) : Below w.heap.size w (wk.alloc o) := hb.alloc hb.size o
/-- What a frame with fewer bytes is answered. -/
def FewOf (e : Ending) : Prop := ∃ (y : ByteArray) (q : Int), e = .returned (.tuple #[.string y, .int .i64 q]) ∧ (q = 8 ∨ q = 3)
theorem fewer_from {w0 : World} {aF aR aS aM : Addr} (s t : ByteArray) (k : Nat) (w : World) (hH : Hid (∀ wk, Below w0.heap.size w0 wk → Sents wk aF aR aS aM)) (h : s.size ≤ 60) (ht : headB s ++ sumB (headB s) = t) (hk : k < t.size) (hb : Below w0.heap.size w0 w) :
    Calls Tryd.prog 15 #[.string (t.extract 0 k)] w fun e w' => FewOf e ∧ Below w0.heap.size w0 w' := by
  have z := frame_len h
  have hf := readTop_fewer (k := k) h (by rw [← z, ht]; exact hk)
  rw [ht] at z hf
  have zk := size_extract0 t k (by omega)
  refine (implReadFrame_any (t.extract 0 k) w (by omega) (hH.out _ hb)).mono ?_
  rintro e w' ⟨rfl, hc⟩
  exact ⟨⟨_, _, rfl, hf⟩, hb.trans (hc.mono hb.size)⟩
/-- What a text or a frame with more bytes is answered: this code. -/
def CodeIs (q : Int) (e : Ending) : Prop := ∃ y : ByteArray, e = .returned (.tuple #[.string y, .int .i64 q])
theorem more_from {w0 : World} {aF aR aS aM : Addr} (s t : ByteArray) (w : World) (hH : Hid (∀ wk, Below w0.heap.size w0 wk → Sents wk aF aR aS aM)) (h : s.size ≤ 60) (ht : headB s ++ sumB (headB s) = t) (hb : Below w0.heap.size w0 w) :
    Calls Tryd.prog 15 #[.string (t ++ ⟨#[120]⟩)] w fun e w' => CodeIs 8 e ∧ Below w0.heap.size w0 w' := by
  have z := frame_len h
  have hf := readTop_more h
  rw [ht] at z hf
  have o : (⟨#[120]⟩ : ByteArray).size = 1 := rfl
  have hz : (t ++ (⟨#[120]⟩ : ByteArray)).size ≤ 1048576 := by rw [ByteArray.size_append, o]; omega
  clear o
  generalize t ++ (⟨#[120]⟩ : ByteArray) = u at *
  refine (implReadFrame_any u w hz (hH.out _ hb)).mono ?_
  rintro e w' ⟨rfl, hc⟩
  exact ⟨⟨_, by rw [hf]⟩, hb.trans (hc.mono hb.size)⟩
theorem hexOf_from {w0 : World} (s : ByteArray) (w : World) (h : s.size ≤ 60) (hb : Below w0.heap.size w0 w) :
    Calls Tryd.prog 16 #[.string s] w fun e w' => e = .returned (.string (hexB s)) ∧ Below w0.heap.size w0 w' := by
  refine (implHex_any s w (by omega)).mono ?_
  rw [hexAns_small h]
  rintro e w' ⟨rfl, hc⟩
  exact ⟨rfl, hb.trans (hc.mono hb.size)⟩
theorem hexSpec_from {w0 : World} (s : ByteArray) (w : World) (h : s.size ≤ 60) (hb : Below w0.heap.size w0 w) :
    Calls Tryd.prog 20 #[.string s] w fun e w' => e = .returned (.string (hexB s)) ∧ Below w0.heap.size w0 w' := by
  refine (specHexOf_any s w (by omega)).mono ?_
  rw [hexAns_small h]
  rintro e w' ⟨rfl, hc⟩
  exact ⟨rfl, hb.trans (hc.mono hb.size)⟩
theorem back_from {w0 : World} {aF aR aS aM : Addr} (s x : ByteArray) (w : World) (hH : Hid (∀ wk, Below w0.heap.size w0 wk → Sents wk aF aR aS aM)) (h : s.size ≤ 60) (hx : hexB s = x) (hb : Below w0.heap.size w0 w) :
    Calls Tryd.prog 17 #[.string x] w fun e w' => e = .returned (.tuple #[.string s, .int .i64 0]) ∧ Below w0.heap.size w0 w' := by
  have z := hexB_size s
  have b1 := bytes_back h
  rw [hx] at z b1
  refine (implBytes_any x w (by omega) (hH.out _ hb)).mono ?_
  rw [b1.1, b1.2]
  rintro e w' ⟨rfl, hc⟩
  exact ⟨rfl, hb.trans (hc.mono hb.size)⟩
theorem odd_from {w0 : World} {aF aR aS aM : Addr} (s x : ByteArray) (w : World) (hH : Hid (∀ wk, Below w0.heap.size w0 wk → Sents wk aF aR aS aM)) (h : s.size ≤ 60) (hx : hexB s = x) (hb : Below w0.heap.size w0 w) :
    Calls Tryd.prog 17 #[.string (x ++ ⟨#[48]⟩)] w fun e w' => CodeIs 3 e ∧ Below w0.heap.size w0 w' := by
  have z := hexB_size s
  have b1 := bytes_odd h
  rw [hx] at z b1
  have o : (⟨#[48]⟩ : ByteArray).size = 1 := rfl
  have hz : (x ++ (⟨#[48]⟩ : ByteArray)).size ≤ 1048576 := by rw [ByteArray.size_append, o]; omega
  clear o
  generalize x ++ (⟨#[48]⟩ : ByteArray) = u at *
  refine (implBytes_any u w hz (hH.out _ hb)).mono ?_
  rw [b1]
  rintro e w' ⟨rfl, hc⟩
  exact ⟨⟨_, rfl⟩, hb.trans (hc.mono hb.size)⟩
end Go.Proofs.YtgpnkjapgfkblaaDoor
