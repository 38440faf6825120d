/-
  What the functions that write a text as digits answer, the program's and the specification's: the plain function of the Plain text.
-/
import Derived.Test.YtpkblnponeonkaaDoorRowText
import Derived.Test.YtpkblnponeonkaaDoorSumPlain
import Derived.Test.YtpkblnponeonkaaDoorHexPlain
import Derived.Deep.RegionLaw
import Derived.OwnWalk
namespace Go.Proofs.YtpkblnponeonkaaDoor
open Go.RowKit

/-- append onto a row that the call owns, as one step of a region that draws its order. -/
theorem step_append_own {P : Program} {ops : Array Oper} {o : Oper} {a : Act} {w : World} {K : Act → World → Prop} {Q : Exit → Act → World → Prop} {E : Prop}
    (hg : o.guard = none) (s x : Operand) (t : TypeId) (hop : o.op = Op.call { callee := Callee.builtin Builtin.append, args := #[s, x], argTypes := #[t, t] })
    (base : Nat) (e : TypeId) (i : TypeInfo) (z : Value) (size bytes : Nat) (h1 : P.underlying t = some (.slice e)) (h2 : P.info? e = some i) (h3 : i.zero = some z) (h4 : i.size = size) (h5 : i.bytes = bytes) (h6 : z.cells.size = size) (h7 : 0 < size)
    (v : Value) (n : Nat) (xs : List Value) (hs : a.eval s = v) (hown : w.ownsRow base e size v n xs)
    (ad : Addr) (m c : Nat) (news : List Value) (hx : a.eval x = .slice (some ad) m c) (hn : news.length = m * size) (hc : ∀ j u, news[j]? = some u → w.cell? (ad.add j) = some u) (h1c : ∀ u ∈ news, u.oneCell' = true)
    (b1 : n + m ≤ maxLen) (b2 : (n + m) * bytes ≤ 140737488355328) (b3 : base ≤ w.heap.size)
    (hK : ∀ v' w', w'.ownsRow base e size v' (n + m) (xs ++ news) → w.grownBy w' v.ownBlock → K (a.put o.dst v') w') :
    if Region.wanted o (yielded ops a.tmps) = true then Oper.wp P o a w K Q else E := by
  have hw : Region.wanted o (yielded ops a.tmps) = true := by simp [Region.wanted, hg]
  rw [if_pos hw]
  obtain ⟨v', w', hrun, r1, r2, _⟩ := run_append_own (P := P) w base t o.type e i z size bytes h1 h2 h3 h4 h5 h6 h7 v n xs hown ad m c news hn hc h1c b1 b2 b3
  unfold Oper.wp
  simp [execOp, hop, resolve, invoke, builtin, hs, hx, hrun, Result.andThen]
  exact hK v' w' r1 r2

theorem two_new (w : World) (x y : Value) (t : TypeId) : ∀ j u, [x, y][j]? = some u → (w.alloc (.cells #[x, y] t)).cell? ((⟨w.heap.size, 0, none⟩ : Addr).add j) = some u := by
  intro j u hj
  match j, hj with
  | 0, hj => simp at hj; subst hj; simp [Addr.add]
  | 1, hj => simp at hj; subst hj; simp [Addr.add]
theorem two_cells (x y : Int) : ∀ u ∈ [Value.int .u8 x, Value.int .u8 y], u.oneCell' = true := by
  intro u hu
  simp at hu
  rcases hu with rfl | rfl <;> rfl

/-- No bytes are the empty text. -/
theorem no_text (w : World) : (convert 105 9 (.slice none 0 0)).run Tryd.prog w = .ok (.string ⟨#[]⟩) w := by
  rw [run_convert_bytes_string w 105 9 5 none 0 0 Tryd.underlying105 Tryd.underlying5 Tryd.underlying9]
  rfl

/-- The sixteen digits. -/
theorem digit_all : ∀ n : Fin 16, ((⟨#[48, 49, 50, 51, 52, 53, 54, 55, 56, 57, 97, 98, 99, 100, 101, 102]⟩ : ByteArray)[n.1]'n.2).toNat = hexD n.1 := by decide +kernel
theorem digit_at (n : Nat) (h : n < 16) (h' : n < (⟨#[48, 49, 50, 51, 52, 53, 54, 55, 56, 57, 97, 98, 99, 100, 101, 102]⟩ : ByteArray).size) :
    ((⟨#[48, 49, 50, 51, 52, 53, 54, 55, 56, 57, 97, 98, 99, 100, 101, 102]⟩ : ByteArray)[n]'h').toNat = hexD n := digit_all ⟨n, h⟩

theorem u8_wrap (x : Int) (h0 : 0 ≤ x) (h1 : x < 256) : IntKind.u8.wrap x = x := by
  simp [IntKind.wrap, IntKind.signed, IntKind.bits]; omega

set_option maxHeartbeats 1000000 in
set_option maxRecDepth 100000 in
theorem specHex_any (s : ByteArray) (w : World) (hs : s.size ≤ 1048576) :
    Calls Tryd.prog 90 #[.string s] w fun e w' => e = .returned (.string ⟨(hexL s.data.toList).toArray⟩) ∧ Below w.heap.size w w' := by
  obtain ⟨i0, hi, hz0, hz1, hz2⟩ := info_parts infoByte
  go_enter Tryd.func90, Tryd.ntmps90
  go_wp2
  go_loopw [3, 4] (fun v i wr => ∃ k : Nat, i = .int .i64 k ∧ k ≤ s.size ∧ wr.ownsRow w.heap.size 5 1 v (2 * k) (Lib.byteCells (hexL (s.data.toList.take k))) ∧ Below w.heap.size w wr) (fun _ i _ => s.size - (intOf i).toNat)
  case atStart => exact ⟨0, rfl, Nat.zero_le _, World.ownsRow_made w #[] 0 (Nat.le_refl _) (Nat.zero_le _) rfl, (Below.refl _ _).alloc (Nat.le_refl _) _⟩
  case round =>
    obtain ⟨k, rfl, hk, hown, hnx⟩ := hrel
    have hsz := hnx.size
    by_cases hlt : k < s.size
    · have hc : s[k].toNat < 256 := UInt8.toNat_lt _
      have HT : Hid (Lib.byteCells (hexL (s.data.toList.take k)) ++ [Value.int .u8 ((hexD (s[k].toNat / 16) : Nat) : Int), Value.int .u8 ((hexD (s[k].toNat % 16) : Nat) : Int)] = Lib.byteCells (hexL (s.data.toList.take (k + 1)))) := by
        rw [take_snoc s k hlt, hexL_snoc, Lib.byteCells_append, hexTwo_cells]; rfl
      have hw1 := u8_wrap ((s[k].toNat : Int) / 16) (by omega) (by omega)
      have hl1 : (s[k].toNat : Int) / 16 < 16 := by omega
      have hl2 : (s[k].toNat : Int) % 16 < 16 := by omega
      have hm : ((s[k].toNat : Int)).tmod 16 = (s[k].toNat : Int) % 16 := Int.tmod_eq_emod_of_nonneg (by omega)
      have e1 : ((s[k].toNat : Int) / 16).toNat = s[k].toNat / 16 := by omega
      have e2 : ((s[k].toNat : Int) % 16).toNat = s[k].toNat % 16 := by omega
      have v1 := digit_at (s[k].toNat / 16) (by omega)
      have v2 := digit_at (s[k].toNat % 16) (by omega)
      have hl3 : 0 ≤ (s[k].toNat : Int) / 16 := by omega
      have hl4 : 0 ≤ (s[k].toNat : Int) % 16 := by omega
      go_wp2
      go_region_law (refine step_append_own rfl (.tmp 12) (.tmp 23) 105 rfl w.heap.size 5 i0 (.int .u8 0) 1 1 Tryd.underlying105 hi hz0 hz1 hz2 rfl (by decide) _ _ _ rfl (hown.alloc _) ⟨wr.heap.size, 0, none⟩ 2 2 [Value.int .u8 ((hexD (s[k].toNat / 16) : Nat) : Int), Value.int .u8 ((hexD (s[k].toNat % 16) : Nat) : Int)] rfl rfl (two_new wr _ _ _) (two_cells _ _) (by unfold maxLen; omega) (by omega) (by simp; omega) ?_; intro v' w1 hown' hgrow)
      all_goals
        have hnx' : Below w.heap.size w w1 := (hnx.alloc (by omega) _).drew.grown hgrow (by simp; omega) (fun k hk => (hown.lt k hk).1)
        rw [HT.out, show 2 * k + 2 = 2 * (k + 1) by omega] at hown'
        clear hgrow hown v1 v2 e1 e2 hm
        go_wp2
        go_roundw
        case rel => exact ⟨k + 1, by go_num, by omega, hown', hnx'⟩
        case measure => simp [intOf]; omega
    · have HE : Hid (s.data.toList.take k = s.data.toList) := take_all s k (by omega)
      rw [HE.out, show 2 * k = (hexL s.data.toList).length by rw [hexL_len]; simp; omega] at hown
      clear HE
      rcases hown.2 with ⟨rfl, h0⟩ | ⟨g, cap, cur, rfl, -⟩
      · have HN : Hid (hexL s.data.toList = []) := List.eq_nil_of_length_eq_zero h0
        have hcv := no_text wr
        clear hown h0
        go_wp2
        go_ret
        exact ⟨by rw [HN.out]; rfl, hnx⟩
      · have hcv := text_of_row hown
        clear hown
        go_wp2
        go_ret
        exact ⟨rfl, hnx⟩

set_option maxHeartbeats 1000000 in
set_option maxRecDepth 100000 in
theorem hexOf_any (s : ByteArray) (w : World) (hs : s.size ≤ 1048576) :
    Calls Tryd.prog 64 #[.string s] w fun e w' => e = .returned (.string ⟨(hexL s.data.toList).toArray⟩) ∧ Below w.heap.size w w' := by
  obtain ⟨i0, hi, hz0, hz1, hz2⟩ := info_parts infoByte
  go_enter Tryd.func64, Tryd.ntmps64
  go_wp2_with (at_make; refine wpList_make_own _ rfl _ _ 105 rfl w.heap.size 5 i0 (.int .u8 0) 1 Tryd.underlying105 hi hz0 hz1 _ _ _ (2 * s.size) rfl rfl (by omega) (by rw [hz2]; omega) (by unfold maxLen; omega) (Nat.le_refl _) ?_)
  intro w0 hown0 hgrow0
  have hnx0 : Below w.heap.size w w0 := (Below.refl _ _).grown hgrow0 (Nat.le_refl _) (fun k hk => by simp at hk)
  go_wp2
  go_loopw [3, 4] (fun v i wr => ∃ k : Nat, i = .int .i64 k ∧ k ≤ s.size ∧ wr.ownsRow w.heap.size 5 1 v (2 * k) (Lib.byteCells (hexL (s.data.toList.take k))) ∧ Below w.heap.size w wr) (fun _ i _ => s.size - (intOf i).toNat)
  case atStart => exact ⟨0, rfl, Nat.zero_le _, hown0, hnx0⟩
  case round =>
    obtain ⟨k, rfl, hk, hown, hnx⟩ := hrel
    have hsz := hnx.size
    by_cases hlt : k < s.size
    · have hc : s[k].toNat < 256 := UInt8.toNat_lt _
      have HT : Hid (Lib.byteCells (hexL (s.data.toList.take k)) ++ [Value.int .u8 ((hexD (s[k].toNat / 16) : Nat) : Int), Value.int .u8 ((hexD (s[k].toNat % 16) : Nat) : Int)] = Lib.byteCells (hexL (s.data.toList.take (k + 1)))) := by
        rw [take_snoc s k hlt, hexL_snoc, Lib.byteCells_append, hexTwo_cells]; rfl
      have hw1 := u8_wrap ((s[k].toNat : Int) / 16) (by omega) (by omega)
      have hl1 : (s[k].toNat : Int) / 16 < 16 := by omega
      have hl2 : (s[k].toNat : Int) % 16 < 16 := by omega
      have hm : ((s[k].toNat : Int)).tmod 16 = (s[k].toNat : Int) % 16 := Int.tmod_eq_emod_of_nonneg (by omega)
      have e1 : ((s[k].toNat : Int) / 16).toNat = s[k].toNat / 16 := by omega
      have e2 : ((s[k].toNat : Int) % 16).toNat = s[k].toNat % 16 := by omega
      have v1 := digit_at (s[k].toNat / 16) (by omega)
      have v2 := digit_at (s[k].toNat % 16) (by omega)
      have hl3 : 0 ≤ (s[k].toNat : Int) / 16 := by omega
      have hl4 : 0 ≤ (s[k].toNat : Int) % 16 := by omega
      go_wp2
      go_region_law (refine step_append_own rfl (.tmp 15) (.tmp 26) 105 rfl w.heap.size 5 i0 (.int .u8 0) 1 1 Tryd.underlying105 hi hz0 hz1 hz2 rfl (by decide) _ _ _ rfl (hown.alloc _) ⟨wr.heap.size, 0, none⟩ 2 2 [Value.int .u8 ((hexD (s[k].toNat / 16) : Nat) : Int), Value.int .u8 ((hexD (s[k].toNat % 16) : Nat) : Int)] rfl rfl (two_new wr _ _ _) (two_cells _ _) (by unfold maxLen; omega) (by omega) (by simp; omega) ?_; intro v' w1 hown' hgrow)
      all_goals
        have hnx' : Below w.heap.size w w1 := (hnx.alloc (by omega) _).drew.grown hgrow (by simp; omega) (fun k hk => (hown.lt k hk).1)
        rw [HT.out, show 2 * k + 2 = 2 * (k + 1) by omega] at hown'
        clear hgrow hown v1 v2 e1 e2 hm
        go_wp2
        go_roundw
        case rel => exact ⟨k + 1, by go_num, by omega, hown', hnx'⟩
        case measure => simp [intOf]; omega
    · have HE : Hid (s.data.toList.take k = s.data.toList) := take_all s k (by omega)
      rw [HE.out, show 2 * k = (hexL s.data.toList).length by rw [hexL_len]; simp; omega] at hown
      clear HE
      rcases hown.2 with ⟨rfl, h0⟩ | ⟨g, cap, cur, rfl, -⟩
      · have HN : Hid (hexL s.data.toList = []) := List.eq_nil_of_length_eq_zero h0
        have hcv := no_text wr
        clear hown h0
        go_wp2
        go_ret
        exact ⟨by rw [HN.out]; rfl, hnx⟩
      · have hcv := text_of_row hown
        clear hown
        go_wp2
        go_ret
        exact ⟨rfl, hnx⟩
end Go.Proofs.YtpkblnponeonkaaDoor
