/-
  How deep a document is, as the specification counts it.
-/
import Derived.Test.YtfjhpfgffbghdaaJoinB
import Derived.Deep.RegionWith
import Derived.Deep.RegionLaw
import Derived.Deep.DeepCutAuto
import Derived.WalkLawsBesides
namespace Go.Proofs.Ytfjhpfgffbghdaa
open Go.RowKit

theorem placeOf_lt {l : List PNode} {i : Int} (h : i ∈ idsOf l) : ∃ p : Nat, placeOf l i = p ∧ p < l.length ∧ (l[p]?.getD nodeNil).id = i ∧ kidsAt l i = (l[p]?.getD nodeNil).kids := by
  induction l with
  | nil => simp [idsOf] at h
  | cons x l ih =>
    by_cases hx : x.id = i
    · exact ⟨0, by simp [placeOf, hx], by simp, by simp [hx], by simp [kidsAt, hx]⟩
    · obtain ⟨p, h1, h2, h3, h4⟩ := ih (by simp only [idsOf, List.map_cons, List.mem_cons] at h; exact h.resolve_left (fun e => hx e.symm))
      refine ⟨p + 1, ?_, by simp; omega, by simpa using h3, ?_⟩
      · simp only [placeOf]; rw [if_neg hx, h1, if_neg (by omega)]; omega
      · have hb : (x.id == i) = false := by simpa using hx
        simp only [kidsAt, List.find?_cons, hb] at h4 ⊢
        simpa using h4

theorem fold_snoc {ks : List Int} {j : Nat} (h : j < ks.length) (f : Nat → Int → Nat) : (ks.take (j + 1)).foldl f 0 = f ((ks.take j).foldl f 0) (ks[j]?.getD 0) := by
  rw [List.take_succ_eq_append_getElem h, List.foldl_append]; simp [h]

theorem fold_max_le (g : Int → Nat) (m : Nat) (hg : ∀ k, g k ≤ m) : ∀ (ks : List Int), ks.foldl (fun n j => max n (g j)) 0 ≤ m := fun ks =>
  (foldl_max_le g m ks 0).2 ⟨Nat.zero_le _, fun k _ => hg k⟩

set_option maxHeartbeats 800000 in
set_option maxRecDepth 100000 in
theorem specDeep_any (n₀ : Nat) (r nx : Int) (s : Value) (l : List PNode) (hl : l.length ≤ 1048576) (hkl : ∀ x ∈ l, x.kids.length ≤ 1048576) (hth : ∀ j ∈ allKids l, j ∈ idsOf l) :
    ∀ (k : Nat) (i c : Int) (w : World), c ≤ 1000 → Hid (c = (k : Int)) → NodesAt n₀ w s l → n₀ ≤ w.heap.size → i ∈ idsOf l →
    Calls Try.prog 58 #[.agg #[.int .i64 r, .int .i64 nx, s], .int .i64 i, .int .i64 c] w fun e w' => e = .returned (.int .i64 (deep l k i)) ∧ Below w.heap.size w w' := by
  intro k
  induction k with
  | zero =>
    intro i c w _ hC hN hn hi
    have hc0 : (c == 0) = true := by simp [hC.out]
    obtain ⟨a, cap, rfl, -⟩ := hN
    go_enter Try.func58, Try.ntmps58
    go_wp2_with fail
    go_ret
    exact ⟨rfl, (Below.refl _ _).alloc (Nat.le_refl _) _⟩
  | succ k ih =>
    intro i c w hk hC hN hn hi
    have hk0 : (c == 0) = false := by have := hC.out; simp; omega
    have hc1 : 1 ≤ c := by have := hC.out; omega
    have hkk : k ≤ 1000 := by have := hC.out; omega
    have HC : Hid (c - 1 = (k : Int)) := by have := hC.out; unfold Hid; omega
    obtain ⟨p, hp, hpl, hpi, hpk⟩ := placeOf_lt hi
    have HP := hide hp
    have HK := hide hpk
    clear hp hpi hpk
    have hN' := hN
    obtain ⟨a, cap, rfl, hk'⟩ := hN
    obtain ⟨b, off, rfl, hb, hc⟩ := hk'.resolve_left (by intro e; simp [e] at hpl)
    have hbw : b < w.heap.size := by omega
    obtain ⟨vk, hc4, hik⟩ := (hc p hpl).c4
    have hlk : (l[p]?.getD nodeNil).kids.length ≤ 1048576 := by simp [hpl]; exact hkl _ (List.getElem_mem hpl)
    have hth' : Hid (∀ j ∈ (l[p]?.getD nodeNil).kids, j ∈ idsOf l) := fun j hj => hth j (kidsAt_all (HK.out ▸ hj))
    generalize (l[p]?.getD nodeNil).kids = ks at *
    have hik' := hik
    obtain ⟨ak, ck, rfl, hka⟩ := hik
    clear hc hk' hkl hth
    have IH := hide ih
    clear ih
    go_enter Try.func58, Try.ntmps58
    go_wp2_with fail
    go_cut [8] (fun v8 wc => v8 = .slice ak ks.length ck ∧ Below (w.heap.size + 1) (w.alloc (.cells #[.int .i64 r, .int .i64 nx, .slice (some ⟨b, off, none⟩) l.length cap] 31)) wc)
    case first =>
      go_region_with (go_at_call 66; refine (specAt_any n₀ r nx _ l i _ (hN'.below (Nat.le_refl _) (by first | exact (Below.refl _ _).alloc hn _ | exact ((Below.refl _ _).alloc hn _).drew)) (by simp; omega) hl).mono ?_; rintro e w1 ⟨rfl, hbel⟩; rw [HP.out]; obtain ⟨hcx, hfx⟩ := bcell hbel)
      all_goals
        go_wp2_with fail
        go_meet
        exact ⟨rfl, by simpa using (((Below.refl _ _).drew).trans hbel)⟩
    case rest =>
      obtain ⟨rfl, hbel⟩ := hcut
      obtain ⟨hcx, hfx⟩ := bcell (W := w.alloc _) (by simpa using hbel)
      have hsz := hbel.size
      go_wp2_with fail
      go_loopw [7, 9] (fun n j wr => ∃ m : Nat, m ≤ ks.length ∧ j = .int .i64 m ∧ n = .int .i64 (((ks.take m).foldl (fun n j => max n (deep l k j)) 0 : Nat) : Int) ∧ Below (w.heap.size + 1) (w.alloc (.cells #[.int .i64 r, .int .i64 nx, .slice (some ⟨b, off, none⟩) l.length cap] 31)) wr) (fun _ j _ => ks.length - (intOf j).toNat)
      case atStart => exact ⟨0, Nat.zero_le _, rfl, rfl, hbel⟩
      case round =>
        obtain ⟨m, hm, rfl, rfl, hbr⟩ := hrel
        clear hcx hfx hsz hbel
        obtain ⟨hcx, hfx⟩ := bcell (W := w.alloc _) (by simpa using hbr)
        have hsz := hbr.size
        simp only [World.size_alloc] at hsz
        have hq := fold_max_le (deep l k) (k + 1) (fun _ => deep_le) (ks.take m)
        by_cases hlt : m < ks.length
        · obtain ⟨bk, offk, rfl, hbk, hck⟩ := hka.resolve_left (by intro e; simp [e] at hlt)
          have hbkw : bk < w.heap.size := by omega
          have hcm := hck m hlt
          have hy : Hid (ks[m]?.getD 0 ∈ idsOf l) := hth'.out _ (by simp [hlt])
          have HS := hide (fold_snoc hlt (fun n j => max n (deep l k j)))
          clear hck hka
          generalize (ks.take m).foldl (fun n j => max n (deep l k j)) 0 = q at *
          generalize ks[m]?.getD 0 = y at *
          have hdy : deep l k y ≤ k + 1 := deep_le
          have hwk : IntKind.i64.wrap (c - 1) = c - 1 := by rw [IntKind.wrap_i64]; omega
          go_wp2_with fail
          go_region_with (go_at_call 58; refine (IH.out y _ _ (by omega) HC (hN'.below (Nat.le_refl _) (by first | exact ((Below.refl _ _).alloc hn _).trans (hbr.mono (by omega)) | exact (((Below.refl _ _).alloc hn _).trans (hbr.mono (by omega))).drew)) (by simp; omega) hy.out).mono ?_; rintro e w1 ⟨rfl, hb1⟩)
          all_goals
            have HZ : Hid ((if q < deep l k y then ((deep l k y : Nat) : Int) else (q : Int)) = ((max q (deep l k y) : Nat) : Int)) := by unfold Hid; split <;> omega
            generalize (if q < deep l k y then ((deep l k y : Nat) : Int) else (q : Int)) = z at *
            go_wp2_with fail
            go_roundw
            case rel => exact ⟨m + 1, by omega, by go_num, by rw [HS.out, HZ.out], hbr.trans ((((Below.refl _ _).drew).trans hb1).mono (by simp; omega))⟩
            case measure => simp [intOf]; omega
        · have HE : Hid (deep l (k + 1) i = (ks.take m).foldl (fun n j => max n (deep l k j)) 0 + 1) := by unfold Hid; rw [List.take_of_length_le (by omega), deep, HK.out]
          generalize (ks.take m).foldl (fun n j => max n (deep l k j)) 0 = q at *
          clear hka
          go_wp2_with fail
          go_ret
          exact ⟨ret_int (by rw [HE.out]; omega), ((Below.refl _ _).alloc (Nat.le_refl _) _).trans (hbr.mono (by omega))⟩
end Go.Proofs.Ytfjhpfgffbghdaa
