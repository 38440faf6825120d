/-
  That a document's nodes are right but for the walk from the root, as the specification asks it.
-/
import Derived.Test.YtfjhpfgffbghdaaRowFactsJ
import Derived.Test.YtfjhpfgffbghdaaSpecDeepJ
import Derived.Test.YtfjhpfgffbghdaaCalmJ
import Derived.Deep.DeepCutAuto
import Derived.Maps.AppendAt
namespace Go.Proofs.Ytfjhpfgffbghdaa
open Go.RowKit

/-- What has been found right when so many nodes, and so many kids of the next one, have been looked at. -/
structure Seen (d : PDoc) (k : Nat) (sn : List Int) : Prop where
  fine : ∀ x ∈ d.nodes.take k, NodeFine d.next x
  rise : (idsOf (d.nodes.take k)).Pairwise (· < ·)
  there : ∀ j ∈ sn, j ∈ idsOf d.nodes
  once : sn.Nodup
  rootNo : d.root ∉ sn

theorem pw_snoc {xs : List Int} {y : Int} (h : xs.Pairwise (· < ·)) (hl : ∀ x ∈ xs, x < y) : (xs ++ [y]).Pairwise (· < ·) := by
  rw [List.pairwise_append]; refine ⟨h, by simp, ?_⟩; intro a ha b hb; simp at hb; subst hb; exact hl a ha

/-- In what rises all is at most the last one. -/
theorem pw_last {l : List PNode} {k : Nat} (hk : k < l.length) (hr : (idsOf (l.take (k + 1))).Pairwise (· < ·)) : ∀ i ∈ idsOf (l.take (k + 1)), i ≤ (l[k]?.getD nodeNil).id := by
  rw [ids_snoc hk] at *
  intro i hi
  rcases List.mem_append.1 hi with h | h
  · have := (List.pairwise_append.1 hr).2.2 i h (l[k]?.getD nodeNil).id (by simp); omega
  · simp at h; omega

theorem Seen.start (d : PDoc) : Seen d 0 [] := ⟨by simp, by simp [idsOf], by simp, by simp, by simp⟩

section
variable {d : PDoc} {k : Nat} {sn : List Int}

theorem Seen.node (h : Seen d k sn) (hk : k < d.nodes.length) (hf : NodeFine d.next (d.nodes[k]?.getD nodeNil)) (hr : k = 0 ∨ (d.nodes[k - 1]?.getD nodeNil).id < (d.nodes[k]?.getD nodeNil).id) : Seen d (k + 1) sn :=
  ⟨take_no_snoc hk h.fine hf, by
    rw [ids_snoc hk]
    refine pw_snoc h.rise ?_
    intro i hi
    cases k with
    | zero => simp [idsOf] at hi
    | succ m =>
      rcases hr with hr | hr
      · omega
      · have := pw_last (by omega) h.rise i hi; simp only [Nat.add_sub_cancel] at hr; omega, h.there, h.once, h.rootNo⟩

theorem Seen.kid (h : Seen d k sn) {j : Int} (h1 : j ≠ d.root) (h2 : j ∉ sn) (h3 : j ∈ idsOf d.nodes) : Seen d k (sn ++ [j]) :=
  ⟨h.fine, h.rise, by intro i hi; rcases List.mem_append.1 hi with hi | hi; exact h.there i hi; simp at hi; subst hi; exact h3,
    by rw [List.nodup_append]; exact ⟨h.once, by simp, by intro a ha b hb e; simp at hb; subst hb; subst e; exact h2 ha⟩,
    by intro hm; rcases List.mem_append.1 hm with hm | hm; exact h.rootNo hm; simp at hm; exact h1 hm.symm⟩
end

theorem kids_snoc {l : List PNode} {k : Nat} (h : k < l.length) : allKids (l.take (k + 1)) = allKids (l.take k) ++ (l[k]?.getD nodeNil).kids := by
  rw [List.take_succ_eq_append_getElem h]; simp [allKids, h, -List.take_append_getElem]

theorem int_snoc {ks : List Int} {m : Nat} (h : m < ks.length) : ks.take (m + 1) = ks.take m ++ [ks[m]?.getD 0] := by
  rw [List.take_succ_eq_append_getElem h]; simp [h]

theorem pw_at {xs : List Int} (h : xs.Pairwise (· < ·)) {i j : Nat} (hi : i < j) (hj : j < xs.length) : xs[i]'(by omega) < xs[j] := List.pairwise_iff_getElem.1 h i j (by omega) hj hi

theorem rise_at {l : List PNode} (h : (idsOf l).Pairwise (· < ·)) {k : Nat} (hk : k < l.length) (h0 : 0 < k) : (l[k - 1]?.getD nodeNil).id < (l[k]?.getD nodeNil).id := by
  have := pw_at h (i := k - 1) (j := k) (by omega) (by rw [idsOf_len]; exact hk)
  have hk1 : k - 1 < l.length := by omega
  simpa [idsOf, hk, hk1] using this

theorem one_int (x : Int) : ∀ u ∈ [Value.int .i64 x], u.oneCell' = true := by
  intro u hu; simp at hu; subst hu; rfl

/-- A kid in a right list: not the root, not seen before, and there. -/
theorem flat_kid {d : PDoc} (F : Flat d) {k m : Nat} (hk : k < d.nodes.length) (hm : m < (d.nodes[k]?.getD nodeNil).kids.length) :
    (d.nodes[k]?.getD nodeNil).kids[m]?.getD 0 ≠ d.root ∧ (d.nodes[k]?.getD nodeNil).kids[m]?.getD 0 ∉ allKids (d.nodes.take k) ++ (d.nodes[k]?.getD nodeNil).kids.take m ∧ (d.nodes[k]?.getD nodeNil).kids[m]?.getD 0 ∈ idsOf d.nodes := by
  have hx : d.nodes[k]?.getD nodeNil ∈ d.nodes := by simp [hk]
  have hy : (d.nodes[k]?.getD nodeNil).kids[m]?.getD 0 ∈ (d.nodes[k]?.getD nodeNil).kids := by rw [List.getElem?_eq_getElem hm]; exact List.getElem_mem hm
  have hall : (d.nodes[k]?.getD nodeNil).kids[m]?.getD 0 ∈ allKids d.nodes := List.mem_flatMap.2 ⟨_, hx, hy⟩
  refine ⟨fun e => F.rootNo (e ▸ hall), ?_, F.there _ hall⟩
  have e : allKids d.nodes = (allKids (d.nodes.take k) ++ (d.nodes[k]?.getD nodeNil).kids.take m) ++ ((d.nodes[k]?.getD nodeNil).kids[m]?.getD 0 :: ((d.nodes[k]?.getD nodeNil).kids.drop (m + 1) ++ allKids (d.nodes.drop (k + 1)))) := by
    have e1 : d.nodes = d.nodes.take k ++ (d.nodes[k]?.getD nodeNil) :: d.nodes.drop (k + 1) := by simp [hk]
    have e2 : (d.nodes[k]?.getD nodeNil).kids = (d.nodes[k]?.getD nodeNil).kids.take m ++ (d.nodes[k]?.getD nodeNil).kids[m]?.getD 0 :: (d.nodes[k]?.getD nodeNil).kids.drop (m + 1) := by
      rw [List.getElem?_eq_getElem hm]; simp
    calc allKids d.nodes = allKids (d.nodes.take k) ++ ((d.nodes[k]?.getD nodeNil).kids ++ allKids (d.nodes.drop (k + 1))) := by
          conv => lhs; rw [e1]
          simp [allKids]
      _ = _ := by conv => lhs; rw [e2]
                  simp
  have hn := F.once
  rw [e, List.nodup_append] at hn
  intro hmem
  exact hn.2.2 _ hmem _ (List.mem_cons_self) rfl

/-- All that the specification asks of the nodes. -/
def NodesFine (d : PDoc) : Prop := Flat d ∧ (allKids d.nodes).length + 1 = d.nodes.length

theorem specInfoInt : (Try.prog.info? 3).map (fun i => (i.zero, i.size, i.bytes)) = some (some (.int .i64 0), 1, 8) := by kernel_rfl

set_option maxHeartbeats 1000000 in
set_option maxRecDepth 100000 in
theorem specNodes_any (n₀ : Nat) (d : PDoc) (s : Value) (w : World) (h1 : 1 ≤ d.nodes.length) (h40 : d.nodes.length ≤ 40) (hx2 : 2 ≤ d.next) (hxm : d.next ≤ 999999) (hN : NodesAt n₀ w s d.nodes) (hn : n₀ ≤ w.heap.size) (hkl : ∀ x ∈ d.nodes, x.kids.length ≤ 1048576) (r : Bool) (hr : r = true ↔ NodesFine d) :
    Calls Try.prog 56 #[.agg #[.int .i64 d.root, .int .i64 d.next, s]] w fun e w' => e = .returned (.bool r) ∧ Below w.heap.size w w' := by
  obtain ⟨i0, hi, hz0, hz1, hz2⟩ := info_parts specInfoInt
  have HKL := hide hkl
  have HR := hide hr
  clear hkl hr
  have hN' := hN
  obtain ⟨a, cap, rfl, hk'⟩ := hN
  obtain ⟨b, off, rfl, hb, hc⟩ := hk'.resolve_left (by intro e; simp [e] at h1)
  have hbw : b < w.heap.size := by omega
  clear hk'
  have HCs := hide hc
  clear hc
  go_enter Try.func56, Try.ntmps56
  go_wp2_with fail
  go_loopw [3, 4] (fun sv i' wr => ∃ k : Nat, k ≤ d.nodes.length ∧ i' = .int .i64 k ∧ Hid (Seen d k (allKids (d.nodes.take k))) ∧ wr.ownsRow (w.heap.size + 1) 3 1 sv (allKids (d.nodes.take k)).length ((allKids (d.nodes.take k)).map (Value.int .i64)) ∧ Below (w.heap.size + 1) (w.alloc (.cells #[.int .i64 d.root, .int .i64 d.next, .slice (some ⟨b, off, none⟩) d.nodes.length cap] 31)) wr) (fun _ i' _ => d.nodes.length - (intOf i').toNat)
  case atStart => exact ⟨0, Nat.zero_le _, rfl, Seen.start d, by simpa [allKids] using World.ownsRow_made (base := w.heap.size + 1) (w.alloc (.cells #[.int .i64 d.root, .int .i64 d.next, .slice (some ⟨b, off, none⟩) d.nodes.length cap] 31)) #[] 0 (e := 3) (size := 1) (by simp) (Nat.zero_le _) rfl, (Below.refl _ _).alloc (by simp) _⟩
  case round =>
    obtain ⟨wo, hwo⟩ : ∃ wo, wo = wr := ⟨_, rfl⟩
    subst hwo
    obtain ⟨k, hkl', rfl, hse, hown, hbr⟩ := hrel
    obtain ⟨hcx, hfx⟩ := bcell (W := w.alloc _) (by simpa using hbr)
    have hsz := hbr.size
    simp only [World.size_alloc] at hsz
    have hszl : w.heap.size < wo.heap.size := by omega
    have hbr1 : b < wo.heap.size := by omega
    by_cases hlt : k < d.nodes.length
    · have hA := HCs.out k hlt
      have g0 := hA.c0
      have g1 := hA.c1
      have g2 := hA.c2
      have g3 := hA.c3
      obtain ⟨vk, g4, hik⟩ := hA.c4
      have hik' := hik
      obtain ⟨ak, ck, rfl, hka⟩ := hik
      have HX := hide (rfl : d.nodes[k]?.getD nodeNil = d.nodes[k]?.getD nodeNil)
      have HSN := hide (@Seen.node d k _ hse.out hlt)
      have hkx : (d.nodes[k]?.getD nodeNil).kids.length ≤ 1048576 := by have := HKL.out _ (List.getElem_mem hlt); simpa [hlt] using this
      have HKS := hide (kids_snoc hlt)
      have HMem : Hid ((d.nodes[k]?.getD nodeNil) ∈ d.nodes) := by simp [Hid, hlt]
      have hprev : Hid (0 < k → w.cell? ⟨b, off + (k - 1) * 5, none⟩ = some (.int .i64 (d.nodes[k - 1]?.getD nodeNil).id)) := fun h => (HCs.out (k - 1) (by omega)).c0
      have HFK : Hid (Flat d → ∀ m, m < (d.nodes[k]?.getD nodeNil).kids.length → (d.nodes[k]?.getD nodeNil).kids[m]?.getD 0 ≠ d.root ∧ (d.nodes[k]?.getD nodeNil).kids[m]?.getD 0 ∉ allKids (d.nodes.take k) ++ (d.nodes[k]?.getD nodeNil).kids.take m ∧ (d.nodes[k]?.getD nodeNil).kids[m]?.getD 0 ∈ idsOf d.nodes) := fun F m hm => flat_kid F hlt hm
      have HRA : Hid (Flat d → 0 < k → (d.nodes[k - 1]?.getD nodeNil).id < (d.nodes[k]?.getD nodeNil).id) := fun F h0 => rise_at F.rise hlt h0
      clear hA HX
      generalize d.nodes[k]?.getD nodeNil = x at *
      generalize (d.nodes[k - 1]?.getD nodeNil).id = pv at *
      obtain ⟨nb, hnb⟩ : ∃ nb, nodeB d.next x = nb := ⟨_, rfl⟩
      have HN : Hid (∀ w', Calls Try.prog 79 #[.agg #[.int .i64 x.id, .int .i64 x.kind, .int .i64 x.attr, .string x.text, .slice ak x.kids.length ck], .int .i64 d.next] w' fun e w'' => e = .returned (.bool nb) ∧ Below w'.heap.size w' w'') := by
        intro w'; rw [← hnb]; exact specNode_any x d.next ak ck w' hx2 hxm
      have HNB := hide hnb
      clear hnb
      go_wp2_with fail
      go_cut [40] (fun v40 wc => v40 = .bool (!nb || (decide (0 < k) && decide (x.id ≤ pv))) ∧ Below (wo.heap.size + 1) (wo.alloc (.cells #[.int .i64 x.id, .int .i64 x.kind, .int .i64 x.attr, .string x.text, .slice ak x.kids.length ck] 98)) wc)
      case first =>
        have hwk : IntKind.i64.wrap ((k : Int) - 1) = (k : Int) - 1 := by rw [IntKind.wrap_i64]; omega
        have hcal := calm_cell (wo.alloc (.cells #[.int .i64 x.id, .int .i64 x.kind, .int .i64 x.attr, .string x.text, .slice ak x.kids.length ck] 98))
        cases nb with
        | false =>
          refine wp_region_calm (by kernel_rfl) (by kernel_rfl) ?_
          repeat (go_big_quiet_step ((go_at_call 79; exact calm_of (HN.out _))))
          refine wpQuiet_nil ?_
          rintro _ ⟨t, rfl⟩
          go_wp2_with fail
          go_meet
          exact ⟨rfl, by simpa using t.below⟩
        | true =>
          by_cases hk0 : 0 < k
          · have hp1 := hprev.out hk0
            have hk1 : (0 : Int) < (k : Int) := by omega
            have hk2 : (0 : Int) ≤ (k : Int) - 1 := by omega
            have hk3 : (k : Int) - 1 < (d.nodes.length : Int) := by omega
            have hk4 : ((k : Int) - 1).toNat = k - 1 := by omega
            refine wp_region_calm (by kernel_rfl) (by kernel_rfl) ?_
            repeat (go_big_quiet_step ((go_at_call 79; exact calm_of (HN.out _))))
            refine wpQuiet_nil ?_
            rintro _ ⟨t, rfl⟩
            go_wp2_with fail
            go_meet
            exact ⟨by simp [hk0], by simpa using t.below⟩
          · have hk1 : decide ((0 : Int) < (k : Int)) = false := by simp; omega
            refine wp_region_calm (by kernel_rfl) (by kernel_rfl) ?_
            repeat (go_big_quiet_step ((go_at_call 79; exact calm_of (HN.out _))))
            refine wpQuiet_nil ?_
            rintro _ ⟨t, rfl⟩
            go_wp2_with fail
            go_meet
            exact ⟨by simp; omega, by simpa using t.below⟩
      case rest =>
        obtain ⟨rfl, hbc⟩ := hcut
        have hszc := hbc.size
        simp only [World.size_alloc] at hszc
        have hbx : wc.heap[wo.heap.size]? = some (.cells #[.int .i64 x.id, .int .i64 x.kind, .int .i64 x.attr, .string x.text, .slice ak x.kids.length ck] 98 (0, 0)) := (hbc.block wo.heap.size (by omega)).trans (alloc_new wo _)
        have hb2 : Below (w.heap.size + 1) (w.alloc (.cells #[.int .i64 d.root, .int .i64 d.next, .slice (some ⟨b, off, none⟩) d.nodes.length cap] 31)) wc := (hbr.alloc hsz _).trans (hbc.mono (by omega))
        have hown2 : wc.ownsRow (w.heap.size + 1) 3 1 u3 (allKids (d.nodes.take k)).length ((allKids (d.nodes.take k)).map (Value.int .i64)) := ownsRow_below (hown.alloc _) (by simpa using hbc)
        clear hcx hfx hown hbr HN
        cases hbad : (!nb || (decide (0 < k) && decide (x.id ≤ pv))) with
        | true =>
          have hf : Hid (r = false) := by
            cases hrr : r with
            | false => rfl
            | true =>
              have F := (HR.out.1 hrr).1
              have f1 : nb = true := by rw [← HNB.out, nodeB_iff]; exact F.fine x HMem.out
              have f2 := HRA.out F
              simp [f1] at hbad
              have := f2 hbad.1
              omega
          go_wp2_with fail
          go_ret
          exact ⟨ret_bool hf.out.symm, ((Below.refl _ _).alloc (Nat.le_refl _) _).trans (hb2.mono (by omega))⟩
        | false =>
          have HS1 : Hid (Seen d (k + 1) (allKids (d.nodes.take k))) := by
            simp only [Bool.or_eq_false_iff, Bool.not_eq_false', Bool.and_eq_false_iff, decide_eq_false_iff_not] at hbad
            refine HSN.out (nodeB_iff.1 (HNB.out.trans hbad.1)) ?_
            omega
          clear hbad HSN hse HRA HNB
          go_wp2_with fail
          go_loopw [3, 6] (fun sv i' wq => ∃ m : Nat, m ≤ x.kids.length ∧ i' = .int .i64 m ∧ Hid (Seen d (k + 1) (allKids (d.nodes.take k) ++ x.kids.take m)) ∧ wq.ownsRow (w.heap.size + 1) 3 1 sv (allKids (d.nodes.take k) ++ x.kids.take m).length ((allKids (d.nodes.take k) ++ x.kids.take m).map (Value.int .i64)) ∧ Below (w.heap.size + 1) (w.alloc (.cells #[.int .i64 d.root, .int .i64 d.next, .slice (some ⟨b, off, none⟩) d.nodes.length cap] 31)) wq ∧ wo.heap.size < wq.heap.size ∧ Hid (wq.heap[wo.heap.size]? = some (.cells #[.int .i64 x.id, .int .i64 x.kind, .int .i64 x.attr, .string x.text, .slice ak x.kids.length ck] 98 (0, 0)))) (fun _ i' _ => x.kids.length - (intOf i').toNat)
          case atStart => exact ⟨0, Nat.zero_le _, rfl, by simpa using HS1, by simpa using hown2, hb2, by omega, hbx⟩
          case round =>
            obtain ⟨m, hm, rfl, hse, hown, hbr, hbo, HBX⟩ := hrel
            clear hbx hb2 hown2 hbc hszc hsz hszl hbr1 HS1
            obtain ⟨hcx, hfx⟩ := bcell (W := w.alloc _) (by simpa using hbr)
            have hsz := hbr.size
            simp only [World.size_alloc] at hsz
            have hszl : w.heap.size < wr.heap.size := by omega
            have hbr1 : b < wr.heap.size := by omega
            have hx4 := cell_of_heap HBX.out 4
            simp only [List.getElem?_toArray, List.getElem?_cons_succ, List.getElem?_cons_zero] at hx4
            by_cases hlm : m < x.kids.length
            · obtain ⟨bk, offk, rfl, hbk, hck⟩ := hka.resolve_left (by intro e; simp [e] at hlm)
              have hbkw : bk < w.heap.size := by omega
              have hbkr : bk < wr.heap.size := by omega
              have hcm := hck m hlm
              have HTS := hide (int_snoc hlm)
              have HFm : Hid (Flat d → x.kids[m]?.getD 0 ≠ d.root ∧ x.kids[m]?.getD 0 ∉ allKids (d.nodes.take k) ++ x.kids.take m ∧ x.kids[m]?.getD 0 ∈ idsOf d.nodes) := fun F => HFK.out F m hlm
              clear hck hka HFK
              have hsnl : (allKids (d.nodes.take k) ++ x.kids.take m).length ≤ 40 := by
                have := nodup_sub_len hse.out.once hse.out.there; rw [idsOf_len] at this; omega
              have HIA : Hid (IntsAt wr.heap.size wr u3 (allKids (d.nodes.take k) ++ x.kids.take m)) := ints_of_row hown
              generalize hsn : allKids (d.nodes.take k) ++ x.kids.take m = sn at *
              have HSNEq := hide hsn
              clear hsn
              generalize x.kids[m]?.getD 0 = y at *
              have hcal := calm_cell wr
              have HH : Hid (∀ t : Calm wr, Calls Try.prog 80 #[u3, .int .i64 y] t.out fun e w'' => e = .returned (.bool (hasB sn y)) ∧ w'' = t.out) := fun t => specHas_any wr.heap.size u3 sn y t.out (HIA.out.below (Nat.le_refl _) t.below) (by omega)
              have HAt : Hid (∀ t : Calm wr, Calls Try.prog 66 #[.agg #[.int .i64 d.root, .int .i64 d.next, .slice (some ⟨b, off, none⟩) d.nodes.length cap], .int .i64 y] t.out fun e w'' => e = .returned (.int .i64 (placeOf d.nodes y)) ∧ Below t.out.heap.size t.out w'') := fun t =>
                specAt_any n₀ d.root d.next _ d.nodes y t.out (hN'.below (Nat.le_refl _) (((Below.refl _ _).alloc hn _).trans ((hbr.mono (by omega)).trans (t.below.mono (by omega))))) (by have := t.below.size; omega) (by omega)
              generalize he1 : (y == d.root) = e1 at *
              generalize he2 : hasB sn y = e2 at *
              generalize he3 : placeOf d.nodes y = e3 at *
              have HE1 := hide he1
              have HE2 := hide he2
              have HE3 := hide he3
              clear he2 he3
              go_wp2_with fail
              go_cut [74] (fun v74 wc => v74 = .bool (e1 || e2 || decide (e3 < 0)) ∧ Below wr.heap.size wr wc)
              case first =>
                cases e1 with
                | true =>
                  refine wp_region_calm (by kernel_rfl) (by kernel_rfl) ?_
                  repeat (go_big_quiet_step (fail))
                  refine wpQuiet_nil ?_
                  rintro _ ⟨t, rfl⟩
                  go_wp2_with fail
                  go_meet
                  exact ⟨rfl, t.below⟩
                | false =>
                  cases e2 with
                  | true =>
                    refine wp_region_calm (by kernel_rfl) (by kernel_rfl) ?_
                    repeat (go_big_quiet_step ((go_at_call 80; exact calm_of_same (HH.out _))))
                    refine wpQuiet_nil ?_
                    rintro _ ⟨t, rfl⟩
                    go_wp2_with fail
                    go_meet
                    exact ⟨rfl, t.below⟩
                  | false =>
                    refine wp_region_calm (by kernel_rfl) (by kernel_rfl) ?_
                    repeat (go_big_quiet_step (first | (go_at_call 80; exact calm_of_same (HH.out _)) | (go_at_call 66; exact calm_of (HAt.out _))))
                    refine wpQuiet_nil ?_
                    rintro _ ⟨t, rfl⟩
                    go_wp2_with fail
                    go_meet
                    exact ⟨by simp, t.below⟩
              case rest =>
                obtain ⟨rfl, hbc⟩ := hcut
                have hszc := hbc.size
                have HBX2 : Hid (wc.heap[wo.heap.size]? = some (.cells #[.int .i64 x.id, .int .i64 x.kind, .int .i64 x.attr, .string x.text, .slice (some ⟨bk, offk, none⟩) x.kids.length ck] 98 (0, 0))) := (hbc.block _ hbo).trans HBX.out
                have hown2 := ownsRow_below hown hbc
                have hb2 : Below (w.heap.size + 1) (w.alloc (.cells #[.int .i64 d.root, .int .i64 d.next, .slice (some ⟨b, off, none⟩) d.nodes.length cap] 31)) wc := hbr.trans (hbc.mono hsz)
                clear HH HAt HIA hcal hcx hfx hown HBX hx4
                cases hbad : (e1 || e2 || decide (e3 < 0)) with
                | true =>
                  have hf : Hid (r = false) := by
                    cases hrr : r with
                    | false => rfl
                    | true =>
                      obtain ⟨f1, f2, f3⟩ := HFm.out (HR.out.1 hrr).1
                      have g1 : e1 = false := by rw [← HE1.out]; simpa using f1
                      have g2 : e2 = false := by rw [← HE2.out]; exact hasB_no.2 f2
                      have g3 : 0 ≤ e3 := by rw [← HE3.out]; obtain ⟨p, hp, _⟩ := placeOf_lt f3; omega
                      simp [g1, g2] at hbad
                      omega
                  go_wp2_with fail
                  go_ret
                  exact ⟨ret_bool hf.out.symm, ((Below.refl _ _).alloc (Nat.le_refl _) _).trans (hb2.mono (by omega))⟩
                | false =>
                  simp only [Bool.or_eq_false_iff, decide_eq_false_iff_not] at hbad
                  have HSe2 : Hid (Seen d (k + 1) (sn ++ [y])) := by
                    refine hse.out.kid (by have := HE1.out.trans hbad.1.1; simpa using this) (hasB_no.1 (HE2.out.trans hbad.1.2)) ?_
                    have h1 := hbad.2
                    rw [← HE3.out] at h1
                    exact Classical.byContradiction fun hno => h1 (by rw [placeOf_no.2 hno]; omega)
                  have hx5 := cell_of_heap HBX2.out 4
                  simp only [List.getElem?_toArray, List.getElem?_cons_succ, List.getElem?_cons_zero] at hx5
                  have hcm2 : wc.cell? ⟨bk, offk + m, none⟩ = some (.int .i64 y) := (((Below.refl _ _).alloc (Nat.le_refl _) _).trans (hb2.mono (by omega))).cell (p := ⟨bk, offk + m, none⟩) hbkw |>.trans hcm
                  clear hbad
                  go_wp2_with (at_builtin; refine wpList_append_own _ rfl _ _ 92 rfl (w.heap.size + 1) 3 i0 (.int .i64 0) 1 8 Try.underlying92 hi hz0 hz1 hz2 rfl (by decide) _ _ _ rfl (hown2.alloc _) ⟨wc.heap.size, 0, none⟩ 1 1 [Value.int .i64 y] rfl rfl (cell_one_new _ _ _) (one_int _) (by unfold maxLen; omega) (by omega) (by simp; omega) ?_)
                  intro v' w1 hown' hgrow _
                  have hne := own_other hown2 HBX2.out (by decide)
                  have hb3 := (hb2.alloc (by omega) (.cells #[.int .i64 y] 3)).grown hgrow (by simp; omega) (fun g hg => (hown2.lt g hg).1)
                  have hw1 := hgrow.size
                  simp only [World.size_alloc] at hw1
                  have HBX3 : Hid (w1.heap[wo.heap.size]? = some (.cells #[.int .i64 x.id, .int .i64 x.kind, .int .i64 x.attr, .string x.text, .slice (some ⟨bk, offk, none⟩) x.kids.length ck] 98 (0, 0))) :=
                    (hgrow.block wo.heap.size (by simp; omega) (fun e => hne e.symm)).trans ((Below.heap_alloc wc _ _ (by omega)).trans HBX2.out)
                  have HRow : Hid (w1.ownsRow (w.heap.size + 1) 3 1 v' (allKids (d.nodes.take k) ++ x.kids.take (m + 1)).length ((allKids (d.nodes.take k) ++ x.kids.take (m + 1)).map (Value.int .i64))) := by
                    unfold Hid; rw [HTS.out, ← List.append_assoc, HSNEq.out]; simpa using hown'
                  have HSe3 : Hid (Seen d (k + 1) (allKids (d.nodes.take k) ++ x.kids.take (m + 1))) := by
                    rw [HTS.out, ← List.append_assoc, HSNEq.out]; exact HSe2.out
                  clear hown' hgrow hne hx5 hcm2 hown2 HSe2
                  go_wp2_with fail
                  go_roundw
                  case rel => exact ⟨m + 1, by omega, by go_num, HSe3, HRow.out, hb3, by omega, HBX3⟩
                  case measure => simp [intOf]; omega
            · have HRow : Hid (wr.ownsRow (w.heap.size + 1) 3 1 u3 (allKids (d.nodes.take (k + 1))).length ((allKids (d.nodes.take (k + 1))).map (Value.int .i64))) := by
                rw [HKS.out]; have h := hown; rw [List.take_of_length_le (l := x.kids) (by omega)] at h; exact h
              have HSe3 : Hid (Seen d (k + 1) (allKids (d.nodes.take (k + 1)))) := by
                have := hse.out; rw [List.take_of_length_le (l := x.kids) (by omega)] at this; rw [HKS.out]; exact this
              clear hown hse
              go_wp2_with fail
              exact ⟨⟨k + 1, by omega, by go_num, HSe3, HRow.out, hbr⟩, by simp [intOf]; omega⟩
    · rw [List.take_of_length_le (by omega)] at hse hown
      have hsn := hse.out.once
      have hsnl : (allKids d.nodes).length ≤ 40 := by
        have := nodup_sub_len hse.out.once hse.out.there; rw [idsOf_len] at this; omega
      have HRT : Hid (r = true ↔ ((allKids d.nodes).length + 1 = d.nodes.length ∧ 0 ≤ placeOf d.nodes d.root)) := by
        have hS := hse.out
        have hfine := hS.fine
        have hrise := hS.rise
        rw [List.take_of_length_le (by omega)] at hfine hrise
        refine HR.out.trans ⟨fun ⟨F, hl⟩ => ⟨hl, ?_⟩, fun ⟨hl, hp⟩ => ⟨⟨h1, h40, hx2, hxm, hfine, hrise, hS.there, hS.once, hS.rootNo, ?_⟩, hl⟩⟩
        · obtain ⟨p, hp, _⟩ := placeOf_lt F.rootIn; omega
        · exact Classical.byContradiction fun hno => by rw [placeOf_no.2 hno] at hp; omega
      clear hse hsn HR
      obtain ⟨a3, c3, rfl⟩ := row_shape hown
      clear hown
      generalize (allKids d.nodes).length = q at *
      have HAt : Hid (Calls Try.prog 66 #[.agg #[.int .i64 d.root, .int .i64 d.next, .slice (some ⟨b, off, none⟩) d.nodes.length cap], .int .i64 d.root] wo fun e w'' => e = .returned (.int .i64 (placeOf d.nodes d.root)) ∧ Below wo.heap.size wo w'') :=
        specAt_any n₀ d.root d.next _ d.nodes d.root wo (hN'.below (Nat.le_refl _) (((Below.refl _ _).alloc hn _).trans (hbr.mono (by omega)))) (by omega) (by omega)
      generalize placeOf d.nodes d.root = e3 at *
      by_cases hq : (q : Int) = (d.nodes.length : Int) - 1
      · have hq1 : ((q : Int) == (d.nodes.length : Int) - 1) = true := by simpa using hq
        have HQ := hide hq
        clear hq
        go_wp2_with (go_at_call 66; refine HAt.out.mono ?_; rintro e w1 ⟨rfl, hb1⟩)
        go_ret
        refine ⟨ret_bool ?_, ((Below.refl _ _).alloc (Nat.le_refl _) _).trans ((hbr.trans (hb1.mono hsz)).mono (by omega))⟩
        rw [Bool.eq_iff_iff, HRT.out]
        have := HQ.out
        simp only [decide_eq_true_eq]
        omega
      · have hq1 : ((q : Int) == (d.nodes.length : Int) - 1) = false := by simpa using hq
        have hf : Hid (r = false) := by
          cases hrr : r with
          | false => rfl
          | true => have := HRT.out.1 hrr; omega
        clear hq
        go_wp2_with fail
        go_ret
        exact ⟨ret_bool hf.out.symm, ((Below.refl _ _).alloc (Nat.le_refl _) _).trans (hbr.mono (by omega))⟩
end Go.Proofs.Ytfjhpfgffbghdaa
