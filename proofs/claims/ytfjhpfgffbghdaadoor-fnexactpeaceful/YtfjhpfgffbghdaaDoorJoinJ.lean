/-
  The pointer to a node's branch on the way up, and where it leads.
  Whether a node hangs below another one: what the program's climb answers.
-/
import Derived.Test.YtfjhpfgffbghdaaDoorAskDocJ
import Derived.Test.YtfjhpfgffbghdaaDoorSpecReachJ
import Derived.Test.YtfjhpfgffbghdaaDoorJoinG
import Derived.LaidEqlPtr
namespace Go.Proofs.YtfjhpfgffbghdaaDoor
open Go.RowKit

def curPtr (ad : Int → Nat) (cur : Int) : Value := .pointer (if cur = 0 then none else some ⟨ad cur, 0, none⟩)
theorem curPtr_none (ad : Int → Nat) : curPtr ad 0 = .pointer none := by simp [curPtr]
theorem curPtr_some {ad : Int → Nat} {cur : Int} (h : cur ≠ 0) : curPtr ad cur = .pointer (some ⟨ad cur, 0, none⟩) := by simp [curPtr, h]

theorem up_ptr {n₀ : Nat} {W : World} {d : PDoc} {tb : Nat} {ad : Int → Nat} {up : Int → Option Int} {kv : Int → Value} (hgr : Grown n₀ W d tb ad up kv) (G : Good d) (i : Int) : ptrTo ((up i).map ad) = curPtr ad (parentOf d.nodes i) := by
  cases hup : up i with
  | none =>
    rw [parentOf_none ((hgr.upNone _).1 hup), curPtr_none]
    rfl
  | some p =>
    have hk := hgr.upKid _ _ hup
    have e : parentOf d.nodes i = p := one_parent G.once (parentOf_up G.rise (kidsAt_all hk)) hk
    obtain ⟨y, hy, hyp, -⟩ := mem_kidsAt hk
    have h1 : 1 ≤ p := (G.toFlat.ids_pos (by rw [← hyp]; exact List.mem_map.2 ⟨y, hy, rfl⟩)).1
    rw [e, curPtr_some (by omega)]
    rfl
end Go.Proofs.YtfjhpfgffbghdaaDoor

namespace Go.Proofs.YtfjhpfgffbghdaaDoor
open Go.RowKit

/-- Those above a node. -/
noncomputable def aboveB (d : PDoc) (k i : Int) : Bool := hasB (upsOf d k).tail i

theorem aboveB_iff {d : PDoc} (G : Good d) {k i : Int} (hk : k ∈ idsOf d.nodes) (hne : k ≠ i) : aboveB d k i = true ↔ i ∈ upsOf d k := by
  obtain ⟨q, hq⟩ := G.dep hk
  unfold aboveB
  rw [hasB_iff, upsOf_eq G hq]
  cases q with
  | zero => simp [ups]; omega
  | succ q => simp [ups]; omega

theorem branchInfo : (Tryd.prog.info? 127).map (fun i => (i.zero, i.size, i.bytes)) = some (some (.agg #[.int .i64 0, .int .i64 0, .int .i64 0, .string ByteArray.empty, .pointer none, .slice none 0 0]), 6, 72) := by kernel_rfl

theorem branch_same (b : Nat) (w : World) : (binOp .eql 58 (.pointer (some ⟨b, 0, none⟩)) (.pointer (some ⟨b, 0, none⟩))).run Tryd.prog w = .ok (.bool true) w := by
  obtain ⟨j, hj, _, _, _⟩ := info_parts branchInfo
  exact run_eql_ptr_same w _ Tryd.underlying58 hj

theorem branch_other {n₀ : Nat} {w : World} {l : List PNode} {ad : Int → Nat} {up : Int → Option Int} {kd : Int → List Int} {kv : Int → Value} (h : Hung n₀ w l ad up kd kv) {a b : Int} (ha : a ∈ idsOf l) (hb : b ∈ idsOf l) (hne : ad a ≠ ad b) : (binOp .eql 58 (.pointer (some ⟨ad a, 0, none⟩)) (.pointer (some ⟨ad b, 0, none⟩))).run Tryd.prog w = .ok (.bool false) w := by
  obtain ⟨j, hj, _, h1, _⟩ := info_parts branchInfo
  obtain ⟨x, hx, rfl⟩ := node_of ha
  obtain ⟨y, hy, rfl⟩ := node_of hb
  exact run_eql_ptr_other w Tryd.underlying58 hj (by rw [h1]; decide) (by intro e; injection e with e1; exact hne e1) (h.node x hx) (h.node y hy)

/-- How many nodes are left on the way up from where a pointer stands. -/
noncomputable def leftLen (d : PDoc) (ad : Int → Nat) (pv : Value) : Nat := by
  classical exact if h : ∃ n, ∃ cur rest, pv = curPtr ad cur ∧ Left d cur rest ∧ n = rest.length then Classical.choose h else 0

theorem Left.same {d : PDoc} (G : Good d) {cur : Int} {r r' : List Int} (h : Left d cur r) (h' : Left d cur r') : r = r' := by
  by_cases h0 : cur = 0
  · subst h0; rw [h.done G, h'.done G]
  · rcases h with ⟨a, ha, rfl⟩ | ⟨h, -⟩
    · rcases h' with ⟨b, hb, rfl⟩ | ⟨h, -⟩
      · rw [dep_one G.once G.rootNo ha hb]
      · exact absurd h h0
    · exact absurd h h0

theorem leftLen_eq {d : PDoc} (G : Good d) {ad : Int → Nat} (hinj : ∀ a ∈ idsOf d.nodes, ∀ b ∈ idsOf d.nodes, ad a = ad b → a = b) {cur : Int} {rest : List Int} (h : Left d cur rest) : leftLen d ad (curPtr ad cur) = rest.length := by
  have hex : ∃ n, ∃ cur' rest', curPtr ad cur = curPtr ad cur' ∧ Left d cur' rest' ∧ n = rest'.length := ⟨_, cur, rest, rfl, h, rfl⟩
  unfold leftLen
  rw [dif_pos hex]
  obtain ⟨cur', rest', e1, e2, e3⟩ := Classical.choose_spec hex
  rw [e3]
  by_cases h0 : cur = 0
  · subst h0
    have : cur' = 0 := by
      by_cases h1 : cur' = 0
      · exact h1
      · rw [curPtr_none, curPtr_some h1] at e1; cases e1
    subst this
    rw [h.done G, e2.done G]
  · by_cases h1 : cur' = 0
    · rw [curPtr_some h0, h1, curPtr_none] at e1; cases e1
    · rw [curPtr_some h0, curPtr_some h1] at e1
      simp only [Value.pointer.injEq, Option.some.injEq, Addr.mk.injEq, and_true] at e1
      obtain ⟨_, _, _, hi⟩ := h.next G h0
      obtain ⟨_, _, _, hi'⟩ := e2.next G h1
      have := hinj _ hi _ hi' e1
      subst this
      rw [h.same G e2]

set_option maxHeartbeats 2000000 in
set_option maxRecDepth 100000 in
theorem isBelow_any (d : PDoc) (G : Good d) (n₀ tb : Nat) (ad : Int → Nat) (up : Int → Option Int) (kv : Int → Value) (k i : Int) (hk : k ∈ idsOf d.nodes) (hi : i ∈ idsOf d.nodes) (w : World) (hgr : Grown n₀ w d tb ad up kv) :
    Calls Tryd.prog 79 #[.pointer (some ⟨ad k, 0, none⟩), .pointer (some ⟨ad i, 0, none⟩)] w fun e w' => e = .returned (.bool (aboveB d k i)) ∧ w' = w := by
  obtain ⟨q, hq⟩ := G.dep hk
  have HG := hide G
  have HGr := hide hgr
  have HT := hide (hgr.tree G)
  have HInj : Hid (∀ a ∈ idsOf d.nodes, ad a = ad i → a = i) := fun a ha e => by
    obtain ⟨x, hx, rfl⟩ := node_of ha
    obtain ⟨y, hy, rfl⟩ := node_of hi
    exact hgr.hung.inj x hx y hy e
  have HIn2 : Hid (∀ a ∈ idsOf d.nodes, ∀ b ∈ idsOf d.nodes, ad a = ad b → a = b) := fun a ha b hb e => by
    obtain ⟨x, hx, rfl⟩ := node_of ha
    obtain ⟨y, hy, rfl⟩ := node_of hb
    exact hgr.hung.inj x hx y hy e
  obtain ⟨r, hr⟩ : ∃ r, r = aboveB d k i := ⟨_, rfl⟩
  have HOth : Hid (∀ a ∈ idsOf d.nodes, ad a ≠ ad i → (binOp .eql 58 (.pointer (some ⟨ad a, 0, none⟩)) (.pointer (some ⟨ad i, 0, none⟩))).run Tryd.prog w = .ok (.bool false) w) := fun a ha hne => branch_other hgr.hung ha hi hne
  obtain ⟨ch, hch⟩ : ∃ ch, ch = (upsOf d k).tail := ⟨_, rfl⟩
  have hlen : ch.length ≤ q := by rw [hch, upsOf_eq G hq, List.length_tail, ups_len]; omega
  have HR : Hid (r = hasB ch i) := by rw [Hid, hr, hch]; rfl
  have HLf : Hid (Left d (parentOf d.nodes k) ch) := by
    rw [Hid, hch, upsOf_eq G hq]
    cases q with
    | zero =>
      obtain rfl : k = d.root := hq
      exact .inr ⟨G.up_root, rfl⟩
    | succ q => exact .inl ⟨q, G.up_dep hq, rfl⟩
  obtain ⟨x, hx, hxk⟩ := node_of hk
  have hB := HT.out x hx
  have hxl := hB.lt
  have c4 := hB.c4
  rw [up_ptr hgr G, hxk] at c4
  rw [hxk] at hxl
  rw [← hr]
  clear hgr G hq hr hch hx hxk hB hk hi
  have hpos := HLf.out.pos HG.out
  generalize parentOf d.nodes k = cur0 at *
  go_enter Tryd.func79, Tryd.ntmps79
  go_wp2_with fail
  go_loop [5] (fun pv => ∃ (cur : Int) (rest : List Int), pv = curPtr ad cur ∧ 0 ≤ cur ∧ Hid (Left d cur rest ∧ r = hasB rest i)) (fun pv => leftLen d ad pv)
  case atStart => exact ⟨cur0, ch, rfl, hpos, HLf.out, HR.out⟩
  case round =>
    obtain ⟨cur, rest, rfl, hc0, hinv⟩ := hrel
    by_cases h0 : cur = 0
    · subst h0
      have HF : Hid (r = false) := by rw [Hid, hinv.out.2, hinv.out.1.done HG.out]; rfl
      rw [curPtr_none]
      go_wp2_with fail
      go_ret
      exact ⟨ret_bool HF.out.symm, rfl⟩
    · obtain ⟨rest', hr1, hr2, hr3⟩ := hinv.out.1.next HG.out h0
      have HM : Hid (leftLen d ad (curPtr ad cur) = rest'.length + 1) := by rw [Hid, leftLen_eq HG.out HIn2.out hinv.out.1, hr1]; rfl
      have HM2 : Hid (leftLen d ad (curPtr ad (parentOf d.nodes cur)) = rest'.length) := leftLen_eq HG.out HIn2.out hr2
      have HNx : Hid (Left d (parentOf d.nodes cur) rest' ∧ r = (cur == i || hasB rest' i)) := ⟨hr2, by rw [hinv.out.2, hr1]; simp [hasB]⟩
      have hpos2 := hr2.pos HG.out
      obtain ⟨y, hy, hyc⟩ := node_of hr3
      have hB2 := HT.out y hy
      have hyl := hB2.lt
      have e4 := hB2.c4
      rw [up_ptr HGr.out HG.out] at e4
      rw [hyc] at hyl e4
      have hcp : ∃ pp, curPtr ad (parentOf d.nodes cur) = .pointer pp := ⟨_, rfl⟩
      obtain ⟨pp, hpp⟩ := hcp
      have HPP := hide hpp
      rw [hpp] at e4
      rw [curPtr_some h0] at HM ⊢
      have HI := hide (HInj.out cur hr3)
      have HO2 := hide (HOth.out cur hr3)
      clear hr1 hr2 hr3 hy hyc hB2 hpp
      by_cases hci : cur = i
      · have HF : Hid (r = true) := by rw [Hid, HNx.out.2]; simp [hci]
        subst hci
        have hcmp := branch_same (ad cur) w
        go_wp2_with fail
        go_ret
        exact ⟨ret_bool HF.out.symm, rfl⟩
      · have hne : ad cur ≠ ad i := fun e => hci (HI.out e)
        have HN2 : Hid (Left d (parentOf d.nodes cur) rest' ∧ r = hasB rest' i) := ⟨HNx.out.1, by rw [HNx.out.2]; simp [hci]⟩
        have hcmp := HO2.out hne
        clear hci
        go_wp2_with fail
        go_round
        case rel => exact ⟨_, rest', HPP.out.symm, hpos2, HN2⟩
        case measure =>
          rw [← HPP.out, HM.out, HM2.out]; omega
end Go.Proofs.YtfjhpfgffbghdaaDoor
