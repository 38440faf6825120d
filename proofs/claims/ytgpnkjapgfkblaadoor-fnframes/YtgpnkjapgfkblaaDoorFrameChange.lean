/-
  A frame with another byte in its text is none; with fewer bytes or with more it is none: of the plain functions alone.
-/
import Derived.Test.YtgpnkjapgfkblaaDoorFramePlain
namespace Go.Proofs.YtgpnkjapgfkblaaDoor

theorem extract_take (x : ByteArray) (k : Nat) : (x.extract 0 k).data.toList = x.data.toList.take k := by simp [ByteArray.data_extract]

theorem frameAns_small {s : ByteArray} (h : s.size ≤ 60) : frameAns s = headB s ++ sumB (headB s) ∧ frameCode s = 0 := ⟨if_pos (by omega), if_pos (by omega)⟩
theorem head_size {s : ByteArray} (h : s.size ≤ 60) : (headB s).size = s.size + 3 := by
  have hp : (putB s.size).size = 1 := by rw [putB_size, putL_small (by omega)]; rfl
  rw [headB_co, ByteArray.size_append, ByteArray.size_append, hp]
  show 2 + (1 + s.size) = _
  omega
theorem frame_len {s : ByteArray} (h : s.size ≤ 60) : (headB s ++ sumB (headB s)).size = s.size + 5 := by
  rw [ByteArray.size_append, head_size h]; rfl
theorem readTop_frame {s : ByteArray} (h : s.size ≤ 60) : readTop (headB s ++ sumB (headB s)) = (s, 0) := by
  have := frame_len h
  rw [readTop, if_pos (by omega)]; exact frame_good s _ (by omega) (by omega) rfl

theorem head_list {s : ByteArray} (h : s.size ≤ 60) : (headB s).data.toList = 67 :: 79 :: s.size.toUInt8 :: s.data.toList := by
  rw [headB_co, data_append, data_append, putB, putL_small (by omega)]; rfl

/-- With another byte in its text a frame's sum is wrong. -/
theorem readTop_changed {s : ByteArray} {j c : Nat} (h : s.size ≤ 60) (hj : j < s.size) (hc : c < 256) (hlt : 3 + j < (headB s ++ sumB (headB s)).size) (hne : c ≠ ((headB s ++ sumB (headB s))[3 + j]'hlt).toNat) :
    readTop ((headB s ++ sumB (headB s)).extract 0 (3 + j) ++ ⟨#[c.toUInt8]⟩ ++ (headB s ++ sumB (headB s)).extract (3 + j + 1) (headB s ++ sumB (headB s)).size) = (⟨#[]⟩, 9) := by
  have hjl : j < s.data.toList.length := by simpa using hj
  have hS : s.data.toList = s.data.toList.take j ++ s.data.toList[j] :: s.data.toList.drop (j + 1) := by rw [← List.drop_eq_getElem_cons hjl, List.take_append_drop]
  have hb : ((headB s ++ sumB (headB s))[3 + j]'hlt) = s.data.toList[j] := by
    have e : ((headB s ++ sumB (headB s))[3 + j]'hlt) = (headB s ++ sumB (headB s)).data.toList[3 + j]'(by simpa using hlt) := rfl
    rw [e]
    have e2 : (headB s ++ sumB (headB s)).data.toList = 67 :: 79 :: s.size.toUInt8 :: (s.data.toList ++ (sumB (headB s)).data.toList) := by rw [data_append, head_list h]; rfl
    have e3 : (headB s ++ sumB (headB s)).data.toList[3 + j]? = some s.data.toList[j] := by
      rw [e2, Nat.add_comm]
      show (s.data.toList ++ (sumB (headB s)).data.toList)[j]? = _
      rw [List.getElem?_append_left hjl, List.getElem?_eq_getElem hjl]
    exact Option.some.inj ((List.getElem?_eq_getElem _).symm.trans e3)
  rw [hb] at hne
  generalize hbb : s.data.toList[j] = b at *
  have hbc : b ≠ c.toUInt8 := fun e => hne (by rw [e, u8_back hc])
  obtain ⟨p, hp⟩ : ∃ p, s.data.toList.take j = p := ⟨_, rfl⟩
  obtain ⟨q, hq⟩ : ∃ q, s.data.toList.drop (j + 1) = q := ⟨_, rfl⟩
  rw [hp, hq] at hS
  have hpl : p.length = j := by rw [← hp, List.length_take]; omega
  have hsz : p.length + (q.length + 1) = s.size := by
    have := congrArg List.length hS
    simp at this
    omega
  let s' : ByteArray := ⟨(p ++ c.toUInt8 :: q).toArray⟩
  have hs' : s'.size = s.size := by show (p ++ c.toUInt8 :: q).toArray.size = _; simp; omega
  have hl' : s'.data.toList = p ++ c.toUInt8 :: q := rfl
  have eT : (headB s ++ sumB (headB s)).extract 0 (3 + j) ++ ⟨#[c.toUInt8]⟩ ++ (headB s ++ sumB (headB s)).extract (3 + j + 1) (headB s ++ sumB (headB s)).size = headB s' ++ sumB (headB s) := by
    apply ByteArray.ext
    apply Array.ext'
    have eL : (headB s ++ sumB (headB s)).data.toList = (67 :: 79 :: s.size.toUInt8 :: p) ++ (b :: (q ++ (sumB (headB s)).data.toList)) := by rw [data_append, head_list h, hS]; simp
    have e1 : ((headB s ++ sumB (headB s)).extract 0 (3 + j)).data.toList = 67 :: 79 :: s.size.toUInt8 :: p := by
      rw [extract_take, eL, List.take_left' (by simp; omega)]
    have e2 : ((headB s ++ sumB (headB s)).extract (3 + j + 1) (headB s ++ sumB (headB s)).size).data.toList = q ++ (sumB (headB s)).data.toList := by
      have : ((headB s ++ sumB (headB s)).extract (3 + j + 1) (headB s ++ sumB (headB s)).size).data.toList = (headB s ++ sumB (headB s)).data.toList.drop (3 + j + 1) := by
        rw [ByteArray.data_extract, Array.toList_extract, List.extract_eq_take_drop]
        exact List.take_of_length_le (by simp)
      rw [this, eL, List.drop_append, List.drop_of_length_le (by simp; omega)]
      have : 3 + j + 1 - (67 :: 79 :: s.size.toUInt8 :: p).length = 1 := by simp; omega
      rw [this]; rfl
    rw [data_append, data_append, e1, e2, data_append, head_list (by omega), hl', hs']
    simp
  have z := frame_len h
  have z' := head_size (s := s') (by omega)
  have z2 : (headB s' ++ sumB (headB s)).size = s.size + 5 := by rw [ByteArray.size_append, z', hs']; rfl
  rw [eT, readTop, if_pos (by omega)]
  refine frame_bad s' _ (by omega) (by omega) rfl (sumB_parts _ _ ?_)
  rw [head_list h, head_list (by omega), hs', hl', hS]
  exact sum_parts (67 :: 79 :: s.size.toUInt8 :: p) q b c.toUInt8 hbc

/-- With fewer bytes a frame is none. -/
theorem readTop_fewer {s : ByteArray} {k : Nat} (h : s.size ≤ 60) (hk : k < s.size + 5) : (readTop ((headB s ++ sumB (headB s)).extract 0 k)).2 = 8 ∨ (readTop ((headB s ++ sumB (headB s)).extract 0 k)).2 = 3 := by
  have z := frame_len h
  have zh := head_size h
  have zk := size_extract0 (headB s ++ sumB (headB s)) k (by omega)
  rw [readTop, if_pos (by omega)]
  by_cases h5 : k < 5
  · rw [read_form (.inl (by omega))]; exact .inr rfl
  · by_cases hh : k < (headB s).size
    · rw [extract_less _ _ _ (by omega), frame_few s k (by omega) (by omega) hh]; exact .inl rfl
    · have e := extract_split (headB s) (sumB (headB s)) k (by omega)
      have z3 : ((sumB (headB s)).extract 0 (k - (headB s).size)).size = k - (headB s).size := size_extract0 _ _ (by show _ ≤ 2; omega)
      rw [e, frame_size s _ (by omega) (by rw [ByteArray.size_append, z3]; omega) (by omega)]; exact .inl rfl

/-- With more bytes a frame is none. -/
theorem readTop_more {s : ByteArray} (h : s.size ≤ 60) : (readTop (headB s ++ sumB (headB s) ++ ⟨#[120]⟩)).2 = 8 := by
  have zh := head_size h
  have z2 : (sumB (headB s) ++ (⟨#[120]⟩ : ByteArray)).size = 3 := by rw [ByteArray.size_append]; rfl
  have z1 : (headB s ++ (sumB (headB s) ++ ⟨#[120]⟩)).size = s.size + 6 := by rw [ByteArray.size_append, z2, zh]
  rw [ByteArray.append_assoc, readTop, if_pos (by omega), frame_size s _ (by omega) (by omega) (by omega)]
end Go.Proofs.YtgpnkjapgfkblaaDoor
