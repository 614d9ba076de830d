import Derived.Test.YtmdfjhnibhmdkafDoorMcD
import Derived.Test.YtmdfjhnibhmdkafDoorMcE
namespace Go.Proofs.YtmdfjhnibhmdkafDoor
open Go.ChangeShapes Go.WideShapes Go.ChangeAt Go.RowKit

/-! A text read strictly, item by item, is a text that is taken apart and joined anew. -/

theorem bytesI_at (s : ByteArray) {k : Nat} (h : k < s.size) : (bytesI s)[k]'(by rw [bytesI_length]; exact h) = (byteN s k : Int) := by
  rw [byteN_eq s k h]
  unfold bytesI
  simp
  rfl
theorem bytesI_ext (s : ByteArray) (a n : Nat) (h : a + n ≤ s.size) : bytesI (s.extract a (a + n)) = ((bytesI s).drop a).take n := by
  refine List.ext_getElem ?_ fun j h1 h2 => ?_
  · rw [bytesI_length, ext_size _ _ _ h, List.length_take, List.length_drop, bytesI_length]; omega
  · have hj : j < n := by rw [bytesI_length, ext_size _ _ _ h] at h1; omega
    rw [bytesI_at _ (by rw [ext_size _ _ _ h]; omega), byteN_ext s a (a + n) j (by omega) h, List.getElem_take, List.getElem_drop, bytesI_at s (by omega)]
theorem items_more {s : ByteArray} {p : Nat} {pre : List ItemM} (hB : itemsB pre = (bytesI s).take p) (h : p + 3 + partN s p ≤ s.size) : itemsB (pre ++ [partI s p]) = (bytesI s).take (p + 3 + partN s p) := by
  have e1 : itemsB (pre ++ [partI s p]) = itemsB pre ++ (partI s p).bytes := by
    unfold itemsB
    rw [List.flatMap_append, List.flatMap_singleton]
  have hl : (bytesI s).length = s.size := bytesI_length s
  have hd : (partI s p).data.size = partN s p := by
    unfold partI
    show (s.extract (p + 3) (p + 3 + partN s p)).size = _
    rw [ext_size _ _ _ h]; omega
  have hb1 := byteN_lt s (p + 1)
  have hb2 := byteN_lt s (p + 2)
  have hq : (partI s p).data.size / 256 = byteN s (p + 1) ∧ (partI s p).data.size % 256 = byteN s (p + 2) := by
    rw [hd]; unfold partN; omega
  have e2 : (partI s p).head = [(byteN s p : Int), (byteN s (p + 1) : Int), (byteN s (p + 2) : Int)] := by
    unfold ItemM.head
    rw [hq.1, hq.2]
    rfl
  have e3 : bytesI (partI s p).data = ((bytesI s).drop (p + 3)).take (partN s p) := bytesI_ext s (p + 3) (partN s p) h
  have e4 : (bytesI s).take (p + 3) = (bytesI s).take p ++ [(byteN s p : Int), (byteN s (p + 1) : Int), (byteN s (p + 2) : Int)] := by
    rw [show p + 3 = p + 2 + 1 by omega, List.take_succ_eq_append_getElem (by omega), List.take_succ_eq_append_getElem (by omega), List.take_succ_eq_append_getElem (by omega), bytesI_at s (by omega), bytesI_at s (by omega), bytesI_at s (by omega)]
    simp
  rw [e1, hB]
  unfold ItemM.bytes
  rw [e2, e3, List.take_add, e4, List.append_assoc]
theorem part_shift {s : ByteArray} {p : Nat} (h3 : p + 3 ≤ s.size) : partN (s.extract p s.size) 0 = partN s p := by
  unfold partN
  rw [byteN_ext s p s.size (0 + 1) (by omega) (Nat.le_refl _), byteN_ext s p s.size (0 + 2) (by omega) (Nat.le_refl _), Nat.zero_add, Nat.zero_add]
theorem partI_shift {s : ByteArray} {p : Nat} (h3 : p + 3 + partN s p ≤ s.size) : partI (s.extract p s.size) 0 = partI s p := by
  unfold partI
  rw [part_shift (by omega), byteN_ext s p s.size 0 (by omega) (Nat.le_refl _), ext_ext _ _ _ _ _ (by omega), Nat.add_zero, Nat.zero_add, ← Nat.add_assoc]
theorem first_some {s : ByteArray} {p : Nat} {I : ItemM} {r : ByteArray} (hp : p ≤ s.size) (h : firstM (s.extract p s.size) = some (I, r)) : p + 3 + partN s p ≤ s.size ∧ I = partI s p ∧ I.ok = true ∧ r = s.extract (p + 3 + partN s p) s.size := by
  have hus := ext_size s p s.size (Nat.le_refl _)
  unfold firstM at h
  by_cases h3 : (s.extract p s.size).size < 3
  · rw [if_pos h3] at h; cases h
  · rw [if_neg h3] at h
    have h3' : p + 3 ≤ s.size := by omega
    rw [part_shift h3'] at h
    by_cases h4 : (s.extract p s.size).size < 3 + partN s p
    · rw [if_pos h4] at h; cases h
    · rw [if_neg h4] at h
      have h4' : p + 3 + partN s p ≤ s.size := by omega
      rw [partI_shift h4'] at h
      by_cases h5 : (partI s p).ok = false
      · rw [if_pos h5] at h; cases h
      · rw [if_neg h5] at h
        simp only [Option.some.injEq, Prod.mk.injEq] at h
        obtain ⟨rfl, rfl⟩ := h
        refine ⟨h4', rfl, by simpa using h5, ?_⟩
        rw [hus, ext_ext _ _ _ _ _ (by omega), ← Nat.add_assoc, show p + (s.size - p) = s.size by omega]
theorem join_notok {l : List ItemM} {n : Nat} (h : l.all ItemM.ok = false) : (joinM l (n : Int)).err ≠ 0 := fun he => by
  have := (joinM_ok he).2.2.1
  rw [h] at this
  cases this
theorem first_none {s : ByteArray} {p f : Nat} {pre : List ItemM} (hs : s.size ≤ 65535) (hp : p < s.size) (hf : s.size < p + f) (h63 : byteN s p ≠ 63) (hP : parseM s (s.size + 1) 0 = (parseM s f p).map (pre ++ ·)) (h : firstM (s.extract p s.size) = none) : splitM s = none := by
  have hus := ext_size s p s.size (Nat.le_refl _)
  have hno : parseM s (s.size + 1) 0 = none → splitM s = none := fun h => by unfold splitM; rw [if_neg (by omega), h]
  by_cases h3 : s.size < p + 3
  · exact hno (by rw [hP, parse_short (by omega) ⟨hp, h63⟩ (.inl h3)]; rfl)
  · by_cases h4 : s.size < p + 3 + partN s p
    · exact hno (by rw [hP, parse_short (by omega) ⟨hp, h63⟩ (.inr h4)]; rfl)
    · unfold firstM at h
      rw [if_neg (by omega), part_shift (by omega), if_neg (by omega), partI_shift (by omega)] at h
      by_cases h5 : (partI s p).ok = false
      · obtain ⟨f', rfl⟩ : ∃ f', f = f' + 1 := ⟨f - 1, by omega⟩
        rw [parse_step ⟨hp, h63⟩ (by omega)] at hP
        cases hq : parseM s f' (p + 3 + partN s p) with
        | none => exact hno (by rw [hP, hq]; rfl)
        | some l =>
          rw [hq] at hP
          have hP' : parseM s (s.size + 1) 0 = some (pre ++ (partI s p :: l)) := hP
          unfold splitM
          rw [if_neg (by omega), hP']
          refine if_neg fun hj => ?_
          refine join_notok (l := pre ++ (partI s p :: l)) ?_ hj.1
          rw [List.all_append, List.all_cons, h5]
          simp
      · rw [if_neg h5] at h; cases h
theorem split_end {s : ByteArray} {p f : Nat} {pre : List ItemM} (hs : s.size ≤ 65535) (hp : p ≤ s.size) (hf : s.size < p + f) (hst : p = s.size ∨ byteN s p = 63) (hP : parseM s (s.size + 1) 0 = (parseM s f p).map (pre ++ ·)) (hok : pre.all ItemM.ok = true) (hB : itemsB pre = (bytesI s).take p) :
    ((∀ j, p < j → byteN s j = 0) → splitM s = some pre) ∧ ((∃ j, p < j ∧ byteN s j ≠ 0) → splitM s = none) := by
  have hpa : parseM s (s.size + 1) 0 = some pre := by
    rw [hP, parse_stop (by omega) (fun h => by
      rcases hst with h1 | h1
      · omega
      · exact h.2 h1)]
    simp
  have hl : (bytesI s).length = s.size := bytesI_length s
  have hBl : (itemsB pre).length = p := by rw [hB, List.length_take]; omega
  have hj : joinM pre (s.size : Int) = ⟨strOfNums (padB (itemsB pre) s.size), 0⟩ := by
    unfold joinM
    rw [if_neg (by omega), if_neg (by rw [hok]; decide), if_neg (by omega)]
    rfl
  have hsp : splitM s = if strOfNums (padB (itemsB pre) s.size) = s then some pre else none := by
    unfold splitM
    rw [if_neg (by omega), hpa]
    simp only [hj, true_and]
  refine ⟨fun hz => ?_, fun ⟨j, hj1, hj2⟩ => ?_⟩
  · rw [hsp, if_pos ?_]
    have hpad : padB (itemsB pre) s.size = bytesI s := by
      unfold padB
      by_cases hlt : p < s.size
      · rw [if_pos (by omega), hBl, hB]
        have h63 : byteN s p = 63 := by
          rcases hst with h1 | h1
          · omega
          · exact h1
        have e1 : (bytesI s).drop p = (byteN s p : Int) :: (bytesI s).drop (p + 1) := by
          rw [List.drop_eq_getElem_cons (by omega), bytesI_at s hlt]
        have e2 : (bytesI s).drop (p + 1) = List.replicate (s.size - p - 1) 0 := by
          rw [List.eq_replicate_iff]
          refine ⟨by rw [List.length_drop]; omega, fun x hx => ?_⟩
          obtain ⟨i, hi, rfl⟩ := List.getElem_of_mem hx
          rw [List.length_drop] at hi
          rw [List.getElem_drop, bytesI_at s (by omega), hz _ (by omega)]
          rfl
        conv => rhs; rw [← List.take_append_drop p (bytesI s), e1, e2, h63]
        simp
      · rw [if_neg (by omega), hB, List.take_of_length_le (by omega)]
    rw [hpad, str_bytes]
  · rw [hsp, if_neg ?_]
    intro he
    have hjs : j < s.size := by
      rcases Nat.lt_or_ge j s.size with h | h
      · exact h
      · exact absurd (byteN_far s h) hj2
    have hbt := byteN_str (byt_pad (byt_items hok) s.size) (j := j) (by rw [padB_length (by omega)]; exact hjs)
    rw [he] at hbt
    have e0 : (padB (itemsB pre) s.size).getD j 0 = 0 := by
      unfold padB
      rw [if_pos (by omega)]
      simp only [List.getD]
      rw [List.getElem?_append_right (by simp; omega), List.getElem?_replicate]
      split <;> rfl
    rw [e0] at hbt
    exact hj2 (by omega)
end Go.Proofs.YtmdfjhnibhmdkafDoor
