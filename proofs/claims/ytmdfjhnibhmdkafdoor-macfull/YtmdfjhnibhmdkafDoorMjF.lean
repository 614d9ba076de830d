import Derived.Test.YtmdfjhnibhmdkafDoorMjE
namespace Go.Proofs.YtmdfjhnibhmdkafDoor
open Go.ChangeShapes Go.WideShapes Go.ChangeAt Go.RowKit

/-! Split of anything; what is joined is split as it was. -/

def Byt (P : List Int) : Prop := ∀ x ∈ P, 0 ≤ x ∧ x ≤ 255
theorem byt_bytesI (s : ByteArray) : Byt (bytesI s) := fun x hx => by
  unfold bytesI at hx
  obtain ⟨b, _, rfl⟩ := List.mem_map.1 hx
  have := UInt8.toNat_lt b
  exact ⟨by omega, by omega⟩
theorem byt_head {t : ItemM} (h : t.ok = true) : Byt t.head := fun x hx => by
  have ho : 1 ≤ t.ch ∧ t.ch ≤ 32 ∧ t.data.size ≤ 1500 := of_decide_eq_true h
  unfold ItemM.head at hx
  simp only [List.mem_cons, List.not_mem_nil, or_false] at hx
  rcases hx with rfl | rfl | rfl <;> omega
theorem byt_items {l : List ItemM} (h : l.all ItemM.ok = true) : Byt (itemsB l) := fun x hx => by
  unfold itemsB at hx
  obtain ⟨t, ht, hx⟩ := List.mem_flatMap.1 hx
  have hok := List.all_eq_true.1 h t ht
  unfold ItemM.bytes at hx
  rcases List.mem_append.1 hx with hx | hx
  · exact byt_head hok x hx
  · exact byt_bytesI t.data x hx
theorem byt_pad {L : List Int} (h : Byt L) (n : Nat) : Byt (padB L n) := fun x hx => by
  unfold padB at hx
  split at hx
  · rcases List.mem_append.1 hx with hx | hx
    · rcases List.mem_append.1 hx with hx | hx
      · exact h x hx
      · obtain rfl : x = 63 := by simpa using hx
        omega
    · obtain rfl := List.eq_of_mem_replicate hx
      omega
  · exact h x hx
theorem byteN_str {P : List Int} (h : Byt P) {j : Nat} (hj : j < P.length) : (byteN (strOfNums P) j : Int) = P.getD j 0 := by
  have hs : j < (strOfNums P).size := by rw [strOfNums_size]; exact hj
  rw [byteN_eq _ _ hs]
  have e : (strOfNums P)[j] = UInt8.ofNat (P[j]).toNat := by
    show ((P.map fun n => UInt8.ofNat n.toNat).toArray)[j]'(by simpa using hj) = _
    rw [List.getElem_toArray, List.getElem_map]
  have hb := h P[j] (List.getElem_mem hj)
  rw [e]
  have e2 : P.getD j 0 = P[j] := by simp [List.getD, hj]
  rw [e2, UInt8.toNat_ofNat']
  omega
theorem str_bytes (s : ByteArray) : strOfNums (bytesI s) = s := by
  refine WideShapes.bytes_inj ?_
  rw [strOfNums_data]
  unfold bytesI
  rw [List.map_map]
  conv => rhs; rw [← List.map_id s.data.toList]
  refine List.map_congr_left fun b _ => ?_
  simp
theorem str_extract (A B C : List Int) : (strOfNums (A ++ B ++ C)).extract A.length (A.length + B.length) = strOfNums B := by
  refine WideShapes.bytes_inj ?_
  rw [strOfNums_data, ByteArray.data_extract]
  show (((A ++ B ++ C).map fun n => UInt8.ofNat n.toNat).toArray.extract A.length (A.length + B.length)).toList = _
  simp

theorem parse_items (P : List Int) (hP : Byt P) : ∀ (l : List ItemM) (pre tail : List Int) (f : Nat), P = pre ++ itemsB l ++ tail → l.all ItemM.ok = true → (tail = [] ∨ tail.getD 0 0 = 63 ∧ tail ≠ []) → l.length < f → parseM (strOfNums P) f pre.length = some l
  | [], pre, tail, f, hE, _, ht, hf => by
    refine parse_stop (by simp at hf; omega) fun h => ?_
    obtain ⟨h1, h2⟩ := h
    rw [strOfNums_size] at h1
    have hE' : P = pre ++ tail := by rw [hE]; simp [itemsB]
    rcases ht with rfl | ⟨ht, hne⟩
    · rw [hE'] at h1; simp at h1
    · have := byteN_str hP h1
      have e : P.getD pre.length 0 = tail.getD 0 0 := by
        rw [hE']
        simp only [List.getD]
        rw [List.getElem?_append_right (Nat.le_refl _), Nat.sub_self]
      rw [e, ht] at this
      exact h2 (by omega)
  | t :: l, pre, tail, f, hE, hok, ht, hf => by
    obtain ⟨g, rfl⟩ : ∃ g, f = g + 1 := ⟨f - 1, by simp at hf; omega⟩
    rw [List.all_cons, Bool.and_eq_true] at hok
    have ho : 1 ≤ t.ch ∧ t.ch ≤ 32 ∧ t.data.size ≤ 1500 := of_decide_eq_true hok.1
    have hI : itemsB (t :: l) = t.head ++ bytesI t.data ++ itemsB l := by simp [itemsB, ItemM.bytes]
    have hE2 : P = (pre ++ t.head) ++ bytesI t.data ++ (itemsB l ++ tail) := by rw [hE, hI]; simp [List.append_assoc]
    have hlen : P.length = pre.length + 3 + t.data.size + (itemsB l).length + tail.length := by
      rw [hE2]
      simp only [List.length_append, bytesI_length]
      have : t.head.length = 3 := rfl
      omega
    have hat : ∀ j, j < 3 → P.getD (pre.length + j) 0 = t.head.getD j 0 := fun j hj => by
      have h3 : t.head.length = 3 := rfl
      rw [hE2, List.append_assoc, List.append_assoc]
      simp only [List.getD]
      rw [List.getElem?_append_right (by omega), Nat.add_sub_cancel_left, List.getElem?_append_left (by omega)]
    have b0 := byteN_str hP (j := pre.length + 0) (by omega)
    have b1 := byteN_str hP (j := pre.length + 1) (by omega)
    have b2 := byteN_str hP (j := pre.length + 2) (by omega)
    rw [hat 0 (by omega)] at b0
    rw [hat 1 (by omega)] at b1
    rw [hat 2 (by omega)] at b2
    have c0 : (byteN (strOfNums P) pre.length : Int) = t.ch := b0
    have c1 : (byteN (strOfNums P) (pre.length + 1) : Int) = ((t.data.size / 256 : Nat) : Int) := b1
    have c2 : (byteN (strOfNums P) (pre.length + 2) : Int) = ((t.data.size % 256 : Nat) : Int) := b2
    have hpn : partN (strOfNums P) pre.length = t.data.size := by unfold partN; omega
    have hpi : partI (strOfNums P) pre.length = t := by
      unfold partI
      rw [hpn]
      have hx := str_extract (pre ++ t.head) (bytesI t.data) (itemsB l ++ tail)
      rw [← hE2, List.length_append, bytesI_length, str_bytes] at hx
      have h3 : t.head.length = 3 := rfl
      rw [h3] at hx
      rw [hx]
      obtain ⟨ch, data⟩ := t
      simp only at c0
      rw [c0]
    rw [parse_step ⟨by rw [strOfNums_size]; omega, fun e => by omega⟩ (by rw [hpn, strOfNums_size]; omega), hpn, hpi]
    have ih := parse_items P hP l (pre ++ t.head ++ bytesI t.data) tail g (by rw [hE2]; simp [List.append_assoc]) hok.2 ht (by simp at hf; omega)
    rw [List.length_append, List.length_append, bytesI_length] at ih
    have h3 : t.head.length = 3 := rfl
    rw [h3] at ih
    rw [ih]
    rfl
theorem items_len_le (l : List ItemM) : l.length ≤ (itemsB l).length := by
  induction l with
  | nil => simp
  | cons t l ih =>
    have hI : itemsB (t :: l) = t.head ++ bytesI t.data ++ itemsB l := by simp [itemsB, ItemM.bytes]
    have h3 : t.head.length = 3 := rfl
    rw [hI]
    simp only [List.length_append, List.length_cons, h3]
    omega
/-- What is joined is split as it was. -/
theorem split_join {l : List ItemM} {size : Int} (h : (joinM l size).err = 0) : splitM (joinM l size).text = some l := by
  have hsz : ¬ (size < 0 ∨ 65535 < size) := fun hs => by unfold joinM at h; rw [if_pos hs] at h; cases h
  have hall : l.all ItemM.ok = true := by
    cases ha : l.all ItemM.ok with
    | true => rfl
    | false => unfold joinM at h; rw [if_neg hsz, if_pos ha] at h; cases h
  have hle : ¬ size < ((itemsB l).length : Int) := fun hs => by unfold joinM at h; rw [if_neg hsz, if_neg (by rw [hall]; decide), if_pos hs] at h; cases h
  obtain ⟨n, rfl⟩ : ∃ n : Nat, size = (n : Int) := ⟨size.toNat, by omega⟩
  have hj : joinM l (n : Int) = ⟨strOfNums (padB (itemsB l) n), 0⟩ := by
    unfold joinM
    rw [if_neg hsz, if_neg (by rw [hall]; decide), if_neg hle]
    rfl
  have hlen : (padB (itemsB l) n).length = n := padB_length (by omega)
  have hpar : parseM (strOfNums (padB (itemsB l) n)) (n + 1) 0 = some l := by
    have hB := byt_pad (byt_items hall) n
    have hll := items_len_le l
    by_cases hlt : (itemsB l).length < n
    · have e : padB (itemsB l) n = [] ++ itemsB l ++ ([63] ++ List.replicate (n - (itemsB l).length - 1) 0) := by
        unfold padB
        rw [if_pos hlt]
        simp
      exact parse_items _ hB l [] _ (n + 1) e hall (.inr ⟨rfl, by simp⟩) (by omega)
    · have e : padB (itemsB l) n = [] ++ itemsB l ++ [] := by
        unfold padB
        rw [if_neg hlt]
        simp
      exact parse_items _ hB l [] _ (n + 1) e hall (.inl rfl) (by omega)
  have hsize : (strOfNums (padB (itemsB l) n)).size = n := by rw [strOfNums_size, hlen]
  rw [hj]
  show splitM (strOfNums (padB (itemsB l) n)) = some l
  unfold splitM
  rw [if_neg (by rw [hsize]; omega), hsize, hpar]
  simp only
  rw [hj, if_pos ⟨rfl, rfl⟩]
end Go.Proofs.YtmdfjhnibhmdkafDoor
