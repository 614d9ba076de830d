import Derived.Test.YtplkmkbambbemadGreatDoorB20
import Derived.Test.YtplkmkbambbemadGreatDoorB17
import Derived.Test.YtplkmkbambbemadGreatDoorB08
import Derived.Test.YtplkmkbambbemadGreatDoorB06
import Derived.Test.YtplkmkbambbemadGreatDoorB16
namespace Go.Proofs.YtplkmkbambbemadGreatDoor
theorem coded_few {S : Setg} {s : ByteArray} (hS : SetOk S s.size) : 32 ≤ (codedOf S s).length ∧ (codedOf S s).length ≤ 1050 := by
  have hl := codeL_length (S := S) (z := sealedOf s) (n := s.size) (by unfold sealedOf; rw [sealM_length, unpackTo_length]) hS.code (fun h => (hS.size1 h).1)
  have hb := hS.few
  unfold codedOf
  unfold codedN at hl
  by_cases c0 : S.code = 0
  · rw [if_pos c0] at hl; omega
  · rw [if_neg c0] at hl
    have hc := hS.code
    obtain ⟨p, q⟩ := hS.size1 (by omega)
    have hp := of_decide_eq_true p
    omega
theorem comes_pos {ps : List Nat} {xs : List Int} {j : Nat} : ∀ {k : Nat}, (∀ i, i < k → ps.getD i 0 = j → 1 ≤ xs.getD i 0) → (hitsTo ps j k : Int) ≤ comesTo ps xs j k
  | 0, _ => by simp [comesTo, hitsTo]
  | k + 1, h => by
    have ih := comes_pos (ps := ps) (xs := xs) (j := j) (k := k) fun i hi e => h i (by omega) e
    rw [comesTo, hitsTo]
    by_cases e : ps.getD k 0 = j
    · have := h k (by omega) e
      rw [if_pos e, if_pos e]
      omega
    · rw [if_neg e, if_neg e]
      omega
theorem comes_neg {ps : List Nat} {xs : List Int} {j : Nat} : ∀ {k : Nat}, (∀ i, i < k → ps.getD i 0 = j → xs.getD i 0 ≤ -1) → comesTo ps xs j k ≤ -(hitsTo ps j k : Int)
  | 0, _ => by simp [comesTo, hitsTo]
  | k + 1, h => by
    have ih := comes_neg (ps := ps) (xs := xs) (j := j) (k := k) fun i hi e => h i (by omega) e
    rw [comesTo, hitsTo]
    by_cases e : ps.getD k 0 = j
    · have := h k (by omega) e
      rw [if_pos e, if_pos e]
      omega
    · rw [if_neg e, if_neg e]
      omega
theorem coded_bits {S : Setg} {s : ByteArray} : AllBits (codedOf S s) := by
  unfold codedOf
  refine codeL_all ?_
  unfold sealedOf
  refine sealM_all fun x hx => ?_
  obtain ⟨i, -, rfl⟩ := List.mem_map.1 hx
  exact bitAt_bd s i
theorem picked_at {S : Setg} {s : ByteArray} {v i : Nat} (hi : i < S.count.toNat) : (pickedK S (sealM (unpackTo s (8 * s.size))) v).getD i 0 = (codedOf S s).getD ((pickTo (codedOf S s).length v S.count.toNat).getD i 0) 0 := by
  show (takeM (codedOf S s) (pickTo (codedOf S s).length v S.count.toNat)).getD i 0 = _
  have hl : i < (pickTo (codedOf S s).length v S.count.toNat).length := by rw [pickTo_len]; exact hi
  simp [takeM, List.getD, hl]
theorem com_bd {S : Setg} {s : ByteArray} (hS : SetOk S s.size) (v : Nat) {j : Nat} (hj : j < (codedOf S s).length) : -8256 ≤ comOf S s j v ∧ comOf S s j v ≤ 8256 := by
  obtain ⟨hN, -⟩ := coded_few hS
  have h := comes_hits (ps := pickTo (codedOf S s).length v S.count.toNat) (xs := toldOf S s v) (j := j) (k := S.count.toNat) fun i hi _ => by
    have ht := tell_clean hS v i hi
    have hb := coded_bits (S := S) (s := s) |>.at ((pickTo (codedOf S s).length v S.count.toNat).getD i 0)
    rw [picked_at hi] at ht
    unfold toldOf
    rcases (show (codedOf S s).getD ((pickTo (codedOf S s).length v S.count.toNat).getD i 0) 0 = 0 ∨ (codedOf S s).getD ((pickTo (codedOf S s).length v S.count.toNat).getD i 0) 0 = 1 by omega) with e | e
    · have := ht.1 e; omega
    · have := ht.2 e; omega
  have hh := (hits_bd (v := v) (c := S.count.toNat) (by omega) hj).2
  have hc : S.count.toNat ≤ 4096 := by have := hS.count.2.1; omega
  have hd : S.count.toNat / (codedOf S s).length ≤ 128 := by
    have h1 : S.count.toNat / (codedOf S s).length ≤ S.count.toNat / 32 := Nat.div_le_div_left hN (by omega)
    omega
  unfold comOf
  omega
theorem com_pos {S : Setg} {s : ByteArray} (hS : SetOk S s.size) (v : Nat) {j : Nat} (hj : j < (codedOf S s).length) (h0 : (codedOf S s).getD j 0 = 0) : 0 ≤ comOf S s j v ∧ ((codedOf S s).length ≤ S.count.toNat → 1 ≤ comOf S s j v) := by
  obtain ⟨hN, -⟩ := coded_few hS
  have h := comes_pos (ps := pickTo (codedOf S s).length v S.count.toNat) (xs := toldOf S s v) (j := j) (k := S.count.toNat) fun i hi e => by
    have ht := (tell_clean hS v i hi).1 (by rw [picked_at hi, e]; exact h0)
    unfold toldOf
    omega
  have hh := (hits_bd (v := v) (c := S.count.toNat) (by omega) hj).1
  unfold comOf
  refine ⟨by omega, fun hle => ?_⟩
  have : 1 ≤ S.count.toNat / (codedOf S s).length := Nat.div_pos hle (by omega)
  omega
theorem com_neg {S : Setg} {s : ByteArray} (hS : SetOk S s.size) (v : Nat) {j : Nat} (hj : j < (codedOf S s).length) (h0 : (codedOf S s).getD j 0 = 1) : comOf S s j v ≤ 0 ∧ ((codedOf S s).length ≤ S.count.toNat → comOf S s j v ≤ -1) := by
  obtain ⟨hN, -⟩ := coded_few hS
  have h := comes_neg (ps := pickTo (codedOf S s).length v S.count.toNat) (xs := toldOf S s v) (j := j) (k := S.count.toNat) fun i hi e => by
    have ht := (tell_clean hS v i hi).2 (by rw [picked_at hi, e]; exact h0)
    unfold toldOf
    omega
  have hh := (hits_bd (v := v) (c := S.count.toNat) (by omega) hj).1
  unfold comOf
  refine ⟨by omega, fun hle => ?_⟩
  have : 1 ≤ S.count.toNat / (codedOf S s).length := Nat.div_pos hle (by omega)
  omega
/-- The sums of at most 12 clean versions can be told further. -/
theorem sums_soft {S : Setg} {s : ByteArray} (hS : SetOk S s.size) {vs : List Nat} (hl : vs.length ≤ 12) : softOk (sumsV S s vs) = true := by
  refine soft_all fun j hj => ?_
  rw [sumsV_length] at hj
  rw [sumsV_at S s vs hj]
  have key : ∀ us : List Nat, -8256 * (us.length : Int) ≤ (us.map (comOf S s j)).sum ∧ (us.map (comOf S s j)).sum ≤ 8256 * (us.length : Int) := by
    intro us
    induction us with
    | nil => simp
    | cons v us ih =>
      rw [List.map_cons, List.sum_cons, List.length_cons]
      have := com_bd hS v hj
      omega
  have := key vs
  omega
theorem sums_signs {S : Setg} {s : ByteArray} (hS : SetOk S s.size) (hle : (codedOf S s).length ≤ S.count.toNat) (v : Nat) (vs : List Nat) {j : Nat} (hj : j < (codedOf S s).length) : ((codedOf S s).getD j 0 = 0 → 0 < (sumsV S s (v :: vs)).getD j 0) ∧ ((codedOf S s).getD j 0 = 1 → (sumsV S s (v :: vs)).getD j 0 < 0) := by
  rw [sumsV_at S s _ hj, List.map_cons, List.sum_cons]
  refine ⟨fun h0 => ?_, fun h0 => ?_⟩
  · have h1 := (com_pos hS v hj h0).2 hle
    have h2 : ∀ us : List Nat, 0 ≤ (us.map (comOf S s j)).sum := by
      intro us
      induction us with
      | nil => simp
      | cons u us ih => rw [List.map_cons, List.sum_cons]; have := (com_pos hS u hj h0).1; omega
    have := h2 vs
    omega
  · have h1 := (com_neg hS v hj h0).2 hle
    have h2 : ∀ us : List Nat, (us.map (comOf S s j)).sum ≤ 0 := by
      intro us
      induction us with
      | nil => simp
      | cons u us ih => rw [List.map_cons, List.sum_cons]; have := (com_neg hS u hj h0).1; omega
    have := h2 vs
    omega
end Go.Proofs.YtplkmkbambbemadGreatDoor
namespace Go.Proofs.YtplkmkbambbemadGreatDoor
theorem codedTo_bitB {zs : List Int} (K j : Nat) (hj : j < 3 * K) : 0 ≤ (codedTo zs K).getD j 0 ∧ (codedTo zs K).getD j 0 ≤ 1 := by
  have e : j = 3 * (j / 3) + j % 3 := by omega
  rw [e, codedTo_at zs K (j / 3) (j % 3) (by omega) (by omega)]
  rcases (show j % 3 = 0 ∨ j % 3 = 1 ∨ j % 3 = 2 by omega) with h | h | h <;> rw [h] <;> simp [trip] <;> omega
/-- What is heard with its signs scores most, and only what was coded scores so much. -/
theorem coded_sameB {zs os : List Int} (hz : Bits zs) (ho : Bits os) (K : Nat) (h : ∀ j, j < 3 * K → (codedTo os K).getD j 0 = (codedTo zs K).getD j 0) : ∀ i, i ≤ K → ∀ m : Int, m < i → bitI os m = bitI zs m
  | 0, _, m, hm => by unfold bitI; rw [if_pos (by omega), if_pos (by omega)]
  | i + 1, hi, m, hm => by
    have ih := coded_sameB hz ho K h i (by omega)
    by_cases e : m = (i : Int)
    · subst e
      have h0 := h (3 * i) (by omega)
      have a0 := codedTo_at os K i 0 (by omega) (by omega)
      have b0 := codedTo_at zs K i 0 (by omega) (by omega)
      rw [Nat.add_zero] at a0 b0
      rw [a0, b0] at h0
      have h1 : (bitI os i + bitI os (i - 1) + bitI os (i - 2) + bitI os (i - 3) + bitI os (i - 6)) % 2 = (bitI zs i + bitI zs (i - 1) + bitI zs (i - 2) + bitI zs (i - 3) + bitI zs (i - 6)) % 2 := h0
      rw [ih (i - 1) (by omega), ih (i - 2) (by omega), ih (i - 3) (by omega), ih (i - 6) (by omega)] at h1
      have b1 := bitI_bd hz (i : Int)
      have b2 := bitI_bd ho (i : Int)
      omega
    · exact ih m (by omega)
theorem coded_injB {zs os : List Int} (hz : Bits zs) (ho : Bits os) (hl : os.length = zs.length) (h : ∀ j, j < 3 * (zs.length + 6) → (codedTo os (zs.length + 6)).getD j 0 = (codedTo zs (zs.length + 6)).getD j 0) : os = zs := by
  have hb := coded_sameB hz ho (zs.length + 6) h (zs.length + 6) (Nat.le_refl _)
  refine List.ext_getElem hl fun j h1 h2 => ?_
  have := hb (j : Int) (by omega)
  unfold bitI at this
  rw [if_neg (by omega), if_neg (by omega), Int.toNat_natCast] at this
  simpa [List.getD, h1, h2] using this
theorem score_signs (cs ds l : List Int) (L : Nat) (hc : ∀ j, j < L → 0 ≤ cs.getD j 0 ∧ cs.getD j 0 ≤ 1) (hd : ∀ j, j < L → 0 ≤ ds.getD j 0 ∧ ds.getD j 0 ≤ 1) (hs : ∀ j, j < L → (cs.getD j 0 = 0 → 0 < l.getD j 0) ∧ (cs.getD j 0 = 1 → l.getD j 0 < 0)) :
    ∀ k, k ≤ L → scoreTo ds l k ≤ scoreTo cs l k ∧ (scoreTo ds l k = scoreTo cs l k → ∀ j, j < k → ds.getD j 0 = cs.getD j 0)
  | 0, _ => ⟨Int.le_refl _, fun _ j hj => absurd hj (Nat.not_lt_zero j)⟩
  | k + 1, hk => by
    obtain ⟨ih1, ih2⟩ := score_signs cs ds l L hc hd hs k (by omega)
    have c1 := hc k (by omega)
    have d1 := hd k (by omega)
    have hx := hs k (by omega)
    simp only [scoreTo]
    by_cases e : ds.getD k 0 = cs.getD k 0
    · rw [e]
      refine ⟨by omega, fun h j hj => ?_⟩
      by_cases ej : j = k
      · rw [ej]; exact e
      · exact ih2 (by omega) j (by omega)
    · have hlt : sgn (ds.getD k 0) (l.getD k 0) < sgn (cs.getD k 0) (l.getD k 0) := by
        generalize cs.getD k 0 = x at *
        generalize ds.getD k 0 = y at *
        generalize l.getD k 0 = u at *
        unfold sgn
        rcases (show x = 0 ∨ x = 1 by omega) with rfl | rfl <;> rcases (show y = 0 ∨ y = 1 by omega) with rfl | rfl
        · exact absurd rfl e
        · have := hx.1 rfl; simp; omega
        · have := hx.2 rfl; simp; omega
        · exact absurd rfl e
      exact ⟨by omega, fun h => by omega⟩
theorem conv_found {zs : List Int} (hz : AllBits zs) (l : List Int) (hs : ∀ j, j < 3 * (zs.length + 6) → ((codedTo zs (zs.length + 6)).getD j 0 = 0 → 0 < l.getD j 0) ∧ ((codedTo zs (zs.length + 6)).getD j 0 = 1 → l.getD j 0 < 0)) : way l zs.length 0 0 = zs := by
  refine best_one (way_best _ _ 0 0) ⟨rfl, hz, fun o hol hoa => ?_⟩
  have e1 := score_sc hz.bits l
  have e2 := score_sc hoa.bits l
  rw [hol] at e2
  show sc _ 0 0 (o ++ zeros6) < sc _ 0 0 (zs ++ zeros6) ∨ _
  rw [← e1, ← e2]
  obtain ⟨m1, m2⟩ := score_signs (codedTo zs (zs.length + 6)) (codedTo o (zs.length + 6)) l (3 * (zs.length + 6)) (fun j hj => codedTo_bitB _ j hj) (fun j hj => codedTo_bitB _ j hj) hs (3 * (zs.length + 6)) (Nat.le_refl _)
  by_cases e : scoreTo (codedTo o (zs.length + 6)) l (3 * (zs.length + 6)) = scoreTo (codedTo zs (zs.length + 6)) l (3 * (zs.length + 6))
  · right
    refine ⟨e, ?_⟩
    rw [coded_injB hz.bits hoa.bits hol (m2 e)]
    exact ahead_irr zs
  · left
    omega
theorem signs_ofB : ∀ (l c : List Int), l.length = c.length → (∀ i, i < c.length → (c.getD i 0 = 0 → 0 < l.getD i 0) ∧ (c.getD i 0 = 1 → l.getD i 0 < 0)) → Signs l c
  | [], [], _, _ => trivial
  | [], _ :: _, h, _ => by simp at h
  | _ :: _, [], h, _ => by simp at h
  | x :: l, y :: c, h, hi => by
    have h0 := hi 0 (by simp)
    refine ⟨h0.1, h0.2, signs_ofB l c (by simpa using h) fun i hlt => ?_⟩
    have := hi (i + 1) (by simp; omega)
    simpa using this
theorem polar_found (m : Nat) (b l : List Int) (N k : Nat) (eN : N = 2 ^ m) (hb : AllBits b) (hl : b.length = k) (hk : k ≤ N) (hs : Signs l (turnM m (spreadM N (placesM N k) b k))) : readM (placesM N k) (decP m l (openM N k)) = b := by
  have hP := places_length hk
  have hd : decP m l (openM N k) = spreadM N (placesM N k) b k := by
    refine dec_back m _ _ _ ((spread_length N _ b k).trans eN) (spread_bits N _ b hb.at k) (fun j hj ho => ?_) hs
    have hjN : j < N := by omega
    rw [open_at hjN] at ho
    refine spread_zero N _ b j (fun hm => ?_) k (by omega)
    have := (List.mem_filter.1 hm).2
    rw [ho] at this
    cases this
  rw [hd]
  have := read_spread N (placesM N k) b (places_sorted N k) (fun x hx => places_lt hx) (hl.trans hP.symm)
  rw [hP] at this
  exact this
theorem found_back {S : Setg} {s : ByteArray} (hS : SetOk S s.size) (hle : (codedOf S s).length ≤ S.count.toNat) (v : Nat) (vs : List Nat) : foundL S (8 * s.size + 24) (sumsV S s (v :: vs)) = sealedOf s := by
  have hsl : (sealedOf s).length = 8 * s.size + 24 := by unfold sealedOf; rw [sealM_length, unpackTo_length]
  have hsb : AllBits (sealedOf s) := by
    unfold sealedOf
    refine sealM_all fun x hx => ?_
    obtain ⟨i, -, rfl⟩ := List.mem_map.1 hx
    exact bitAt_bd s i
  have hsg := fun j hj => sums_signs hS hle v vs (j := j) hj
  unfold foundL
  by_cases c0 : S.code = 0
  · rw [if_pos c0]
    have hc : codedOf S s = codedTo (sealedOf s) ((sealedOf s).length + 6) := by unfold codedOf codeL; rw [if_pos c0]
    rw [← hsl]
    refine conv_found hsb _ fun j hj => ?_
    have h := hsg j (by rw [hc, codedTo_length]; exact hj)
    rw [hc] at h
    exact h
  · rw [if_neg c0]
    have hc1 : S.code = 1 := by have := hS.code; omega
    obtain ⟨p, q⟩ := hS.size1 hc1
    obtain ⟨p1, p2, p3⟩ := size_pow p
    have hc : codedOf S s = turnM (sizeL S) (spreadM S.size.toNat (placesM S.size.toNat (8 * s.size + 24)) (sealedOf s) (8 * s.size + 24)) := by unfold codedOf codeL; rw [if_neg c0, hsl]
    refine polar_found (sizeL S) (sealedOf s) _ S.size.toNat (8 * s.size + 24) p2 hsb hsl (by omega) ?_
    rw [← hc]
    exact signs_ofB _ _ (sumsV_length S s _) hsg
end Go.Proofs.YtplkmkbambbemadGreatDoor
namespace Go.Proofs.YtplkmkbambbemadGreatDoor
theorem num_unpack (s : ByteArray) (n j : Nat) (hj : 8 * j + 8 ≤ n) : ∀ m, m ≤ 8 → num (unpackTo s n) (8 * j) m = byteAt s j / 2 ^ (8 - m)
  | 0, _ => by
    have h : 0 ≤ byteAt s j ∧ byteAt s j < 256 := by
      unfold byteAt
      split
      · have := UInt8.toNat_lt s[j]; omega
      · omega
    rw [num]
    simp only [Nat.sub_zero, Int.reducePow]
    omega
  | m + 1, hm => by
    have ih := num_unpack s n j hj m (by omega)
    have hb : (unpackTo s n).getD (8 * j + m) 0 = byteAt s j / 2 ^ (7 - m) % 2 := by
      have e : (unpackTo s n).getD (8 * j + m) 0 = bitAt s (8 * j + m) := by simp [unpackTo, List.getD, show 8 * j + m < n by omega]
      rw [e]
      unfold bitAt
      rw [show (8 * j + m) / 8 = j by omega, show (8 * j + m) % 8 = m by omega]
    rw [num, ih, hb]
    rcases (show m = 0 ∨ m = 1 ∨ m = 2 ∨ m = 3 ∨ m = 4 ∨ m = 5 ∨ m = 6 ∨ m = 7 by omega) with rfl | rfl | rfl | rfl | rfl | rfl | rfl | rfl <;> simp <;> omega
theorem pack_unpack (s : ByteArray) : strOfNums (packL (unpackTo s (8 * s.size))) = s := by
  have hl : (packL (unpackTo s (8 * s.size))).length = s.size := by rw [packL_length, unpackTo_length]; omega
  have hd : (strOfNums (packL (unpackTo s (8 * s.size)))).data = s.data := by
    refine Array.ext ?_ fun j h1 h2 => ?_
    · show ((packL (unpackTo s (8 * s.size))).map fun n => UInt8.ofNat n.toNat).toArray.size = _
      rw [List.size_toArray, List.length_map, hl]
      rfl
    · show ((packL (unpackTo s (8 * s.size))).map fun n => UInt8.ofNat n.toNat).toArray[j]'_ = _
      have hj : j < s.size := h2
      have e : num (unpackTo s (8 * s.size)) (8 * j) 8 = (s[j].toNat : Int) := by
        rw [num_unpack s _ j (by omega) 8 (Nat.le_refl _), byteAt_eq s j hj]
        simp
      simp [packL, e]
      rfl
  cases h : strOfNums (packL (unpackTo s (8 * s.size)))
  cases s
  rw [h] at hd
  simp at hd
  rw [hd]
theorem took_back {S : Setg} {s : ByteArray} (hS : SetOk S s.size) (hle : (codedOf S s).length ≤ S.count.toNat) (v : Nat) (vs : List Nat) : tookM S s.size (sumsV S s (v :: vs)) = ⟨s, true, 0⟩ := by
  unfold tookM
  rw [found_back hS hle v vs]
  have hl : (unpackTo s (8 * s.size)).length = 8 * s.size := unpackTo_length _ _
  have ht : (sealedOf s).take (8 * s.size) = unpackTo s (8 * s.size) := by unfold sealedOf sealM; rw [List.take_append_of_le_length (by omega), List.take_of_length_le (by omega)]
  have hdr : (sealedOf s).drop (8 * s.size) = ksum (unpackTo s (8 * s.size)) 3 := by unfold sealedOf sealM; rw [List.drop_append_of_le_length (by omega), List.drop_of_length_le (by omega)]; rfl
  rw [ht, hdr, if_pos rfl, pack_unpack]
end Go.Proofs.YtplkmkbambbemadGreatDoor
namespace Go.Proofs.YtplkmkbambbemadGreatDoor
theorem lev_in0 : ∀ h : Fin 4, ∀ n : Fin 8, -1000 ≤ levM n.val h.val ∧ levM n.val h.val ≤ 1000 := by decide +kernel
theorem lev_in {n h : Nat} (hh : h ≤ 3) (hn : n < 2 ^ h) : -1000 ≤ levM n h ∧ levM n h ≤ 1000 := by
  have h8 : 2 ^ h ≤ 2 ^ 3 := Nat.pow_le_pow_right (by omega) hh
  exact lev_in0 ⟨h, by omega⟩ ⟨n, by omega⟩
theorem built_in {S : Setg} {s : ByteArray} (hS : SetOk S s.size) (v : Nat) : (builtM S s v).all inSq = true ∧ ((builtM S s v).length : Int) * S.order = S.count := by
  have hO := hS.order
  have hC := hS.count
  obtain ⟨O, eO⟩ : ∃ O : Nat, S.order = O := ⟨S.order.toNat, by omega⟩
  obtain ⟨C, eC⟩ : ∃ C : Nat, S.count = C := ⟨S.count.toNat, by omega⟩
  obtain ⟨h, ho, h1, hh⟩ : ∃ h, O = 2 * h ∧ 1 ≤ h ∧ h ≤ 3 := ⟨O / 2, by omega, by omega, by omega⟩
  obtain ⟨c, ec⟩ : ∃ c, c = coverM S (pickedK S (sealM (unpackTo s (8 * s.size))) v) := ⟨_, rfl⟩
  have hcl : c.length = C := by rw [ec, coverM_length, pickedK_length, eC, Int.toNat_natCast]
  have hcb : AllBits c := by rw [ec]; exact addTo_all _ _ _
  obtain ⟨m, em⟩ : ∃ m, m = C / O := ⟨_, rfl⟩
  have hm : C = m * O := by
    rw [em]
    have h4 : C % O = 0 := by have := hC.2.2; rw [eO, eC] at this; omega
    exact (Nat.div_mul_cancel (Nat.dvd_of_mod_eq_zero h4)).symm
  have eb : builtM S s v = sentM h c O m := by
    unfold builtM
    rw [← ec, eC, eO, Int.toNat_natCast, Int.toNat_natCast, ← em, show O / 2 = h by omega]
  rw [eb]
  have hs : (sentM h c O m).length = m := by simp [sentM]
  refine ⟨List.all_eq_true.2 fun p hp => ?_, ?_⟩
  · unfold sentM at hp
    obtain ⟨j, hj, rfl⟩ := List.mem_map.1 hp
    have hj' := List.mem_range.1 hj
    have hle : j * O + O ≤ C := by
      rw [hm]
      have h2 := Nat.mul_le_mul_right O (show j + 1 ≤ m from hj')
      rw [Nat.add_mul, Nat.one_mul] at h2
      exact h2
    have hl : (chunkM c O j).length = 2 * h := by
      unfold chunkM
      rw [List.length_take, List.length_drop, hcl]
      omega
    have hb : ∀ x ∈ chunkM c O j, x = 0 ∨ x = 1 := fun x hx => by
      unfold chunkM at hx
      have := hcb x (List.mem_of_mem_drop (List.mem_of_mem_take hx))
      omega
    obtain ⟨n0, n1, e⟩ := pt_levels h1 hh hl hb
    rw [e]
    exact decide_eq_true ⟨lev_in hh n0, lev_in hh n1⟩
  · rw [hs, eO, eC, hm, Int.natCast_mul]
theorem built_hears {S : Setg} {s : ByteArray} (hS : SetOk S s.size) {v : Nat} (hv : v ≤ 3) : earHears S (builtM S s v) (v : Int) = true := by
  obtain ⟨h1, h2⟩ := built_in hS v
  have hO := hS.order
  have hC := hS.count
  unfold earHears hearsOk
  rw [show verOk (v : Int) = true from decide_eq_true (by omega), h1, h2, decide_eq_true hC.2.1, show ordOk5 S.order = true from decide_eq_true (by omega)]
  rfl
theorem says_back {S : Setg} {s : ByteArray} (hS : SetOk S s.size) (vs : List Nat) {v : Nat} (hv : v ≤ 3) (hl : vs.length ≤ 11) :
    earSays S s.size (sumsV S s vs) (builtM S s v) (v : Int) = tookM S s.size (sumsV S s (vs ++ [v])) ∧ earNext S (sumsV S s vs) (builtM S s v) (v : Int) = sumsV S s (vs ++ [v]) := by
  have hh := built_hears hS hv
  have h2 := (built_in hS v).2
  have hn : nextM (sumsV S s vs) (tellM S (builtM S s v)) (v : Int) = sumsV S s (vs ++ [v]) := (sumsV_snoc S s vs v).symm
  have hso : softOk (sumsV S s (vs ++ [v])) = true := sums_soft hS (by rw [List.length_append]; simp; omega)
  constructor
  · unfold earSays
    rw [hh, hn, hso, h2]
    simp
  · unfold earNext
    rw [hh, hn, hso, h2]
    simp
/-- What is told once these versions have come. -/
def toldV (S : Setg) (s : ByteArray) (vs : List Nat) : Told := if vs = [] then ⟨ByteArray.empty, false, 0⟩ else tookM S s.size (sumsV S s vs)
theorem toldV_snoc (S : Setg) (s : ByteArray) (vs : List Nat) (v : Nat) : toldV S s (vs ++ [v]) = tookM S s.size (sumsV S s (vs ++ [v])) := by unfold toldV; rw [if_neg (by simp)]
theorem took_err (S : Setg) (B : Nat) (sm : List Int) : (tookM S B sm).err = 0 := by unfold tookM; split <;> rfl
theorem toldV_reverse (S : Setg) (s : ByteArray) (vs : List Nat) : toldV S s vs.reverse = toldV S s vs := by
  unfold toldV
  rw [sumsV_reverse]
  simp
theorem took_all {S : Setg} {s : ByteArray} (hS : SetOk S s.size) (hle : (codedOf S s).length ≤ S.count.toNat) (vs : List Nat) (v : Nat) : tookM S s.size (sumsV S s (vs ++ [v])) = ⟨s, true, 0⟩ := by
  cases vs with
  | nil => exact took_back hS hle v []
  | cons u us => exact took_back hS hle u (us ++ [v])
theorem coded_lenN {S : Setg} {s : ByteArray} (hS : SetOk S s.size) : ((codedOf S s).length : Int) = codedN S s.size := by
  unfold codedOf
  exact codeL_length (by unfold sealedOf; rw [sealM_length, unpackTo_length]) hS.code fun e => (hS.size1 e).1
end Go.Proofs.YtplkmkbambbemadGreatDoor
namespace Go.Proofs.YtplkmkbambbemadGreatDoor
open Go.ChangeShapes Go.WideShapes Go.ChangeAt Go.RowKit
def ShpCells (w : World) (b o : Nat) (t : Int × Int × Int) : Prop := w.cell? ⟨b, o, none⟩ = some (.int .i64 t.1) ∧ w.cell? ⟨b, o + 1, none⟩ = some (.int .i64 t.2.1) ∧ w.cell? ⟨b, o + 2, none⟩ = some (.int .i64 t.2.2)
def Shps (w : World) (a : Option Addr) (ts : List (Int × Int × Int)) : Prop := ts ≠ [] → ∃ b off, a = some ⟨b, off, none⟩ ∧ ∀ i, i < ts.length → ShpCells w b (off + i * 3) (ts.getD i (0, 0, 0))
theorem Shps.at {w : World} {a : Option Addr} {ts : List (Int × Int × Int)} (h : Shps w a ts) {i : Nat} (hi : i < ts.length) : ∃ b off, a = some ⟨b, off, none⟩ ∧ ∀ i, i < ts.length → ShpCells w b (off + i * 3) (ts.getD i (0, 0, 0)) := h (by rintro rfl; simp at hi)
theorem cell_old {w w' : World} (hb : Below w.heap.size w w') {p : Addr} {v : Value} (h : w.cell? p = some v) : w'.cell? p = some v := (hb.cell (World.block_lt_of_cell? w _ h)).trans h
theorem Shps.below {w w' : World} {a : Option Addr} {ts : List (Int × Int × Int)} (h : Shps w a ts) (hb : Below w.heap.size w w') : Shps w' a ts := by
  intro hne
  obtain ⟨b, off, rfl, hc⟩ := h hne
  refine ⟨b, off, rfl, fun i hi => ?_⟩
  obtain ⟨h1, h2, h3⟩ := hc i hi
  exact ⟨cell_old hb h1, cell_old hb h2, cell_old hb h3⟩
theorem builtM_few {S : Setg} {s : ByteArray} {B : Int} (hS : SetOk S B) (v : Nat) : (builtM S s v).length ≤ 4096 := by
  have e : (builtM S s v).length = S.count.toNat / S.order.toNat := by unfold builtM; simp [sentM]
  rw [e]
  have := hS.count
  exact Nat.le_trans (Nat.div_le_self _ _) (by omega)
end Go.Proofs.YtplkmkbambbemadGreatDoor
namespace Go.Proofs.YtplkmkbambbemadGreatDoor
open Go.ChangeShapes Go.WideShapes Go.ChangeAt Go.RowKit
theorem and_lowK (x : Int) (i : Nat) (hi : i ≤ 62) : bits BinOp.and IntKind.i64 x (2 ^ i - 1) = x % 2 ^ i := by
  have hp : (0 : Int) < 2 ^ i := Int.pow_pos (by decide)
  have hle : (2 : Int) ^ i ≤ 2 ^ 62 := by exact_mod_cast Nat.pow_le_pow_right (by decide) hi
  have hnat : 2 ^ i - 1 < 2 ^ 64 := by
    have : 2 ^ i ≤ 2 ^ 62 := Nat.pow_le_pow_right (by decide) hi
    omega
  have hc : ((2 : Int) ^ i - 1) = ((2 ^ i - 1 : Nat) : Int) := by
    rw [Int.natCast_sub (Nat.two_pow_pos i)]; simp
  rw [hc]
  have hb : bits BinOp.and IntKind.i64 x ((2 ^ i - 1 : Nat) : Int) = IntKind.i64.wrap (((x % ((2 ^ 64 : Nat) : Int)).toNat % 2 ^ i : Nat) : Int) := by
    have e1 : (BitVec.ofInt 64 x &&& BitVec.ofInt 64 ((2 ^ i - 1 : Nat) : Int)).toNat = (x % ((2 ^ 64 : Nat) : Int)).toNat % 2 ^ i := by
      rw [BitVec.toNat_and, BitVec.ofInt_natCast, BitVec.toNat_ofNat, BitVec.toNat_ofInt, Nat.mod_eq_of_lt hnat, Nat.and_two_pow_sub_one_eq_mod]
    exact congrArg (fun n : Nat => IntKind.i64.wrap (n : Int)) e1
  rw [hb]
  have h0 : 0 ≤ x % ((2 ^ 64 : Nat) : Int) := Int.emod_nonneg _ (by decide)
  have e : (((x % ((2 ^ 64 : Nat) : Int)).toNat % 2 ^ i : Nat) : Int) = x % 2 ^ i := by
    rw [Int.natCast_emod, Int.toNat_of_nonneg h0]
    have hd : ((2 ^ i : Nat) : Int) ∣ ((2 ^ 64 : Nat) : Int) := Int.natCast_dvd_natCast.2 (Nat.pow_dvd_pow 2 (by omega))
    rw [Int.emod_emod_of_dvd _ hd]
    simp
  rw [e, IntKind.wrap_i64]
  have h1 := Int.emod_nonneg x (Int.ne_of_gt hp)
  have h2 := Int.emod_lt_of_pos x hp
  omega
theorem run_leqL {ρ : Operand → Value} (w : World) {o : Oper} {x y : Operand} {p q : Int} (ho : o.op = .binOp .leq 3 x y 3) (h : ρ x = .int .i64 p) (h' : ρ y = .int .i64 q) : (execOp ρ o).run Tryz.prog w = .ok (.value (.bool (decide (p ≤ q)))) w := by
  unfold execOp
  simp only [ho, h, h']
  simp [go_sem]
theorem run_and3 {ρ : Operand → Value} (w : World) {o : Oper} {x : Operand} {p r : Int} (ho : o.op = .binOp .and 3 x (.const (.int .i64 3)) 3) (h : ρ x = .int .i64 p) (hr : bits BinOp.and IntKind.i64 p 3 = r) (hc : ρ (.const (.int .i64 3)) = .int .i64 3 := by rfl) : (execOp ρ o).run Tryz.prog w = .ok (.value (.int .i64 r)) w := by
  unfold execOp
  simp only [ho, h, hc]
  simp [go_sem, hr]
def bltT (n : Nat) (L : List (Int × Int)) (B0 : Nat) : Value → World → Prop := fun x w => ∃ g, x = .tuple #[.slice (some ⟨g, 0, none⟩) n n, .int .i64 0] ∧ (Pts w (some ⟨g, 0, none⟩) L ∧ B0 ≤ g)
def bltO (n : Nat) (L : List (Int × Int)) (B0 : Nat) : Value → World → Prop := fun x w => ∃ g, x = .slice (some ⟨g, 0, none⟩) n n ∧ (Pts w (some ⟨g, 0, none⟩) L ∧ B0 ≤ g)
theorem bltT_mono (n : Nat) (L : List (Int × Int)) (B0 : Nat) : MonoR (bltT n L B0) := fun _ _ _ ⟨g, h1, h2, h3⟩ hg => ⟨g, h1, h2.below (below_of_grown hg), h3⟩
theorem bltO_mono (n : Nat) (L : List (Int × Int)) (B0 : Nat) : MonoR (bltO n L B0) := fun _ _ _ ⟨g, h1, h2, h3⟩ hg => ⟨g, h1, h2.below (below_of_grown hg), h3⟩
theorem build_back {s : ByteArray} {S : Setg} (hIn : S.In) (hE : setErr S s.size = 0) (m : Nat) (hm : ∀ v, (builtM S s v).length = m) (v : Nat) (hv : v ≤ 3) (w : World) (hR : ReadyL w) :
    Calls Tryz.prog 32 #[.string s, S.val, .int .i64 (v : Int)] w fun e w' => ∃ g, e = .returned (.tuple #[.slice (some ⟨g, 0, none⟩) m m, .int .i64 0]) ∧ Pts w' (some ⟨g, 0, none⟩) (builtM S s v) ∧ w.heap.size ≤ g ∧ Below w.heap.size w w' := by
  refine (lbuild_ok s S v w hR hIn hE hv).mono fun e w' h => ?_
  obtain ⟨g, n, rfl, hb, ho⟩ := h
  obtain ⟨a, c, e, -, -⟩ := ho.shape
  have hn : n = m := by
    have := hm v
    cases e
    exact this
  subst hn
  exact ⟨g, rfl, ho.pts, OwnT.blocks (T := 29) ho g rfl, hb⟩
theorem Pts.keptK {w w' : World} {a : Option Addr} {ps : List (Int × Int)} {L : List Nat} (h : Pts w a ps) (hk : Kept L w w') (hs : ∀ g o, a = some ⟨g, o, none⟩ → ps ≠ [] → g ∉ L) : Pts w' a ps := by
  intro hne
  obtain ⟨b, off, rfl, hc⟩ := h hne
  refine ⟨b, off, rfl, fun i hi => ?_⟩
  obtain ⟨h1, h2⟩ := hc i hi
  exact ⟨hk.cellO h1 (hs b off rfl hne), hk.cellO h2 (hs b off rfl hne)⟩
theorem EarP.keptA {w w' : World} {p : Addr} {F L : List Nat} {S : Setg} {B : Nat} {s : List Int} (h : EarP w p F S B s) (hk : Kept L w w') (hs : ∀ x ∈ F, x ∉ L) : EarP w' p F S B s := BufR.kept h hk hs
set_option maxRecDepth 100000 in
set_option maxHeartbeats 8000000 in
theorem lback_bad (s : ByteArray) (S : Setg) (zv : Value) (w : World) (hIn : S.In) (hs : I64k (s.size : Int)) (hE : setErr S s.size ≠ 0) :
    Calls Tryz.prog 5 #[.string s, S.val, zv] w fun e w' => e = .returned (.bool true) ∧ Below w.heap.size w w' := by
  have hck := fun wz => lcheck_any S (s.size : Int) wz hIn hs
  have hnb := fun wz => lnew_bad S (s.size : Int) wz hIn hs hE
  have hs2 := hs.2
  obtain ⟨E, eE⟩ : ∃ E, E = setErr S s.size := ⟨_, rfl⟩
  rw [← eE] at hE hck hnb
  have q0 : (E != 0) = true := by simpa using hE
  have HCC : Hid (∀ wz, Below (w.alloc (.cells #[.int .i64 S.code, .int .i64 S.size, .int .i64 S.order, .int .i64 S.seed, .int .i64 S.count] 55)).heap.size (w.alloc (.cells #[.int .i64 S.code, .int .i64 S.size, .int .i64 S.order, .int .i64 S.seed, .int .i64 S.count] 55)) wz → wz.cell? ⟨w.heap.size, 0, none⟩ = some (.int .i64 S.code) ∧ wz.cell? ⟨w.heap.size, 1, none⟩ = some (.int .i64 S.size) ∧ wz.cell? ⟨w.heap.size, 2, none⟩ = some (.int .i64 S.order) ∧ wz.cell? ⟨w.heap.size, 3, none⟩ = some (.int .i64 S.seed) ∧ wz.cell? ⟨w.heap.size, 4, none⟩ = some (.int .i64 S.count)) := fun wz h => set_cells h
  have hb0 : Below w.heap.size w (w.alloc (.cells #[.int .i64 S.code, .int .i64 S.size, .int .i64 S.order, .int .i64 S.seed, .int .i64 S.count] 55)) := (Below.refl _ w).alloc (Nat.le_refl _) _
  clear eE hE
  unfold Setg.val
  go_enter Tryz.func5, Tryz.ntmps5
  go_wp2_with fail
  generalize w.alloc (.cells #[.int .i64 S.code, .int .i64 S.size, .int .i64 S.order, .int .i64 S.seed, .int .i64 S.count] 55) = w0 at *
  refine (hck _).mono ?_
  rintro e w1 ⟨rfl, hb1⟩
  obtain ⟨d0, d1, d2, d3, d4⟩ := HCC.out w1 hb1
  go_wp2_with (first
    | (go_at_call 30; refine (hnb _).mono ?_; rintro e w2 ⟨rfl, hb2⟩)
    | fail)
  go_ret
  exact ⟨rfl, hb0.trans ((hb1.trans (hb2.mono hb1.size)).mono hb0.size)⟩
end Go.Proofs.YtplkmkbambbemadGreatDoor
