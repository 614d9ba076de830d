import Derived.Test.YtdndeegpbjlibacWaveJ
namespace Go.Proofs.Ytdndeegpbjlibac
open Go.ChangeShapes Go.WideShapes Go.ChangeAt Go.RowKit

/-! NO POINT IS NEARER, as mathematics. -/

theorem sq_nn (z : Int) : 0 ≤ z * z := by
  have h1 : z * z = (z.natAbs * z.natAbs : Nat) := by rw [Int.natAbs_mul_self]
  omega
theorem sq_zero {z : Int} (h : z * z = 0) : z = 0 := by
  rcases Int.mul_eq_zero.1 h with h | h <;> exact h
theorem farM_nn (p q : Int × Int) : 0 ≤ farM p q := by
  have h1 := sq_nn (p.1 - q.1)
  have h2 := sq_nn (p.2 - q.2)
  unfold farM
  omega
theorem farM_self (p : Int × Int) : farM p p = 0 := by simp [farM]
theorem far_zero {p q : Int × Int} (h : farM p q = 0) : p = q := by
  have h1 := sq_nn (p.1 - q.1)
  have h2 := sq_nn (p.2 - q.2)
  unfold farM at h
  have h3 := sq_zero (show (p.1 - q.1) * (p.1 - q.1) = 0 by omega)
  have h4 := sq_zero (show (p.2 - q.2) * (p.2 - q.2) = 0 by omega)
  exact Prod.ext (by omega) (by omega)
theorem near_le (h order : Nat) (p : Int × Int) : ∀ j k, k < j → farM p (ptM h ((wordsM order).getD (nearTo h order p j) [])) ≤ farM p (ptM h ((wordsM order).getD k []))
  | 0, k, hk => by omega
  | j + 1, k, hk => by
    have ih := near_le h order p j
    rw [nearTo]
    by_cases hlt : farM p (ptM h ((wordsM order).getD j [])) < farM p (ptM h ((wordsM order).getD (nearTo h order p j) []))
    · rw [if_pos hlt]
      by_cases e : k = j
      · rw [e]; exact Int.le_refl _
      · have := ih k (by omega)
        omega
    · rw [if_neg hlt]
      by_cases e : k = j
      · rw [e]; omega
      · exact ih k (by omega)
theorem best_least (h order : Nat) (p : Int × Int) (k : Nat) (x : Int) : ∀ j, (∀ i, i < j → ((wordsM order).getD i []).getD k 0 = x → 0 ≤ bestTo h order p k x j ∧ bestTo h order p k x j ≤ farM p (ptM h ((wordsM order).getD i []))) ∧ (bestTo h order p k x j = -1 ∨ ∃ i, i < j ∧ ((wordsM order).getD i []).getD k 0 = x ∧ bestTo h order p k x j = farM p (ptM h ((wordsM order).getD i [])))
  | 0 => ⟨fun i hi => by omega, Or.inl rfl⟩
  | j + 1 => by
    obtain ⟨ih, ih'⟩ := best_least h order p k x j
    have hnn := farM_nn p (ptM h ((wordsM order).getD j []))
    rw [bestTo]
    by_cases hc : ((wordsM order).getD j []).getD k 0 = x ∧ (bestTo h order p k x j < 0 ∨ farM p (ptM h ((wordsM order).getD j [])) < bestTo h order p k x j)
    · rw [if_pos hc]
      refine ⟨fun i hi hx => ⟨hnn, ?_⟩, Or.inr ⟨j, by omega, hc.1, rfl⟩⟩
      by_cases e : i = j
      · rw [e]; exact Int.le_refl _
      · have := ih i (by omega) hx
        rcases hc.2 with h2 | h2 <;> omega
    · rw [if_neg hc]
      refine ⟨fun i hi hx => ?_, ?_⟩
      · by_cases e : i = j
        · subst e
          by_cases h2 : bestTo h order p k x i < 0
          · exact absurd ⟨hx, Or.inl h2⟩ hc
          · by_cases h3 : farM p (ptM h ((wordsM order).getD i [])) < bestTo h order p k x i
            · exact absurd ⟨hx, Or.inr h3⟩ hc
            · omega
        · exact ih i (by omega) hx
      · rcases ih' with e | ⟨i, hi, hx, e⟩
        · exact Or.inl e
        · exact Or.inr ⟨i, by omega, hx, e⟩
theorem words_find {order : Nat} {c : List Int} (h : c.length = order) (hb : ∀ x ∈ c, x = 0 ∨ x = 1) : ∃ i, i < 2 ^ order ∧ (wordsM order).getD i [] = c := by
  have hm : c ∈ wordsM order := List.count_pos_iff.1 (by rw [words_count h hb]; omega)
  obtain ⟨i, hi, e⟩ := List.getElem_of_mem hm
  exact ⟨i, by rw [← wordsM_length order]; exact hi, by simp [List.getD, hi, e]⟩
theorem words_some {order k : Nat} (hk : k < order) (x : Int) (hx : x = 0 ∨ x = 1) : ∃ i, i < 2 ^ order ∧ ((wordsM order).getD i []).getD k 0 = x := by
  obtain ⟨i, hi, e⟩ := words_find (order := order) (c := List.replicate order x) (by simp) (fun y hy => by rw [(List.mem_replicate.1 hy).2]; exact hx)
  exact ⟨i, hi, by rw [e]; simp [List.getD, hk]⟩
theorem best_all {h order k : Nat} (p : Int × Int) (hk : k < order) (x : Int) (hx : x = 0 ∨ x = 1) : ∃ i, i < 2 ^ order ∧ ((wordsM order).getD i []).getD k 0 = x ∧ bestTo h order p k x (2 ^ order) = farM p (ptM h ((wordsM order).getD i [])) := by
  obtain ⟨i, hi, e⟩ := words_some hk x hx
  obtain ⟨h1, h2⟩ := best_least h order p k x (2 ^ order)
  have h3 := h1 i hi e
  rcases h2 with h2 | h2
  · omega
  · exact h2
theorem sign_one {h order k : Nat} {p : Int × Int} (hk : k < order) (hd : (nearAt h order p).getD k 0 = 1) : heardAt5 h order p k ≤ 0 := by
  obtain ⟨i, hi, _, e⟩ := best_all (h := h) p hk 0 (Or.inl rfl)
  have h1 := nearTo_lt h order p (2 ^ order) Nat.one_le_two_pow
  have h2 := (best_least h order p k 1 (2 ^ order)).1 _ h1 hd
  have h3 := near_le h order p (2 ^ order) i hi
  unfold heardAt5
  omega
theorem sign_nought {h order k : Nat} {p : Int × Int} (hk : k < order) (hd : (nearAt h order p).getD k 0 = 0) : 0 ≤ heardAt5 h order p k := by
  obtain ⟨i, hi, _, e⟩ := best_all (h := h) p hk 1 (Or.inr rfl)
  have h1 := nearTo_lt h order p (2 ^ order) Nat.one_le_two_pow
  have h2 := (best_least h order p k 0 (2 ^ order)).1 _ h1 hd
  have h3 := near_le h order p (2 ^ order) i hi
  unfold heardAt5
  omega

def apartB : List (Int × Int) → Bool
  | [] => true
  | p :: ps => ps.all (fun q => !decide (p = q)) && apartB ps
theorem apart_at : ∀ (ps : List (Int × Int)), apartB ps = true → ∀ i j, i < j → j < ps.length → ps.getD i (0, 0) ≠ ps.getD j (0, 0)
  | [], _, i, j, _, hj => by simp at hj
  | p :: ps, h, i, j, hij, hj => by
    rw [apartB, Bool.and_eq_true] at h
    obtain ⟨j, rfl⟩ : ∃ j', j = j' + 1 := ⟨j - 1, by omega⟩
    have hj' : j < ps.length := by simpa using hj
    cases i with
    | zero =>
      have h1 := List.all_eq_true.1 h.1 ps[j] (List.getElem_mem hj')
      have e : (p :: ps).getD (j + 1) (0, 0) = ps[j] := by simp [List.getD, hj']
      rw [e]
      simpa using h1
    | succ i => exact apart_at ps h.2 i j (by omega) hj'
theorem words_apart : ∀ h, 1 ≤ h → h ≤ 3 → apartB ((wordsM (2 * h)).map (ptM h)) = true
  | 1, _, _ => by decide +kernel
  | 2, _, _ => by decide +kernel
  | 3, _, _ => by decide +kernel
  | h + 4, _, _ => by omega
theorem map_at {order : Nat} (h i : Nat) (hi : i < 2 ^ order) : ((wordsM order).map (ptM h)).getD i (0, 0) = ptM h ((wordsM order).getD i []) := by
  have hl : i < (wordsM order).length := by rw [wordsM_length]; exact hi
  simp [List.getD, hl]
theorem pt_inj {order h i j : Nat} (ho : order = 2 * h) (h1 : 1 ≤ h) (hh : h ≤ 3) (hi : i < 2 ^ order) (hj : j < 2 ^ order) (e : ptM h ((wordsM order).getD i []) = ptM h ((wordsM order).getD j [])) : i = j := by
  have ha := apart_at _ (words_apart h h1 hh)
  rw [← ho] at ha
  have hl : ((wordsM order).map (ptM h)).length = 2 ^ order := by rw [List.length_map, wordsM_length]
  rw [← map_at h i hi, ← map_at h j hj] at e
  rcases Nat.lt_trichotomy i j with h2 | h2 | h2
  · exact absurd e (ha i j h2 (by omega))
  · exact h2
  · exact absurd e.symm (ha j i h2 (by omega))
theorem near_sent {order h : Nat} {c : List Int} (ho : order = 2 * h) (h1 : 1 ≤ h) (hh : h ≤ 3) (hl : c.length = order) (hb : ∀ x ∈ c, x = 0 ∨ x = 1) : nearAt h order (ptM h c) = c := by
  obtain ⟨i, hi, e⟩ := words_find hl hb
  have h2 := near_le h order (ptM h c) (2 ^ order) i hi
  rw [e, farM_self] at h2
  have h3 := farM_nn (ptM h c) (ptM h ((wordsM order).getD (nearTo h order (ptM h c) (2 ^ order)) []))
  have h4 := far_zero (show farM (ptM h c) (ptM h ((wordsM order).getD (nearTo h order (ptM h c) (2 ^ order)) [])) = 0 by omega)
  have h5 := pt_inj ho h1 hh hi (nearTo_lt h order (ptM h c) (2 ^ order) Nat.one_le_two_pow) (by rw [e]; exact h4)
  unfold nearAt
  rw [← h5, e]
theorem sent_one {order h k : Nat} {c : List Int} (ho : order = 2 * h) (h1 : 1 ≤ h) (hh : h ≤ 3) (hl : c.length = order) (hb : ∀ x ∈ c, x = 0 ∨ x = 1) (hk : k < order) (hx : c.getD k 0 = 1) : heardAt5 h order (ptM h c) k < 0 := by
  obtain ⟨i, hi, e⟩ := words_find hl hb
  have h2 := (best_least h order (ptM h c) k 1 (2 ^ order)).1 i hi (by rw [e]; exact hx)
  rw [e, farM_self] at h2
  obtain ⟨j, hj, hz, ej⟩ := best_all (h := h) (ptM h c) hk 0 (Or.inl rfl)
  have h3 := farM_nn (ptM h c) (ptM h ((wordsM order).getD j []))
  have h4 : farM (ptM h c) (ptM h ((wordsM order).getD j [])) ≠ 0 := fun h0 => by
    have := pt_inj ho h1 hh hi hj (by rw [e]; exact far_zero h0)
    subst this
    rw [e, hx] at hz
    cases hz
  unfold heardAt5
  omega
theorem sent_nought {order h k : Nat} {c : List Int} (ho : order = 2 * h) (h1 : 1 ≤ h) (hh : h ≤ 3) (hl : c.length = order) (hb : ∀ x ∈ c, x = 0 ∨ x = 1) (hk : k < order) (hx : c.getD k 0 = 0) : 0 < heardAt5 h order (ptM h c) k := by
  obtain ⟨i, hi, e⟩ := words_find hl hb
  have h2 := (best_least h order (ptM h c) k 0 (2 ^ order)).1 i hi (by rw [e]; exact hx)
  rw [e, farM_self] at h2
  obtain ⟨j, hj, hz, ej⟩ := best_all (h := h) (ptM h c) hk 1 (Or.inr rfl)
  have h3 := farM_nn (ptM h c) (ptM h ((wordsM order).getD j []))
  have h4 : farM (ptM h c) (ptM h ((wordsM order).getD j [])) ≠ 0 := fun h0 => by
    have := pt_inj ho h1 hh hi hj (by rw [e]; exact far_zero h0)
    subst this
    rw [e, hx] at hz
    cases hz
  unfold heardAt5
  omega

theorem flat_at {F : Int × Int → List Int} {o : Nat} (hF : ∀ p, (F p).length = o) : ∀ (ps : List (Int × Int)) (i k : Nat), i < ps.length → k < o → (ps.flatMap F).getD (i * o + k) 0 = (F (ps.getD i (0, 0))).getD k 0
  | [], i, k, hi, _ => by simp at hi
  | p :: ps, 0, k, _, hk => by
    rw [List.flatMap_cons]
    simp [List.getD, List.getElem?_append_left (show k < (F p).length by rw [hF]; exact hk)]
  | p :: ps, i + 1, k, hi, hk => by
    have ih := flat_at hF ps i k (by simpa using hi) hk
    rw [List.flatMap_cons]
    have e : (i + 1) * o + k = (F p).length + (i * o + k) := by rw [hF, Nat.add_mul]; omega
    rw [e]
    have e2 : (p :: ps).getD (i + 1) (0, 0) = ps.getD i (0, 0) := by simp [List.getD]
    rw [e2, ← ih]
    simp [List.getD, List.getElem?_append_right]
theorem flat_chunk {F : Int × Int → List Int} {o : Nat} (hF : ∀ p, (F p).length = o) : ∀ (ps : List (Int × Int)) (i : Nat), i < ps.length → ((ps.flatMap F).drop (i * o)).take o = F (ps.getD i (0, 0))
  | [], i, hi => by simp at hi
  | p :: ps, 0, _ => by
    rw [List.flatMap_cons]
    simp only [Nat.zero_mul, List.drop_zero]
    rw [List.take_append_of_le_length (by rw [hF]; exact Nat.le_refl _), List.take_of_length_le (by rw [hF]; exact Nat.le_refl _)]
    simp [List.getD]
  | p :: ps, i + 1, hi => by
    have ih := flat_chunk hF ps i (by simpa using hi)
    rw [List.flatMap_cons]
    have e : (i + 1) * o = (F p).length + i * o := by rw [hF, Nat.add_mul]; omega
    have e2 : (p :: ps).getD (i + 1) (0, 0) = ps.getD i (0, 0) := by simp [List.getD]
    rw [e, e2, ← ih, List.drop_append, List.drop_of_length_le (show (F p).length ≤ (F p).length + i * o by omega), Nat.add_sub_cancel_left, List.nil_append]
theorem heardOf_length (h order : Nat) (p : Int × Int) (k : Nat) : (heardOf h order p k).length = k := by simp [heardOf]
theorem heardM_at {h order : Nat} {ps : List (Int × Int)} {i k : Nat} (hi : i < ps.length) (hk : k < order) : (heardM h order ps ps.length).getD (i * order + k) 0 = heardAt5 h order (ps.getD i (0, 0)) k := by
  unfold heardM
  rw [List.take_length, flat_at (fun p => heardOf_length h order p order) ps i k hi hk]
  simp [heardOf, List.getD, hk]
theorem nearM_at {h order : Nat} {ps : List (Int × Int)} {i k : Nat} (hi : i < ps.length) (hk : k < order) : (nearM h order ps ps.length).getD (i * order + k) 0 = (nearAt h order (ps.getD i (0, 0))).getD k 0 := by
  unfold nearM
  rw [List.take_length, flat_at (nearAt_length h order) ps i k hi hk]
theorem nearM_chunk {h order : Nat} {ps : List (Int × Int)} {i : Nat} (hi : i < ps.length) : chunkM (nearM h order ps ps.length) order i = nearAt h order (ps.getD i (0, 0)) := by
  unfold nearM chunkM
  rw [List.take_length, flat_chunk (nearAt_length h order) ps i hi]
theorem nearM_bits (h order : Nat) (ps : List (Int × Int)) (n : Nat) : ∀ x ∈ nearM h order ps n, x = 0 ∨ x = 1 := fun x hx => by
  obtain ⟨p, _, hp⟩ := List.mem_flatMap.1 hx
  exact words_bits (words_at (nearTo_lt h order p (2 ^ order) Nat.one_le_two_pow)) x hp
theorem sentM_at {h order n i : Nat} (b : List Int) (hi : i < n) : (sentM h b order n).getD i (0, 0) = ptM h (chunkM b order i) := by simp [sentM, List.getD, hi]
theorem chunk_bits {b : List Int} (hb : ∀ x ∈ b, x = 0 ∨ x = 1) (order j : Nat) : ∀ x ∈ chunkM b order j, x = 0 ∨ x = 1 := fun x hx => hb x (List.mem_of_mem_drop (List.mem_of_mem_take hx))
/-- Near of what was sent: the bits. -/
theorem near_all {h order n : Nat} {b : List Int} (ho : order = 2 * h) (h1 : 1 ≤ h) (hh : h ≤ 3) (hl : b.length = n * order) (hb : ∀ x ∈ b, x = 0 ∨ x = 1) : ∀ k, k ≤ n → nearM h order (sentM h b order n) k = b.take (k * order)
  | 0, _ => by simp [nearM]
  | k + 1, hk => by
    have hs : (sentM h b order n).length = n := by simp [sentM]
    rw [nearM_succ (by rw [hs]; omega), near_all ho h1 hh hl hb k (by omega), sentM_at b (by omega), near_sent ho h1 hh (chunkM_length hl (by omega)) (chunk_bits hb order k)]
    unfold chunkM
    rw [Nat.add_mul, Nat.one_mul, List.take_add]
theorem chunk_at {b : List Int} {order j k : Nat} (hk : k < order) : (chunkM b order j).getD k 0 = b.getD (j * order + k) 0 := by
  unfold chunkM
  simp [List.getD, hk]
/-- Signs of what was sent and heard. -/
theorem sent_sign {h order n : Nat} {b : List Int} (ho : order = 2 * h) (h1 : 1 ≤ h) (hh : h ≤ 3) (hl : b.length = n * order) (hb : ∀ x ∈ b, x = 0 ∨ x = 1) {i : Nat} (hi : i < b.length) :
    (b.getD i 0 = 1 → (heardM h order (sentM h b order n) n).getD i 0 < 0) ∧ (b.getD i 0 = 0 → 0 < (heardM h order (sentM h b order n) n).getD i 0) := by
  have hs : (sentM h b order n).length = n := by simp [sentM]
  have ho1 : 0 < order := by omega
  have hd := Nat.div_add_mod i order
  have hm := Nat.mod_lt i ho1
  have hj : i / order < n := (Nat.div_lt_iff_lt_mul ho1).2 (by rw [← hl]; exact hi)
  obtain ⟨j, ej⟩ : ∃ j, j = i / order := ⟨_, rfl⟩
  obtain ⟨k, ek⟩ : ∃ k, k = i % order := ⟨_, rfl⟩
  rw [← ej] at hd hj
  rw [← ek] at hd hm
  rw [Nat.mul_comm] at hd
  have e := heardM_at (h := h) (order := order) (ps := sentM h b order n) (i := j) (k := k) (by rw [hs]; exact hj) hm
  rw [hs, sentM_at b hj] at e
  rw [← hd, e, ← chunk_at hm]
  exact ⟨sent_one ho h1 hh (chunkM_length hl hj) (chunk_bits hb order j) hm, sent_nought ho h1 hh (chunkM_length hl hj) (chunk_bits hb order j) hm⟩
end Go.Proofs.Ytdndeegpbjlibac
