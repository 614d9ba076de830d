import Derived.Test.YtjpohfghibhkiadGridL
namespace Go.Proofs.Ytjpohfghibhkiad

/-! WHAT IS LAID IS WHAT IS TAKEN; places are nobody's twice. -/

theorem rowOf_at (ss : List Sh) (who : Int) (t : Nat) : ∀ (m j : Nat), j < (rowOf ss who t m).length → ∃ z, z < m ∧ placeOf ss who z t = true ∧ (rowOf ss who t m).getD j (0, 0) = ((z : Int), (t : Int)) ∧ (rowOf ss who t z).length = j
  | 0, j, h => by simp [rowOf] at h
  | m + 1, j, h => by
    rw [rowOf_succ] at h ⊢
    by_cases hj : j < (rowOf ss who t m).length
    · obtain ⟨z, h1, h2, h3, h4⟩ := rowOf_at ss who t m j hj
      refine ⟨z, by omega, h2, ?_, h4⟩
      rw [← h3]
      simp only [List.getD, List.getElem?_append_left hj]
    · by_cases hp : placeOf ss who m t = true
      · simp only [hp, if_true, List.length_append, List.length_cons, List.length_nil] at h ⊢
        obtain rfl : j = (rowOf ss who t m).length := by omega
        refine ⟨m, by omega, hp, ?_, rfl⟩
        simp [List.getD]
      · rw [if_neg hp] at h
        simp at h
        omega
theorem places_at (N : Nat) (ss : List Sh) (who : Int) : ∀ (T j : Nat), j < (placesTo N ss who T).length → ∃ z t : Nat, z < N ∧ t < T ∧ placeOf ss who z t = true ∧ (placesTo N ss who T).getD j (0, 0) = ((z : Int), (t : Int)) ∧ seenAt N ss who t z = j
  | 0, j, h => by simp [placesTo] at h
  | T + 1, j, h => by
    rw [placesTo_succ] at h ⊢
    by_cases hj : j < (placesTo N ss who T).length
    · obtain ⟨z, t, h1, h2, h3, h4, h5⟩ := places_at N ss who T j hj
      refine ⟨z, t, h1, by omega, h3, ?_, h5⟩
      rw [← h4]
      simp only [List.getD, List.getElem?_append_left hj]
    · rw [List.length_append] at h
      obtain ⟨z, h1, h2, h3, h4⟩ := rowOf_at ss who T N (j - (placesTo N ss who T).length) (by omega)
      refine ⟨z, T, h1, by omega, h2, ?_, ?_⟩
      · rw [← h3]
        simp only [List.getD, List.getElem?_append_right (show (placesTo N ss who T).length ≤ j by omega)]
      · unfold seenAt
        omega
theorem partTo_one {ps : List Prt} (hnd : NoDups ps ps.length) {i : Nat} (hi : i < ps.length) (idx : Nat) : ∀ k, k ≤ ps.length → partTo ps (prAt ps i).who idx k = if i < k then (prAt ps i).pts.getD idx (0, 0) else (0, 0)
  | 0, _ => by simp [partTo]
  | k + 1, hk => by
    have ih := partTo_one hnd hi idx k (by omega)
    rw [partTo]
    by_cases e : k = i
    · subst e
      rw [if_pos rfl, if_pos (by omega)]
    · have hne : (prAt ps k).who ≠ (prAt ps i).who := by
        rcases Nat.lt_or_gt_of_ne e with h | h
        · exact fun h' => hnd i hi k h h'.symm
        · exact hnd k (by omega) i h
      rw [if_neg hne, ih]
      by_cases h : i < k
      · rw [if_pos h, if_pos (by omega)]
      · rw [if_neg h, if_neg (by omega)]
theorem take_lay {N : Nat} {ss : List Sh} {ps : List Prt} {ls : List (List (Int × Int))} (hnd : NoDups ps ps.length) (hl : ∀ t, t < 14 → ∀ z, z < N → (rowAt ls t).getD z (0, 0) = layAt N ss ps t z) {i : Nat} (hi : i < ps.length) (hlen : (prAt ps i).pts.length = (placesOfM N ss (prAt ps i).who).length) :
    takeM N ss ls (prAt ps i).who = (prAt ps i).pts := by
  refine List.ext_getElem (by simp [takeM, hlen]) fun j h1 h2 => ?_
  have hj : j < (placesTo N ss (prAt ps i).who 14).length := by simpa [takeM, placesOfM] using h1
  obtain ⟨z, t, g1, g2, g3, g4, g5⟩ := places_at N ss (prAt ps i).who 14 j hj
  have e : (placesOfM N ss (prAt ps i).who)[j]'(by simpa [placesOfM] using hj) = ((z : Int), (t : Int)) := by
    rw [← g4]
    unfold placesOfM
    simp [List.getD, hj]
  have e2 : (takeM N ss ls (prAt ps i).who)[j] = (rowAt ls ((placesOfM N ss (prAt ps i).who)[j]'(by simpa [placesOfM] using hj)).2.toNat).getD ((placesOfM N ss (prAt ps i).who)[j]'(by simpa [placesOfM] using hj)).1.toNat (0, 0) := by
    simp [takeM]
  rw [e2, e]
  show (rowAt ls (t : Int).toNat).getD (z : Int).toNat (0, 0) = _
  rw [Int.toNat_natCast, Int.toNat_natCast, hl t g2 z g1]
  unfold placeOf at g3
  simp only [Bool.and_eq_true, decide_eq_true_eq, Bool.not_eq_true'] at g3
  unfold layAt
  rw [if_neg (by rw [g3.2.2]; decide), if_pos g3.1, g3.2.1, g5, partTo_one hnd hi j ps.length (Nat.le_refl _), if_pos hi]
  simp [List.getD, h2]
theorem place_who {ss : List Sh} {who who' tone t : Int} (h : placeOf ss who tone t = true) (h' : placeOf ss who' tone t = true) : who = who' := by
  unfold placeOf at h h'
  simp only [Bool.and_eq_true, decide_eq_true_eq] at h h'
  rw [← h.2.1, ← h'.2.1]
/-- A place is met once: by one user, at one index. -/
theorem places_inj {N : Nat} {ss : List Sh} {who who' : Int} {j j' : Nat} (hj : j < (placesOfM N ss who).length) (hj' : j' < (placesOfM N ss who').length) (h : (placesOfM N ss who).getD j (0, 0) = (placesOfM N ss who').getD j' (0, 0)) : who = who' ∧ j = j' := by
  obtain ⟨z, t, g1, g2, g3, g4, g5⟩ := places_at N ss who 14 j hj
  obtain ⟨z', t', g1', g2', g3', g4', g5'⟩ := places_at N ss who' 14 j' hj'
  unfold placesOfM at h
  rw [g4, g4', Prod.mk.injEq] at h
  have ez : z = z' := by have := h.1; omega
  have et : t = t' := by have := h.2; omega
  subst ez et
  have ew := place_who g3 g3'
  subst ew
  exact ⟨rfl, by omega⟩
end Go.Proofs.Ytjpohfghibhkiad
