import Derived.Test.YtiiobeelmnjffabDoorHeard
namespace Go.Proofs.YtiiobeelmnjffabDoor
open Go.ChangeShapes Go.WideShapes Go.ChangeAt Go.RowKit

theorem codedTo_bit {zs : List Int} (K j : Nat) (hj : j < 3 * K) : 0 ≤ (codedTo zs K).getD j 0 ∧ (codedTo zs K).getD j 0 ≤ 1 := by
  have e : j = 3 * (j / 3) + j % 3 := by omega
  rw [e, codedTo_at zs K (j / 3) (j % 3) (by omega) (by omega)]
  rcases (show j % 3 = 0 ∨ j % 3 = 1 ∨ j % 3 = 2 by omega) with h | h | h <;> rw [h] <;> simp [trip] <;> omega

/-- What is heard with its signs scores most, and only what was coded scores so much. -/
theorem score_most (cs ds ls : List Int) (L : Nat) (hc : ∀ j, j < L → 0 ≤ cs.getD j 0 ∧ cs.getD j 0 ≤ 1) (hd : ∀ j, j < L → 0 ≤ ds.getD j 0 ∧ ds.getD j 0 ≤ 1) :
    ∀ k, k ≤ L → scoreTo ds (heardTo cs ls L) k ≤ scoreTo cs (heardTo cs ls L) k ∧ (scoreTo ds (heardTo cs ls L) k = scoreTo cs (heardTo cs ls L) k → ∀ j, j < k → ds.getD j 0 = cs.getD j 0)
  | 0, _ => ⟨Int.le_refl _, fun _ j hj => absurd hj (Nat.not_lt_zero j)⟩
  | k + 1, hk => by
    obtain ⟨ih1, ih2⟩ := score_most cs ds ls L hc hd k (by omega)
    have c1 := hc k (by omega)
    have d1 := hd k (by omega)
    have hx := loudAt_bd ls k
    simp only [scoreTo]
    rw [heardTo_at cs ls L k (by omega)]
    unfold heardAt
    by_cases e : ds.getD k 0 = cs.getD k 0
    · rw [e]
      refine ⟨by omega, fun h j hj => ?_⟩
      by_cases ej : j = k
      · rw [ej]; exact e
      · exact ih2 (by omega) j (by omega)
    · have hlt : sgn (ds.getD k 0) (sgn (cs.getD k 0) (loudAt ls k)) < sgn (cs.getD k 0) (sgn (cs.getD k 0) (loudAt ls k)) := by
        generalize cs.getD k 0 = x at *
        generalize ds.getD k 0 = y at *
        unfold sgn
        rcases (show x = 0 ∨ x = 1 by omega) with rfl | rfl <;> rcases (show y = 0 ∨ y = 1 by omega) with rfl | rfl
        · exact absurd rfl e
        · simp; omega
        · simp; omega
        · exact absurd rfl e
      exact ⟨by omega, fun h => by omega⟩

theorem coded_same {zs os : List Int} (hz : Bits zs) (ho : Bits os) (K : Nat) (h : ∀ j, j < 3 * K → (codedTo os K).getD j 0 = (codedTo zs K).getD j 0) : ∀ i, i ≤ K → ∀ m : Int, m < i → bitI os m = bitI zs m
  | 0, _, m, hm => by unfold bitI; rw [if_pos (by omega), if_pos (by omega)]
  | i + 1, hi, m, hm => by
    have ih := coded_same hz ho K h i (by omega)
    by_cases e : m = (i : Int)
    · subst e
      have h0 := h (3 * i) (by omega)
      have a0 := codedTo_at os K i 0 (by omega) (by omega)
      have b0 := codedTo_at zs K i 0 (by omega) (by omega)
      rw [Nat.add_zero] at a0 b0
      rw [a0, b0] at h0
      have h1 : (bitI os i + bitI os (i - 1) + bitI os (i - 2) + bitI os (i - 3) + bitI os (i - 6)) % 2 = (bitI zs i + bitI zs (i - 1) + bitI zs (i - 2) + bitI zs (i - 3) + bitI zs (i - 6)) % 2 := h0
      rw [ih (i - 1) (by omega), ih (i - 2) (by omega), ih (i - 3) (by omega), ih (i - 6) (by omega)] at h1
      have b1 := bitI_bd hz (i : Int)
      have b2 := bitI_bd ho (i : Int)
      omega
    · exact ih m (by omega)

theorem coded_inj {zs os : List Int} (hz : Bits zs) (ho : Bits os) (hl : os.length = zs.length) (h : ∀ j, j < 3 * (zs.length + 6) → (codedTo os (zs.length + 6)).getD j 0 = (codedTo zs (zs.length + 6)).getD j 0) : os = zs := by
  have hb := coded_same hz ho (zs.length + 6) h (zs.length + 6) (Nat.le_refl _)
  refine List.ext_getElem hl fun j h1 h2 => ?_
  have := hb (j : Int) (by omega)
  unfold bitI at this
  rw [if_neg (by omega), if_neg (by omega), Int.toNat_natCast] at this
  simpa [List.getD, h1, h2] using this

/-- WHAT IS CODED AND HEARD WITH ITS SIGNS IS DECODED AS IT WAS. -/
theorem back {zs : List Int} (hz : AllBits zs) (ls : List Int) :
    way (heardTo (codedTo zs (zs.length + 6)) ls (3 * (zs.length + 6))) zs.length 0 0 = zs := by
  refine best_one (way_best _ _ 0 0) ⟨rfl, hz, fun o hol hoa => ?_⟩
  have e1 := score_sc hz.bits (heardTo (codedTo zs (zs.length + 6)) ls (3 * (zs.length + 6)))
  have e2 := score_sc hoa.bits (heardTo (codedTo zs (zs.length + 6)) ls (3 * (zs.length + 6)))
  rw [hol] at e2
  show sc _ 0 0 (o ++ zeros6) < sc _ 0 0 (zs ++ zeros6) ∨ _
  rw [← e1, ← e2]
  obtain ⟨m1, m2⟩ := score_most (codedTo zs (zs.length + 6)) (codedTo o (zs.length + 6)) ls (3 * (zs.length + 6)) (fun j hj => codedTo_bit _ j hj) (fun j hj => codedTo_bit _ j hj) (3 * (zs.length + 6)) (Nat.le_refl _)
  by_cases e : scoreTo (codedTo o (zs.length + 6)) (heardTo (codedTo zs (zs.length + 6)) ls (3 * (zs.length + 6))) (3 * (zs.length + 6)) = scoreTo (codedTo zs (zs.length + 6)) (heardTo (codedTo zs (zs.length + 6)) ls (3 * (zs.length + 6))) (3 * (zs.length + 6))
  · right
    refine ⟨e, ?_⟩
    rw [coded_inj hz.bits hoa.bits hol (m2 e)]
    exact ahead_irr zs
  · left
    omega

theorem heard_soft (cs ls : List Int) (L : Nat) : softErr (heardTo cs ls L) = 0 := by
  have h : softOk (heardTo cs ls L) = true := by
    refine soft_all fun j hj => ?_
    rw [heardTo_length] at hj
    rw [heardTo_at cs ls L j hj]
    have := loudAt_bd ls j
    unfold heardAt sgn
    split <;> omega
  unfold softErr
  rw [h]
  rfl
end Go.Proofs.YtiiobeelmnjffabDoor
