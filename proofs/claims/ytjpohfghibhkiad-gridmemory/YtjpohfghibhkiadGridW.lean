import Derived.Test.YtjpohfghibhkiadGwL
namespace Go.Proofs.Ytjpohfghibhkiad
open Go.ChangeShapes Go.WideShapes Go.ChangeAt Go.RowKit

/-! WHAT THE LAWS ASK OF Check, Places, Lay AND Take: the program's keep it. -/

theorem RowsO.rows {w : World} {B g N : Nat} {gs : Nat → Nat} {ls : Nat → List (Int × Int)} (h : RowsO w B g N gs ls 14) : RowsP w (some ⟨g, 0, none⟩) ((List.range 14).map ls) := by
  intro _
  refine ⟨g, 0, rfl, fun i hi => ?_⟩
  have h14 : i < 14 := by simpa using hi
  have e : rowAt ((List.range 14).map ls) i = ls i := by simp [rowAt, List.getD, h14]
  rw [e, Nat.zero_add, h.len i h14]
  exact ⟨_, _, h.cell h14 h14, (h.row i h14).pts⟩
theorem grid_laws : GridLaws := by
  refine ⟨fun B ss a c w hS hz hF => check_any B ss ss.length c a w hS rfl hz hF, ?_, ?_, ?_⟩
  · intro B who ss a c w hS hz hF
    refine (places_own B who ss ss.length c a w hS rfl hz hF).mono ?_
    rintro e w' ⟨v, rfl, hb, h0, h1⟩
    by_cases hG : gridErrM B ss = 0
    · have hO := h0 hG
      obtain ⟨a', c', rfl, -, -⟩ := hO.shape
      exact ⟨a', _, c', rfl, hb, fun _ => ⟨rfl, hO.pts⟩, fun h => absurd hG h⟩
    · rw [h1 hG]
      exact ⟨none, 0, 0, rfl, hb, fun h => absurd h hG, fun _ => rfl⟩
  · intro B ss a c ps ap cp w hS hz hF hP hzp hpz hpb
    refine (lay_own B ss ss.length c a ps ap ps.length cp w hS rfl hz hF hP rfl hzp hpz hpb).mono ?_
    rintro e w' ⟨v, E, rfl, hb, h0, h1⟩
    by_cases hG : gridErrM B ss = 0
    · obtain ⟨ht, hn⟩ := h1 hG
      cases hT : twiceM ps with
      | true =>
        obtain ⟨rfl, rfl⟩ := ht hT
        refine ⟨none, 0, 0, 1, rfl, hb, by omega, fun h => absurd hG h, fun _ => ⟨fun _ _ _ _ _ => ⟨rfl, rfl⟩, fun h => ?_, fun h => ?_⟩⟩
        · rw [twice_no h] at hT; cases hT
        · rw [twice_no h] at hT; cases hT
      | false =>
        obtain ⟨h3, h4⟩ := hn hT
        have hnd : ∀ i j, i < ps.length → j < i → (prAt ps i).who ≠ (prAt ps j).who := fun i j hi hj h => by
          rw [twice_yes hi hj h] at hT; cases hT
        by_cases hall : ∀ i, i < ps.length → (prAt ps i).pts.length = (placesOfM (gN B) ss (prAt ps i).who).length
        · obtain ⟨rfl, g, gs, rfl, hR⟩ := h4 hall
          refine ⟨some ⟨g, 0, none⟩, 14, 14, 0, rfl, hb, by omega, fun h => absurd hG h, fun _ => ⟨fun i j hi hj h => absurd h (hnd i j hi hj), fun _ i hi h => absurd (hall i hi) h, fun _ _ => ⟨rfl, rfl, _, hR.rows, by simp, fun t ht => ?_, fun t ht z hz => ?_⟩⟩⟩
          · have e : rowAt ((List.range 14).map (rowL (gN B) (layAt (gN B) ss ps))) t = rowL (gN B) (layAt (gN B) ss ps) t := by simp [rowAt, List.getD, ht]
            rw [e, rowL_length]
          · have e : rowAt ((List.range 14).map (rowL (gN B) (layAt (gN B) ss ps))) t = rowL (gN B) (layAt (gN B) ss ps) t := by simp [rowAt, List.getD, ht]
            rw [e, rowL_at _ _ _ hz]
        · obtain ⟨i, hi, hne⟩ : ∃ i, i < ps.length ∧ (prAt ps i).pts.length ≠ (placesOfM (gN B) ss (prAt ps i).who).length := by
            apply Classical.byContradiction
            intro h
            exact hall fun i hi => Classical.byContradiction fun h' => h ⟨i, hi, h'⟩
          obtain ⟨rfl, rfl⟩ := h3 i hi hne
          exact ⟨none, 0, 0, 3, rfl, hb, by omega, fun h => absurd hG h, fun _ => ⟨fun i j hi hj h => absurd h (hnd i j hi hj), fun _ _ _ _ => ⟨rfl, rfl⟩, fun _ h => absurd h hall⟩⟩
    · obtain ⟨rfl, rfl⟩ := h0 hG
      exact ⟨none, 0, 0, _, rfl, hb, by omega, fun _ => ⟨rfl, rfl⟩, fun h => absurd h hG⟩
  · intro B who ss a c rs ar cr w hS hz hF hR hzr hrz
    refine (take_own B who ss ss.length c a rs ar rs.length cr w hS rfl hz hF hR rfl hzr hrz).mono ?_
    rintro e w' ⟨v, E, rfl, hb, h0, h1⟩
    by_cases hG : gridErrM B ss = 0
    · obtain ⟨hx, hy⟩ := h1 hG
      cases hT : rowsOk (gN B) rs with
      | false =>
        obtain ⟨rfl, rfl⟩ := hx hT
        exact ⟨none, 0, 0, 3, rfl, hb, by omega, fun h => absurd hG h, fun _ => ⟨fun _ => ⟨rfl, rfl⟩, fun h => by cases h⟩⟩
      | true =>
        obtain ⟨rfl, g, -, rfl, hP⟩ := hy hT
        refine ⟨some ⟨g, 0, none⟩, _, _, 0, rfl, hb, ?_, fun h => absurd hG h, fun _ => ⟨fun h => (by cases h), fun _ => ⟨rfl, rfl, hP.pts⟩⟩⟩
        have h1 := placesTo_length (gN B) ss who 14
        have h2 := (griderr_good hG).1
        have h3 : gN B ≤ 144 := by unfold gN; omega
        have h4 : 14 * gN B ≤ 14 * 144 := Nat.mul_le_mul_left _ h3
        unfold placesOfM
        omega
    · obtain ⟨rfl, rfl⟩ := h0 hG
      exact ⟨none, 0, 0, _, rfl, hb, by omega, fun _ => ⟨rfl, rfl⟩, fun h => absurd h hG⟩
end Go.Proofs.Ytjpohfghibhkiad
