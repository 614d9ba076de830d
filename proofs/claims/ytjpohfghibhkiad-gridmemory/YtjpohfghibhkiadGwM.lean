import Derived.Test.YtjpohfghibhkiadGwG
import Derived.Test.YtjpohfghibhkiadGridZ
namespace Go.Proofs.Ytjpohfghibhkiad
open Go.ChangeShapes Go.WideShapes Go.ChangeAt Go.RowKit

/-! WHAT Lay WRITES, part by part and place by place. -/

theorem row_prefix (ss : List Sh) (who : Int) (t z : Nat) : ∀ m, ∃ R, rowOf ss who t (z + m) = rowOf ss who t z ++ R
  | 0 => ⟨[], by simp⟩
  | m + 1 => by
    obtain ⟨R, h⟩ := row_prefix ss who t z m
    exact ⟨R ++ (if placeOf ss who (z + m : Nat) t then [(((z + m : Nat) : Int), (t : Int))] else []), by rw [← Nat.add_assoc, rowOf_succ, h, List.append_assoc]⟩
theorem places_prefix (N : Nat) (ss : List Sh) (who : Int) (T : Nat) : ∀ m, ∃ R, placesTo N ss who (T + m) = placesTo N ss who T ++ R
  | 0 => ⟨[], by simp⟩
  | m + 1 => by
    obtain ⟨R, h⟩ := places_prefix N ss who T m
    exact ⟨R ++ rowOf ss who (T + m) N, by rw [← Nat.add_assoc, placesTo_succ, h, List.append_assoc]⟩
theorem seen_at {N : Nat} {ss : List Sh} {who : Int} {t z : Nat} (hz : z < N) (ht : t < 14) (h : placeOf ss who z t = true) : (placesOfM N ss who).getD (seenAt N ss who t z) (0, 0) = ((z : Int), (t : Int)) := by
  obtain ⟨R, hR⟩ := places_prefix N ss who (t + 1) (14 - (t + 1))
  rw [show t + 1 + (14 - (t + 1)) = 14 by omega, placesTo_succ N ss who t] at hR
  obtain ⟨R', hR'⟩ := row_prefix ss who t (z + 1) (N - (z + 1))
  rw [show z + 1 + (N - (z + 1)) = N by omega, rowOf_succ, h, if_pos rfl] at hR'
  unfold placesOfM
  rw [hR, hR']
  unfold seenAt
  simp [List.getD]
theorem seen_inj {N : Nat} {ss : List Sh} {who : Int} {t z t' z' : Nat} (hz : z < N) (ht : t < 14) (h : placeOf ss who z t = true) (hz' : z' < N) (ht' : t' < 14) (h' : placeOf ss who z' t' = true) (e : seenAt N ss who t z = seenAt N ss who t' z') : t = t' ∧ z = z' := by
  have e1 := seen_at hz ht h
  have e2 := seen_at hz' ht' h'
  rw [e, e2] at e1
  simp only [Prod.mk.injEq] at e1
  omega
def layTo (N : Nat) (ss : List Sh) (ps : List Prt) (k t z : Nat) : Int × Int :=
  if pilotM z t then (1, pilQ t) else if 0 < (ownM ss z t).2 then partTo ps (ownM ss z t).1 (seenAt N ss (ownM ss z t).1 t z) k else (0, 0)
def layIn (N : Nat) (ss : List Sh) (ps : List Prt) (k i t z : Nat) : Int × Int :=
  if placeOf ss (prAt ps k).who z t = true ∧ seenAt N ss (prAt ps k).who t z < i then (prAt ps k).pts.getD (seenAt N ss (prAt ps k).who t z) (0, 0) else layTo N ss ps k t z
theorem layTo_zero (N : Nat) (ss : List Sh) (ps : List Prt) (t z : Nat) : layTo N ss ps 0 t z = bareP t z := by
  unfold layTo bareP
  by_cases h : pilotM z t = true
  · rw [if_pos h, if_pos h]
  · rw [if_neg h, if_neg h]
    split <;> rfl
theorem layTo_all (N : Nat) (ss : List Sh) (ps : List Prt) (t z : Nat) : layTo N ss ps ps.length t z = layAt N ss ps t z := rfl
theorem layIn_zero (N : Nat) (ss : List Sh) (ps : List Prt) (k t z : Nat) : layIn N ss ps k 0 t z = layTo N ss ps k t z := by
  unfold layIn
  rw [if_neg (by omega)]
theorem layIn_next {N : Nat} {ss : List Sh} {ps : List Prt} {k i t0 z0 : Nat} (hz0 : z0 < N) (ht0 : t0 < 14) (h0 : placeOf ss (prAt ps k).who z0 t0 = true) (hs : seenAt N ss (prAt ps k).who t0 z0 = i) (t z : Nat) (hz : z < N) (ht : t < 14) :
    layIn N ss ps k (i + 1) t z = if t = t0 ∧ z = z0 then (prAt ps k).pts.getD i (0, 0) else layIn N ss ps k i t z := by
  by_cases e : t = t0 ∧ z = z0
  · obtain ⟨rfl, rfl⟩ := e
    rw [if_pos ⟨rfl, rfl⟩]
    unfold layIn
    rw [if_pos ⟨h0, by omega⟩, hs]
  · rw [if_neg e]
    unfold layIn
    by_cases hp : placeOf ss (prAt ps k).who z t = true
    · have hne : seenAt N ss (prAt ps k).who t z ≠ i := fun h => e (seen_inj hz ht hp hz0 ht0 h0 (h.trans hs.symm))
      by_cases hl : seenAt N ss (prAt ps k).who t z < i
      · rw [if_pos ⟨hp, by omega⟩, if_pos ⟨hp, hl⟩]
      · rw [if_neg (fun h => by omega), if_neg (fun h => hl h.2)]
    · rw [if_neg (fun h => hp h.1), if_neg (fun h => hp h.1)]
theorem layIn_full {N : Nat} {ss : List Sh} {ps : List Prt} {k : Nat} (t z : Nat) (hz : z < N) (ht : t < 14) : layIn N ss ps k (placesOfM N ss (prAt ps k).who).length t z = layTo N ss ps (k + 1) t z := by
  unfold layIn
  by_cases hp : placeOf ss (prAt ps k).who z t = true
  · rw [if_pos ⟨hp, seen_lt hz ht hp⟩]
    unfold placeOf at hp
    simp only [Bool.and_eq_true, decide_eq_true_eq, Bool.not_eq_true'] at hp
    unfold layTo
    rw [if_neg (by rw [hp.2.2]; decide), if_pos hp.1, partTo, if_pos hp.2.1.symm, hp.2.1]
  · rw [if_neg (fun h => hp h.1)]
    unfold layTo
    by_cases hpl : pilotM z t = true
    · rw [if_pos hpl, if_pos hpl]
    · rw [if_neg hpl, if_neg hpl]
      by_cases ho : 0 < (ownM ss z t).2
      · rw [if_pos ho, if_pos ho, partTo, if_neg ?_]
        intro e
        apply hp
        unfold placeOf
        rw [decide_eq_true ho, decide_eq_true e.symm, (Bool.not_eq_true _).mp hpl]
        rfl
      · rw [if_neg ho, if_neg ho]
def rowL (N : Nat) (F : Nat → Nat → Int × Int) (t : Nat) : List (Int × Int) := (List.range N).map fun z => F t z
theorem rowL_length (N : Nat) (F : Nat → Nat → Int × Int) (t : Nat) : (rowL N F t).length = N := by simp [rowL]
theorem rowL_at (N : Nat) (F : Nat → Nat → Int × Int) (t : Nat) {z : Nat} (hz : z < N) : (rowL N F t).getD z (0, 0) = F t z := by simp [rowL, List.getD, hz]
theorem rowL_ext {N : Nat} {F F' : Nat → Nat → Int × Int} {t : Nat} (h : ∀ z, z < N → F t z = F' t z) : rowL N F t = rowL N F' t := List.map_congr_left fun z hz => h z (List.mem_range.1 hz)
theorem rowL_set {N : Nat} {F F' : Nat → Nat → Int × Int} {t0 z0 : Nat} {p : Int × Int} (h : ∀ t z, z < N → t < 14 → F' t z = if t = t0 ∧ z = z0 then p else F t z) {t : Nat} (ht : t < 14) : (if t = t0 then (rowL N F t0).set z0 p else rowL N F t) = rowL N F' t := by
  by_cases e : t = t0
  · subst e
    rw [if_pos rfl]
    refine List.ext_getElem (by simp [rowL]) fun j h1 h2 => ?_
    have hj : j < N := by simpa [rowL] using h2
    rw [List.getElem_set]
    simp only [rowL, List.getElem_map, List.getElem_range]
    rw [h t j hj ht]
    by_cases ej : z0 = j
    · subst ej
      rw [if_pos rfl, if_pos ⟨rfl, rfl⟩]
    · rw [if_neg ej, if_neg (fun h => ej h.2.symm)]
  · rw [if_neg e]
    exact rowL_ext fun z hz => by rw [h t z hz ht, if_neg (fun h => e h.1)]
theorem bareTo_rowL (N : Nat) (ss : List Sh) (ps : List Prt) (t : Nat) : bareTo N t N = rowL N (layTo N ss ps 0) t := by
  refine List.ext_getElem (by simp [rowL, bareTo]) fun j h1 h2 => ?_
  have hj : j < N := by simpa [rowL] using h2
  simp only [rowL, bareTo, List.getElem_map, List.getElem_range]
  rw [layTo_zero, if_pos hj]
end Go.Proofs.Ytjpohfghibhkiad
