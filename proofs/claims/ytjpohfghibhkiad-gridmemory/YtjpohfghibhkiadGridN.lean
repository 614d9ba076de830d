import Derived.Test.YtjpohfghibhkiadGridZ
import Derived.Test.YtjpohfghibhkiadGridV
namespace Go.Proofs.Ytjpohfghibhkiad

/-! GridOnce's lists: what each is sent, which places are somebody's. -/

def fillM (xs : List (Int × Int)) (who n : Nat) : List (Int × Int) := (List.range n).map fun (j : Nat) => if xs = [] then ((who : Int), (j : Int)) else xs.getD (j % xs.length) (0, 0)
theorem fillM_length (xs : List (Int × Int)) (who n : Nat) : (fillM xs who n).length = n := by simp [fillM]
theorem fillM_succ (xs : List (Int × Int)) (who n : Nat) : fillM xs who (n + 1) = fillM xs who n ++ [if xs = [] then ((who : Int), (n : Int)) else xs.getD (n % xs.length) (0, 0)] := by
  unfold fillM
  rw [List.range_succ, List.map_append]
  rfl
def oncePart (N : Nat) (ss : List Sh) (xs : List (Int × Int)) (i : Nat) : Prt := ⟨((i + 1 : Nat) : Int), fillM xs (i + 1) (placesOfM N ss ((i + 1 : Nat) : Int)).length⟩
def onceParts (N : Nat) (ss : List Sh) (xs : List (Int × Int)) (k : Nat) : List Prt := (List.range k).map (oncePart N ss xs)
def seenAll (N : Nat) (ss : List Sh) (k : Nat) : List (Int × Int) := (List.range k).flatMap fun i => placesOfM N ss ((i + 1 : Nat) : Int)
theorem onceParts_length (N : Nat) (ss : List Sh) (xs : List (Int × Int)) (k : Nat) : (onceParts N ss xs k).length = k := by simp [onceParts]
theorem onceParts_at (N : Nat) (ss : List Sh) (xs : List (Int × Int)) {k i : Nat} (hi : i < k) : prAt (onceParts N ss xs k) i = oncePart N ss xs i := by simp [prAt, onceParts, List.getD, hi]
theorem seenAll_succ (N : Nat) (ss : List Sh) (k : Nat) : seenAll N ss (k + 1) = seenAll N ss k ++ placesOfM N ss ((k + 1 : Nat) : Int) := by
  unfold seenAll
  rw [List.range_succ, List.flatMap_append]
  simp
theorem seenAll_length (N : Nat) (ss : List Sh) : ∀ k, (seenAll N ss k).length ≤ k * (14 * N)
  | 0 => by simp [seenAll]
  | k + 1 => by
    have h1 := seenAll_length N ss k
    have h2 := placesTo_length N ss ((k + 1 : Nat) : Int) 14
    rw [seenAll_succ, List.length_append, Nat.add_mul]
    unfold placesOfM
    omega
theorem mem_at {ps : List (Int × Int)} {p : Int × Int} (h : p ∈ ps) : ∃ j, j < ps.length ∧ ps.getD j (0, 0) = p := by
  obtain ⟨j, hj, e⟩ := List.getElem_of_mem h
  exact ⟨j, hj, by simp [List.getD, hj, e]⟩
theorem once_fresh {N : Nat} {ss : List Sh} {k j : Nat} (hj : j < (placesOfM N ss ((k + 1 : Nat) : Int)).length) : (placesOfM N ss ((k + 1 : Nat) : Int)).getD j (0, 0) ∉ seenAll N ss k ++ (placesOfM N ss ((k + 1 : Nat) : Int)).take j := by
  intro h
  rcases List.mem_append.1 h with h | h
  · unfold seenAll at h
    obtain ⟨i, hi, hm⟩ := List.mem_flatMap.1 h
    obtain ⟨j', hj', e⟩ := mem_at hm
    have := (places_inj hj hj' e.symm).1
    have hik := List.mem_range.1 hi
    omega
  · obtain ⟨j', hj', e⟩ := mem_at h
    rw [List.length_take] at hj'
    have e2 : ((placesOfM N ss ((k + 1 : Nat) : Int)).take j).getD j' (0, 0) = (placesOfM N ss ((k + 1 : Nat) : Int)).getD j' (0, 0) := by
      simp only [List.getD]
      rw [List.getElem?_take_of_lt (by omega)]
    rw [e2] at e
    have := (places_inj hj (by omega) e.symm).2
    omega
theorem places_wf {N : Nat} {ss : List Sh} {who : Int} {j : Nat} (hN : N ≤ 144) (hj : j < (placesOfM N ss who).length) : WfP ((placesOfM N ss who).getD j (0, 0)) := by
  obtain ⟨z, t, g1, g2, g3, g4, g5⟩ := places_at N ss who 14 j hj
  unfold placesOfM
  rw [g4]
  exact ⟨WalkArith.wf_i64 (by simp; omega), WalkArith.wf_i64 (by simp; omega)⟩
theorem ownTo_pos {ss : List Sh} {tone t : Int} {i : Nat} (h : hasM (shAt ss i) tone t = true) : ∀ k, i < k → 0 < (ownTo ss tone t k).2
  | 0, hk => by omega
  | k + 1, hk => by
    rw [ownTo]
    by_cases e : i = k
    · subst e
      rw [if_pos h]
      simp
    · have := ownTo_pos h k (by omega)
      split
      · simp
      · exact this
theorem ownTo_one {B : Int} {ss : List Sh} {tone t : Int} (hok : ∀ i, i < ss.length → shOk B (shAt ss i) = true) : ∀ k, k ≤ ss.length → 0 < (ownTo ss tone t k).2 → 1 ≤ (ownTo ss tone t k).1 ∧ (ownTo ss tone t k).1 ≤ 16
  | 0, _, h => by simp [ownTo] at h
  | k + 1, hk, h => by
    have h1 := of_decide_eq_true (hok k (by omega))
    rw [ownTo] at h ⊢
    split
    · simp; omega
    · rename_i hn
      rw [if_neg hn] at h
      exact ownTo_one hok k (by omega) h
theorem once_some {B : Int} {N : Nat} {ss : List Sh} (hN : (N : Int) = 12 * B) (hne : 0 < ss.length) (hok : ∀ i, i < ss.length → shOk B (shAt ss i) = true) : 0 < (seenAll N ss 16).length := by
  have h1 := of_decide_eq_true (hok 0 hne)
  obtain ⟨z, hz⟩ : ∃ z : Nat, (z : Int) = 12 * (shAt ss 0).fr + 1 := ⟨(12 * (shAt ss 0).fr + 1).toNat, by omega⟩
  obtain ⟨t, ht⟩ : ∃ t : Nat, (t : Int) = (shAt ss 0).bg := ⟨(shAt ss 0).bg.toNat, by omega⟩
  have hh : hasM (shAt ss 0) (z : Int) (t : Int) = true := decide_eq_true (by omega)
  have hp : 0 < (ownM ss (z : Int) (t : Int)).2 := ownTo_pos hh ss.length hne
  have hw := ownTo_one (tone := (z : Int)) (t := (t : Int)) hok ss.length (Nat.le_refl _) hp
  obtain ⟨i, hi⟩ : ∃ i : Nat, ((i + 1 : Nat) : Int) = (ownM ss (z : Int) (t : Int)).1 := ⟨((ownM ss (z : Int) (t : Int)).1 - 1).toNat, by unfold ownM; omega⟩
  have hi16 : i < 16 := by unfold ownM at hi; omega
  have hpl : placeOf ss ((i + 1 : Nat) : Int) (z : Int) (t : Int) = true := by
    have hnp : pilotM (z : Int) (t : Int) = false := decide_eq_false (by omega)
    unfold placeOf
    rw [hnp, hi]
    simp [hp]
  have hs := seen_lt (N := N) (show z < N by omega) (show t < 14 by omega) hpl
  have hm : (placesOfM N ss ((i + 1 : Nat) : Int)).getD 0 (0, 0) ∈ seenAll N ss 16 := by
    unfold seenAll
    refine List.mem_flatMap.2 ⟨i, List.mem_range.2 hi16, ?_⟩
    have h0 : 0 < (placesOfM N ss ((i + 1 : Nat) : Int)).length := by omega
    simp only [List.getD, List.getElem?_eq_getElem h0, Option.getD_some]
    exact List.getElem_mem h0
  exact List.length_pos_of_mem hm
theorem once_nodups (N : Nat) (ss : List Sh) (xs : List (Int × Int)) (k : Nat) : NoDups (onceParts N ss xs k) k := by
  intro i hi j hj
  rw [onceParts_at N ss xs hi, onceParts_at N ss xs (show j < k by omega)]
  simp only [oncePart]
  omega
theorem once_lens (N : Nat) (ss : List Sh) (xs : List (Int × Int)) {k i : Nat} (hi : i < k) : (prAt (onceParts N ss xs k) i).pts.length = (placesOfM N ss (prAt (onceParts N ss xs k) i).who).length := by
  rw [onceParts_at N ss xs hi]
  simp only [oncePart, fillM_length]
end Go.Proofs.Ytjpohfghibhkiad
