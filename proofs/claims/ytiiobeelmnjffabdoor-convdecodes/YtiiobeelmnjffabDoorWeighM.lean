import Derived.Test.YtiiobeelmnjffabDoorConvD
namespace Go.Proofs.YtiiobeelmnjffabDoor

theorem map_set_at {β : Type} (f g : Nat → β) (N S : Nat) (h : ∀ u, u ≠ S → f u = g u) (x : β) (hx : x = g S) : ((List.range N).map f).set S x = (List.range N).map g := by
  refine List.ext_getElem (by simp) fun j h1 h2 => ?_
  rw [List.getElem_set]
  simp only [List.getElem_map, List.getElem_range]
  by_cases hj : S = j
  · subst hj; rw [if_pos rfl, hx]
  · rw [if_neg hj, h j (fun e => hj e.symm)]

def bestL (l : List Int) (n k : Nat) : List Int := (List.range 64).map (val l n k)
theorem bestL_length (l : List Int) (n k : Nat) : (bestL l n k).length = 64 := by simp [bestL]
theorem bestL_at (l : List Int) (n k S : Nat) (h : S < 64) : (bestL l n k).getD S 0 = val l n k S := by simp [bestL, List.getD, h]
theorem bestL_zero (l : List Int) (n : Nat) : bestL l n 0 = List.replicate 64 0 := by
  refine List.ext_getElem (by simp [bestL]) fun j h1 h2 => ?_
  rw [List.getElem_replicate]
  simp [bestL, val]

def hereS (l : List Int) (n k S : Nat) : List Int := (List.range 64).map fun u => if u < S then val l n (k + 1) u else 0
theorem hereS_length (l : List Int) (n k S : Nat) : (hereS l n k S).length = 64 := by simp [hereS]
theorem hereS_zero (l : List Int) (n k : Nat) : hereS l n k 0 = List.replicate 64 0 := by
  refine List.ext_getElem (by simp [hereS]) fun j h1 h2 => ?_
  rw [List.getElem_replicate]
  simp [hereS]
theorem hereS_all (l : List Int) (n k : Nat) : hereS l n k 64 = bestL l n (k + 1) := by
  refine List.ext_getElem (by simp [hereS, bestL]) fun j h1 h2 => ?_
  have : j < 64 := by simpa [hereS] using h1
  simp [hereS, bestL, this]
theorem hereS_set (l : List Int) (n k S : Nat) (x : Int) (hx : x = val l n (k + 1) S) : (hereS l n k S).set S x = hereS l n k (S + 1) := by
  refine map_set_at _ _ 64 S (fun u hu => ?_) x (by rw [if_pos (by omega), hx])
  by_cases h : u < S
  · rw [if_pos h, if_pos (by omega)]
  · rw [if_neg h, if_neg (by omega)]

def onesK (l : List Int) (n m : Nat) : List Int := (List.range n).map fun j => if m ≤ j then (marks l n (n + 5 - j) 64 : Int) else 0
theorem onesK_length (l : List Int) (n m : Nat) : (onesK l n m).length = n := by simp [onesK]
theorem onesK_first (l : List Int) (n m : Nat) (h : n ≤ m) : onesK l n m = List.replicate n 0 := by
  refine List.ext_getElem (by simp [onesK]) fun j h1 h2 => ?_
  have : j < n := by simpa [onesK] using h1
  simp [onesK, show ¬ m ≤ j by omega]
theorem onesK_at (l : List Int) (n j : Nat) (h : j < n) : (onesK l n 0).getD j 0 = (marks l n (n + 5 - j) 64 : Int) := by simp [onesK, List.getD, h]
/-- The marks, those of the place i being made. -/
def onesS (l : List Int) (n i S : Nat) : List Int := (onesK l n (i + 1)).set i (marks l n (n + 5 - i) S : Int)
theorem onesS_length (l : List Int) (n i S : Nat) : (onesS l n i S).length = n := by simp [onesS, onesK_length]
theorem onesS_zero (l : List Int) (n i : Nat) : onesS l n i 0 = onesK l n (i + 1) := by
  refine List.ext_getElem (by simp [onesS]) fun j h1 h2 => ?_
  simp only [onesS, List.getElem_set, onesK, List.getElem_map, List.getElem_range]
  split
  · rename_i e; subst e; rw [if_neg (by omega)]; rfl
  · rfl
theorem onesS_all (l : List Int) (n i : Nat) : onesS l n i 64 = onesK l n i := by
  refine map_set_at _ _ n i (fun u hu => ?_) _ (by rw [if_pos (Nat.le_refl _)])
  by_cases h : i ≤ u
  · rw [if_pos h, if_pos (by omega)]
  · rw [if_neg h, if_neg (by omega)]
theorem onesS_late (l : List Int) (n i S S' : Nat) (h : n ≤ i) : onesS l n i S = onesS l n i S' := by
  unfold onesS
  rw [List.set_eq_of_length_le (by rw [onesK_length]; exact h), List.set_eq_of_length_le (by rw [onesK_length]; exact h)]
theorem onesS_at (l : List Int) (n i S : Nat) (h : i < n) : (onesS l n i S).getD i 0 = (marks l n (n + 5 - i) S : Int) := by
  simp [onesS, List.getD, onesK_length, h]
theorem onesS_set (l : List Int) (n i S : Nat) (x : Int) (hx : x = (marks l n (n + 5 - i) (S + 1) : Int)) : (onesS l n i S).set i x = onesS l n i (S + 1) := by
  unfold onesS
  rw [List.set_set, hx]
theorem onesS_same (l : List Int) (n i S : Nat) (h : one l n (n + 5 - i) S = false) : onesS l n i (S + 1) = onesS l n i S := by
  unfold onesS
  rw [marks, h]
  simp

theorem gw_bd (l : List Int) (h : ∀ k, -100000 ≤ l.getD k 0 ∧ l.getD k 0 ≤ 100000) (i : Nat) (w : Int) : -300000 ≤ gw l i w ∧ gw l i w ≤ 300000 := by
  have h0 := h (3 * i)
  have h1 := h (3 * i + 1)
  have h2 := h (3 * i + 2)
  unfold gw sgn
  split <;> split <;> split <;> omega
theorem val_bd (l : List Int) (n : Nat) (h : ∀ k, -100000 ≤ l.getD k 0 ∧ l.getD k 0 ≤ 100000) : ∀ (k S : Nat), -(300000 * (k : Int)) ≤ val l n k S ∧ val l n k S ≤ 300000 * (k : Int)
  | 0, S => by simp [val]
  | k + 1, S => by
    have a := val_bd l n h k (2 * S % 64)
    have b := val_bd l n h k (2 * S % 64 + 1)
    have c := gw_bd l h (n + 6 - (k + 1)) (wordI (2 * (S : Int)))
    have d := gw_bd l h (n + 6 - (k + 1)) (7 - wordI (2 * (S : Int)))
    rw [val]
    split
    · omega
    · split <;> omega
/-- One step, at the place i. -/
theorem val_step (l : List Int) (n i k S : Nat) (hi : i + (k + 1) = n + 6) :
    val l n (k + 1) S = if k < 6 then gw l i (wordI (2 * (S : Int))) + val l n k (2 * S % 64) else
      if gw l i (wordI (2 * (S : Int))) + val l n k (2 * S % 64) < gw l i (7 - wordI (2 * (S : Int))) + val l n k (2 * S % 64 + 1) then gw l i (7 - wordI (2 * (S : Int))) + val l n k (2 * S % 64 + 1) else gw l i (wordI (2 * (S : Int))) + val l n k (2 * S % 64) := by
  rw [val, show n + 6 - (k + 1) = i by omega]
theorem one_step (l : List Int) (n i k S : Nat) (hi : i + (k + 1) = n + 6) : one l n k S = decide (gw l i (wordI (2 * (S : Int))) + val l n k (2 * S % 64) < gw l i (7 - wordI (2 * (S : Int))) + val l n k (2 * S % 64 + 1)) := by
  unfold one
  rw [show n + 6 - (k + 1) = i by omega]
end Go.Proofs.YtiiobeelmnjffabDoor
