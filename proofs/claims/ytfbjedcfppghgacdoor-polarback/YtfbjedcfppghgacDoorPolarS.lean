import Derived.Test.YtfbjedcfppghgacDoorPolarD
namespace Go.Proofs.YtfbjedcfppghgacDoor

/-! A PLACE'S SIGHT by the bits that were found ahead of it, and that decoding by halves finds each bit by it. -/

def sightM : Nat → List Int → List Int → Int
  | 0, l, _ => l.getD 0 0
  | m + 1, l, f => if f.length < 2 ^ m then sightM m (fL (l.take (2 ^ m)) (l.drop (2 ^ m))) f else sightM m (gL (turnM m (f.take (2 ^ m))) (l.take (2 ^ m)) (l.drop (2 ^ m))) (f.drop (2 ^ m))

theorem decP_length : ∀ (m : Nat) (l : List Int) (o : List Bool), (decP m l o).length = 2 ^ m
  | 0, _, _ => rfl
  | m + 1, l, o => by
    rw [decP, List.length_append, decP_length m, decP_length m, Nat.pow_succ]
    omega
theorem decP_bits : ∀ (m : Nat) (l : List Int) (o : List Bool), AllBits (decP m l o)
  | 0, l, o => fun x hx => by
    simp only [decP, List.mem_singleton] at hx
    subst hx
    split <;> omega
  | m + 1, l, o => fun x hx => by
    rw [decP] at hx
    rcases List.mem_append.1 hx with h | h
    · exact decP_bits m _ _ x h
    · exact decP_bits m _ _ x h

theorem decP_sight : ∀ (m : Nat) (l : List Int) (o : List Bool) (i : Nat), i < 2 ^ m →
    (decP m l o).getD i 0 = if o.getD i false && decide (sightM m l ((decP m l o).take i) < 0) then 1 else 0
  | 0, l, o, i, h => by
    obtain rfl : i = 0 := by simp at h; exact h
    rfl
  | m + 1, l, o, i, h => by
    have h2 : (2 : Nat) ^ (m + 1) = 2 ^ m + 2 ^ m := by rw [Nat.pow_succ]; omega
    rw [decP]
    generalize hu : decP m (fL (l.take (2 ^ m)) (l.drop (2 ^ m))) (o.take (2 ^ m)) = u
    generalize hv : decP m (gL (turnM m u) (l.take (2 ^ m)) (l.drop (2 ^ m))) (o.drop (2 ^ m)) = v
    have lu : u.length = 2 ^ m := by rw [← hu]; exact decP_length m _ _
    by_cases hi : i < 2 ^ m
    · have ih := decP_sight m (fL (l.take (2 ^ m)) (l.drop (2 ^ m))) (o.take (2 ^ m)) i hi
      rw [hu] at ih
      have e1 : (u ++ v).getD i 0 = u.getD i 0 := by simp [List.getD, List.getElem?_append_left (show i < u.length by omega)]
      have e2 : (u ++ v).take i = u.take i := List.take_append_of_le_length (by omega)
      have e3 : (o.take (2 ^ m)).getD i false = o.getD i false := by simp [List.getD, hi]
      have e4 : (u.take i).length < 2 ^ m := by simp; omega
      rw [e1, e2, ih, e3, sightM, if_pos e4]
    · obtain ⟨j, rfl⟩ : ∃ j, i = 2 ^ m + j := ⟨i - 2 ^ m, by omega⟩
      have ih := decP_sight m (gL (turnM m u) (l.take (2 ^ m)) (l.drop (2 ^ m))) (o.drop (2 ^ m)) j (by omega)
      rw [hv] at ih
      have e1 : (u ++ v).getD (2 ^ m + j) 0 = v.getD j 0 := by rw [← lu]; simp only [List.getD]; rw [List.getElem?_append_right (by omega), Nat.add_sub_cancel_left]
      have e2 : (u ++ v).take (2 ^ m + j) = u ++ v.take j := by rw [← lu, List.take_append, List.take_of_length_le (by omega), Nat.add_sub_cancel_left]
      have e3 : (o.drop (2 ^ m)).getD j false = o.getD (2 ^ m + j) false := by simp [List.getD]
      have e4 : ¬ (u ++ v.take j).length < 2 ^ m := by rw [List.length_append]; omega
      rw [e1, e2, ih, e3, sightM, if_neg e4, List.take_left' lu, List.drop_left' lu]
end Go.Proofs.YtfbjedcfppghgacDoor
