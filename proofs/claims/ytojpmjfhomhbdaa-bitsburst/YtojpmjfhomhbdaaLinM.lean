import Derived.Test.YtojpmjfhomhbdaaSumM
import Derived.Test.YtojpmjfhomhbdaaNoiseM
import Derived.Test.YtojpmjfhomhbdaaAdded
namespace Go.Proofs.Ytojpmjfhomhbdaa

theorem addTo_getD (xs ys : List Int) (n k : Nat) (h : k < n) : (addTo xs ys n).getD k 0 = (xs.getD k 0 + ys.getD k 0) % 2 := by simp [addTo, List.getD, h]
theorem addTo_getD_out (xs ys : List Int) (n k : Nat) (h : n ≤ k) : (addTo xs ys n).getD k 0 = 0 := by simp [addTo, List.getD, h]

theorem addTo_bits (xs ys : List Int) (n : Nat) : Bits (addTo xs ys n) := fun k => by
  by_cases h : k < n
  · rw [addTo_getD _ _ _ _ h]; omega
  · rw [addTo_getD_out _ _ _ _ (by omega)]; omega

/-- The division is linear. -/
theorem step_xor {W P : Nat} (hD : Div W P) (r r' x x' y : Nat) (hx : x ≤ 1) (hx' : x' ≤ 1) (hy : y = (x + x') % 2) : step W P (r ^^^ r') y = step W P r x ^^^ step W P r' x' := by
  apply Nat.eq_of_testBit_eq
  intro p
  have hy1 : y ≤ 1 := by omega
  have hd : decide (y = 1) = (decide (x = 1) ^^ decide (x' = 1)) := by
    rcases (show x = 0 ∨ x = 1 by omega) with rfl | rfl <;> rcases (show x' = 0 ∨ x' = 1 by omega) with rfl | rfl <;> subst hy <;> rfl
  rw [Nat.testBit_xor, step_bit hD _ _ p hy1, step_bit hD _ _ p hx, step_bit hD _ _ p hx', fed_bit _ _ _ _ hy1, fed_bit _ _ _ _ hx, fed_bit _ _ _ _ hx']
  unfold topBit
  rw [hd, Nat.testBit_xor, Nat.testBit_xor]
  generalize decide (0 < p) = a1
  generalize r.testBit (p - 1) = a2
  generalize r'.testBit (p - 1) = a3
  generalize decide (p = W) = a4
  generalize decide (x = 1) = a5
  generalize decide (x' = 1) = a6
  generalize r.testBit (W - 1) = a7
  generalize r'.testBit (W - 1) = a8
  generalize P.testBit p = a9
  revert a1 a2 a3 a4 a5 a6 a7 a8 a9
  decide

theorem crc_add {W P : Nat} (hD : Div W P) {xs ys : List Int} (hx : Bits xs) (hy : Bits ys) (n : Nat) (h1 : xs.length = n) (h2 : ys.length = n) : ∀ k, k ≤ n → crc W P ((addTo xs ys n).take k) = crc W P (xs.take k) ^^^ crc W P (ys.take k)
  | 0, _ => by simp [crc]
  | k + 1, hk => by
    have bx := hx k
    have by' := hy k
    rw [crc_take W P _ k (by rw [addTo_length]; omega), crc_take W P xs k (by omega), crc_take W P ys k (by omega), crc_add hD hx hy n h1 h2 k (by omega), addTo_getD _ _ _ _ (by omega)]
    exact step_xor hD _ _ _ _ _ (by omega) (by omega) (by omega)

theorem sum_add {W P : Nat} (hD : Div W P) {xs ys : List Int} (hx : Bits xs) (hy : Bits ys) (n : Nat) (h1 : xs.length = n) (h2 : ys.length = n) : sumL W P (addTo xs ys n) = addTo (sumL W P xs) (sumL W P ys) W := by
  have hc := crc_add hD hx hy n h1 h2 n (Nat.le_refl _)
  rw [List.take_of_length_le (by rw [addTo_length]; exact Nat.le_refl _), List.take_of_length_le (by omega), List.take_of_length_le (by omega)] at hc
  unfold sumL
  refine List.ext_getElem (by simp [sumTo, addTo]) fun j h1 h2 => ?_
  have hj : j < W := by simpa [addTo] using h2
  have e1 : (sumTo W P xs W).getD j 0 = b2i ((crc W P xs).testBit (W - 1 - j)) := by simp [sumTo, List.getD, hj]
  have e2 : (sumTo W P ys W).getD j 0 = b2i ((crc W P ys).testBit (W - 1 - j)) := by simp [sumTo, List.getD, hj]
  simp only [addTo, List.getElem_map, List.getElem_range]
  rw [e1, e2, add_mod]
  simp only [sumTo, List.getElem_map, List.getElem_range]
  rw [show (List.map (fun i => (xs.getD i 0 + ys.getD i 0) % 2) (List.range n)) = addTo xs ys n from rfl, hc, Nat.testBit_xor]

/-- What is covered twice is as it was. -/
theorem add_twice {xs ns : List Int} (hx : Bits xs) (hn : Bits ns) (n : Nat) (h : xs.length = n) : addTo (addTo xs ns n) ns n = xs := by
  refine List.ext_getElem (by simp [addTo, h]) fun j h1 h2 => ?_
  have hj : j < n := by omega
  have e1 := addTo_getD xs ns n j hj
  have bx := hx j
  have bn := hn j
  have e3 : xs.getD j 0 = xs[j] := by simp [List.getD, h2]
  have e4 : (addTo (addTo xs ns n) ns n)[j] = ((addTo xs ns n).getD j 0 + ns.getD j 0) % 2 := by simp [addTo, hj]
  rw [e4, e1, ← e3]
  omega

end Go.Proofs.Ytojpmjfhomhbdaa
