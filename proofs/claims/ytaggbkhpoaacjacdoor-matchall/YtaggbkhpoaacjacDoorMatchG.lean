import Derived.Test.YtaggbkhpoaacjacDoorMatchP
namespace Go.Proofs.YtaggbkhpoaacjacDoor

/-! WHAT A BUFFER GATHERS, as mathematics. -/

/-- The first k of xs added at the places ps. -/
def gathTo (s : List Int) (ps : List Nat) (xs : List Int) : Nat → List Int
  | 0 => s
  | k + 1 => (gathTo s ps xs k).set (ps.getD k 0) ((gathTo s ps xs k).getD (ps.getD k 0) 0 + xs.getD k 0)
/-- What comes to the place j by the first k. -/
def comesTo (ps : List Nat) (xs : List Int) (j : Nat) : Nat → Int
  | 0 => 0
  | k + 1 => comesTo ps xs j k + if ps.getD k 0 = j then xs.getD k 0 else 0

theorem gathTo_length (s : List Int) (ps : List Nat) (xs : List Int) (k : Nat) : (gathTo s ps xs k).length = s.length := by
  induction k with
  | zero => rfl
  | succ k ih => rw [gathTo, List.length_set, ih]
theorem gathTo_at (s : List Int) (ps : List Nat) (xs : List Int) (k : Nat) {j : Nat} (hj : j < s.length) : (gathTo s ps xs k).getD j 0 = s.getD j 0 + comesTo ps xs j k := by
  induction k with
  | zero => simp [gathTo, comesTo]
  | succ k ih =>
    rw [gathTo, comesTo, ← Int.add_assoc, ← ih]
    have hl : j < (gathTo s ps xs k).length := by rw [gathTo_length]; exact hj
    by_cases e : ps.getD k 0 = j
    · rw [if_pos e, e]
      simp [List.getD, hl]
    · rw [if_neg e, Int.add_zero]
      simp only [List.getD] at e ⊢
      rw [List.getElem?_set_ne e]
theorem comesTo_bd (ps : List Nat) (xs : List Int) (j : Nat) {M : Int} (hM : 0 ≤ M) (h : ∀ k, -M ≤ xs.getD k 0 ∧ xs.getD k 0 ≤ M) (k : Nat) : -(M * k) ≤ comesTo ps xs j k ∧ comesTo ps xs j k ≤ M * k := by
  induction k with
  | zero => simp [comesTo]
  | succ k ih =>
    rw [comesTo]
    have hk := h k
    have e : M * ((k + 1 : Nat) : Int) = M * k + M := by rw [Int.natCast_add, Int.mul_add]; simp
    rw [e]
    split <;> omega
/-- No other sign. -/
theorem comesTo_pos (ps : List Nat) (xs : List Int) (j k : Nat) (h : ∀ i, i < k → ps.getD i 0 = j → 0 ≤ xs.getD i 0) : 0 ≤ comesTo ps xs j k := by
  induction k with
  | zero => simp [comesTo]
  | succ k ih =>
    rw [comesTo]
    have h1 := ih fun i hi e => h i (by omega) e
    split
    · have := h k (by omega) (by assumption)
      omega
    · omega
theorem comesTo_neg (ps : List Nat) (xs : List Int) (j k : Nat) (h : ∀ i, i < k → ps.getD i 0 = j → xs.getD i 0 ≤ 0) : comesTo ps xs j k ≤ 0 := by
  induction k with
  | zero => simp [comesTo]
  | succ k ih =>
    rw [comesTo]
    have h1 := ih fun i hi e => h i (by omega) e
    split
    · have := h k (by omega) (by assumption)
      omega
    · omega

/-- The order of adding makes no difference. -/
def sumTo (f : Nat → Int) : Nat → Int
  | 0 => 0
  | k + 1 => sumTo f k + f k
theorem sumTo_first (f : Nat → Int) (k : Nat) : sumTo f (k + 1) = f 0 + sumTo (fun i => f (i + 1)) k := by
  induction k with
  | zero => simp [sumTo]
  | succ k ih => rw [sumTo, ih, sumTo]; omega
theorem sumTo_congr {f g : Nat → Int} (k : Nat) (h : ∀ i, i < k → f i = g i) : sumTo f k = sumTo g k := by
  induction k with
  | zero => rfl
  | succ k ih => rw [sumTo, sumTo, ih fun i hi => h i (by omega), h k (by omega)]
theorem sumTo_turned (f : Nat → Int) (k : Nat) : sumTo (fun i => f (k - 1 - i)) k = sumTo f k := by
  induction k with
  | zero => rfl
  | succ k ih =>
    rw [sumTo_first, sumTo, ← ih]
    have e : sumTo (fun i => f (k + 1 - 1 - (i + 1))) k = sumTo (fun i => f (k - 1 - i)) k := sumTo_congr k fun i hi => by rw [show k + 1 - 1 - (i + 1) = k - 1 - i by omega]
    rw [e, show k + 1 - 1 - 0 = k by omega]
    omega
theorem sumTo_bd (f : Nat → Int) {M : Int} (h : ∀ i, -M ≤ f i ∧ f i ≤ M) (k : Nat) : -(M * k) ≤ sumTo f k ∧ sumTo f k ≤ M * k := by
  induction k with
  | zero => simp [sumTo]
  | succ k ih =>
    rw [sumTo]
    have hk := h k
    have e : M * ((k + 1 : Nat) : Int) = M * k + M := by rw [Int.natCast_add, Int.mul_add]; simp
    rw [e]
    omega
theorem sumTo_pos (f : Nat → Int) (k : Nat) (h : ∀ i, i < k → 0 ≤ f i) : 0 ≤ sumTo f k := by
  induction k with
  | zero => simp [sumTo]
  | succ k ih => rw [sumTo]; have := ih fun i hi => h i (by omega); have := h k (by omega); omega
theorem sumTo_neg (f : Nat → Int) (k : Nat) (h : ∀ i, i < k → f i ≤ 0) : sumTo f k ≤ 0 := by
  induction k with
  | zero => simp [sumTo]
  | succ k ih => rw [sumTo]; have := ih fun i hi => h i (by omega); have := h k (by omega); omega
end Go.Proofs.YtaggbkhpoaacjacDoor
