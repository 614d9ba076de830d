import Derived.Test.YtbmdjfolfmgmmagSumM
namespace Go.Proofs.Ytbmdjfolfmgmmag

/-! LONG DIVISION, as a list of bits goes through it, against the register. -/

def zb (zs : List Int) (j : Nat) : Bool := decide (zs.getD j 0 = 1)
/-- What stands at place j when i places are divided out. -/
def cellB (W P : Nat) (zs : List Int) (i j : Nat) : Bool := if j < i then false else (zb zs j ^^ (decide (j < i + W) && (crc W P (zs.take i)).testBit (W - 1 - (j - i))))

theorem zb_bit {zs : List Int} (h : Bits zs) (j : Nat) : decide ((zs.getD j 0).toNat = 1) = zb zs j := by
  have := h j
  unfold zb
  rw [decide_eq_decide]
  omega

theorem b2i_zb {zs : List Int} (h : Bits zs) (j : Nat) : b2i (zb zs j) = zs.getD j 0 := by
  have := h j
  unfold zb b2i
  by_cases e : zs.getD j 0 = 1
  · rw [e]; rfl
  · have e0 : zs.getD j 0 = 0 := by omega
    rw [e0]; rfl

theorem cell_top {W P : Nat} (hD : Div W P) {zs : List Int} (h : Bits zs) (i : Nat) : cellB W P zs i i = topBit W (crc W P (zs.take i)) (zs.getD i 0).toNat := by
  have hW := hD.pos
  unfold cellB topBit
  rw [if_neg (Nat.lt_irrefl _), zb_bit h i, Nat.sub_self]
  have : decide (i < i + W) = true := by simp; omega
  rw [this, Bool.true_and, Bool.xor_comm]
  rfl

theorem cell_step {W P : Nat} (hD : Div W P) {zs : List Int} (h : Bits zs) {i : Nat} (hi : i < zs.length) (j : Nat) :
    cellB W P zs (i + 1) j = (cellB W P zs i j ^^ (decide (i ≤ j ∧ j ≤ i + W) && (cellB W P zs i i && P.testBit (W - (j - i))))) := by
  have hW := hD.pos
  have hx : (zs.getD i 0).toNat ≤ 1 := by have := h i; omega
  have ht := cell_top hD h i
  have hc : ∀ p, (crc W P (zs.take (i + 1))).testBit p = (((decide (0 < p) && (crc W P (zs.take i)).testBit (p - 1)) ^^ (decide (p = W) && decide ((zs.getD i 0).toNat = 1))) ^^ (cellB W P zs i i && P.testBit p)) := fun p => by
    rw [crc_take W P zs i hi, step_bit hD _ _ p hx, fed_bit _ _ _ p hx, ← ht]
  generalize htt : cellB W P zs i i = t at *
  by_cases h1 : j < i
  · have e1 : decide (i ≤ j ∧ j ≤ i + W) = false := by simp; omega
    rw [e1]
    unfold cellB
    rw [if_pos (by omega), if_pos h1]
    rfl
  · by_cases h2 : j = i
    · subst h2
      have e1 : decide (j ≤ j ∧ j ≤ j + W) = true := by simp
      rw [e1, Nat.sub_self, Nat.sub_zero, hD.top, htt]
      unfold cellB
      rw [if_pos (by omega)]
      cases t <;> rfl
    · have hji : i < j := by omega
      by_cases h3 : j ≤ i + W
      · have e1 : decide (i ≤ j ∧ j ≤ i + W) = true := by simp; omega
        rw [e1, Bool.true_and]
        unfold cellB
        rw [if_neg (by omega), if_neg h1]
        have e2 : decide (j < i + 1 + W) = true := by simp; omega
        rw [e2, Bool.true_and, show W - 1 - (j - (i + 1)) = W - (j - i) from by omega, hc]
        by_cases h4 : j = i + W
        · subst h4
          have e3 : decide (i + W < i + W) = false := by simp
          rw [e3, show W - (i + W - i) = 0 from by omega]
          have e4 : decide (0 = W) = false := by simp; omega
          rw [e4]
          simp
        · have e3 : decide (j < i + W) = true := by simp; omega
          have e5 : decide (0 < W - (j - i)) = true := by simp; omega
          have e6 : decide (W - (j - i) = W) = false := by simp; omega
          rw [e3, e5, e6, show W - (j - i) - 1 = W - 1 - (j - i) from by omega]
          simp
      · have e1 : decide (i ≤ j ∧ j ≤ i + W) = false := by simp; omega
        rw [e1, Bool.false_and, Bool.xor_false]
        unfold cellB
        rw [if_neg (by omega), if_neg h1]
        have e2 : decide (j < i + 1 + W) = false := by simp; omega
        have e3 : decide (j < i + W) = false := by simp; omega
        rw [e2, e3]
        rfl

/-- The row when i places are divided out. -/
def lrow (W P : Nat) (zs : List Int) (i : Nat) : List Int := (List.range (zs.length + W)).map fun j => b2i (cellB W P zs i j)
/-- Is place j among those that the first m places of the divisor turn? -/
def turned (W : Nat) (D : List Int) (i m j : Nat) : Bool := (D.take m).any fun d => decide ((i : Int) + W - d = j)
def mrow (W P : Nat) (D : List Int) (zs : List Int) (i m : Nat) : List Int := (List.range (zs.length + W)).map fun j => b2i (cellB W P zs i j ^^ turned W D i m j)

theorem lrow_length (W P : Nat) (zs : List Int) (i : Nat) : (lrow W P zs i).length = zs.length + W := by simp [lrow]
theorem mrow_length (W P : Nat) (D zs : List Int) (i m : Nat) : (mrow W P D zs i m).length = zs.length + W := by simp [mrow]
theorem mrow_zero (W P : Nat) (D zs : List Int) (i : Nat) : mrow W P D zs i 0 = lrow W P zs i := by simp [mrow, lrow, turned]
theorem lrow_getD (W P : Nat) (zs : List Int) (i j : Nat) (h : j < zs.length + W) : (lrow W P zs i).getD j 0 = b2i (cellB W P zs i j) := by simp [lrow, List.getD, h]
theorem mrow_getD (W P : Nat) (D zs : List Int) (i m j : Nat) (h : j < zs.length + W) : (mrow W P D zs i m).getD j 0 = b2i (cellB W P zs i j ^^ turned W D i m j) := by simp [mrow, List.getD, h]

/-- The places of a divisor, as a list. -/
structure Places' (W P : Nat) (D : List Int) : Prop where
  bd : ∀ d ∈ D, 0 ≤ d ∧ d ≤ (W : Int)
  once : ∀ m, m < D.length → (D.take m).any (fun d => decide (d = D.getD m 0)) = false
  all : ∀ p, p ≤ W → P.testBit p = D.any fun d => decide (d = (p : Int))

theorem turned_succ (W : Nat) (D : List Int) (i m j : Nat) (hm : m < D.length) : turned W D i (m + 1) j = (turned W D i m j || decide ((i : Int) + W - D.getD m 0 = j)) := by
  unfold turned
  rw [List.take_succ_eq_append_getElem hm, List.any_append]
  simp [List.getD, hm]

theorem turned_not {W P : Nat} {D : List Int} (hP : Places' W P D) (i m : Nat) (hm : m < D.length) (j : Nat) (hj : (j : Int) = (i : Int) + W - D.getD m 0) : turned W D i m j = false := by
  have := hP.once m hm
  unfold turned
  rw [List.any_eq_false] at this ⊢
  intro d hd
  have h := this d hd
  simp only [decide_eq_true_eq] at h ⊢
  rw [hj]
  omega

theorem turned_all {W P : Nat} {D : List Int} (hP : Places' W P D) (i j : Nat) : turned W D i D.length j = (decide (i ≤ j ∧ j ≤ i + W) && P.testBit (W - (j - i))) := by
  unfold turned
  rw [List.take_length]
  by_cases h : i ≤ j ∧ j ≤ i + W
  · rw [decide_eq_true h, Bool.true_and, hP.all _ (by omega)]
    congr 1
    funext d
    rw [decide_eq_decide]
    omega
  · rw [decide_eq_false h, Bool.false_and, List.any_eq_false]
    intro d hd
    have := hP.bd d hd
    simp
    omega

theorem mrow_set {W P : Nat} {D : List Int} (hP : Places' W P D) (zs : List Int) (i m j : Nat) (hm : m < D.length) (hj : (j : Int) = (i : Int) + W - D.getD m 0) (x : Int) (hx : x = 1 - (mrow W P D zs i m).getD j 0) (hjl : j < zs.length + W) :
    (mrow W P D zs i m).set j x = mrow W P D zs i (m + 1) := by
  refine List.ext_getElem (by simp [mrow]) fun q h1 h2 => ?_
  have hq : q < zs.length + W := by simpa [mrow] using h2
  rw [List.getElem_set]
  have hn := turned_not hP i m hm j hj
  split
  · rename_i e
    subst e
    rw [hx, mrow_getD _ _ _ _ _ _ _ hjl, hn]
    have : turned W D i (m + 1) j = true := by rw [turned_succ _ _ _ _ _ hm]; simp [hj]
    simp only [mrow, List.getElem_map, List.getElem_range]
    rw [this]
    cases cellB W P zs i j <;> rfl
  · rename_i e
    simp only [mrow, List.getElem_map, List.getElem_range]
    rw [turned_succ _ _ _ _ _ hm]
    have : decide ((i : Int) + W - D.getD m 0 = (q : Int)) = false := decide_eq_false (by omega)
    rw [this, Bool.or_false]

theorem mrow_all {W P : Nat} {D : List Int} (hD : Div W P) (hP : Places' W P D) {zs : List Int} (h : Bits zs) {i : Nat} (hi : i < zs.length) (ht : cellB W P zs i i = true) : mrow W P D zs i D.length = lrow W P zs (i + 1) := by
  unfold mrow lrow
  refine List.map_congr_left fun j _ => ?_
  rw [cell_step hD h hi j, ht, Bool.true_and, turned_all hP]

theorem lrow_same {W P : Nat} (hD : Div W P) {zs : List Int} (h : Bits zs) {i : Nat} (hi : i < zs.length) (ht : cellB W P zs i i = false) : lrow W P zs i = lrow W P zs (i + 1) := by
  unfold lrow
  refine List.map_congr_left fun j _ => ?_
  rw [cell_step hD h hi j, ht, Bool.false_and, Bool.and_false, Bool.xor_false]

theorem lrow_zero {W P : Nat} {zs : List Int} (h : Bits zs) : lrow W P zs 0 = zs ++ List.replicate W 0 := by
  refine List.ext_getElem (by simp [lrow]) fun j h1 h2 => ?_
  simp only [lrow, List.getElem_map, List.getElem_range]
  have e : cellB W P zs 0 j = zb zs j := by
    unfold cellB
    rw [if_neg (by omega), List.take_zero]
    simp [crc]
  rw [e, b2i_zb h]
  by_cases hj : j < zs.length
  · rw [List.getElem_append_left hj]
    simp [List.getD, hj]
  · rw [List.getElem_append_right (by omega), List.getElem_replicate]
    simp [List.getD, Nat.le_of_not_lt hj]

theorem lrow_end (W P : Nat) (zs : List Int) : (lrow W P zs zs.length).drop zs.length = sumL W P zs := by
  refine List.ext_getElem (by simp [lrow, sumL, sumTo]) fun j h1 h2 => ?_
  have hj : j < W := by simpa [sumL, sumTo] using h2
  rw [List.getElem_drop]
  simp only [lrow, sumL, sumTo, List.getElem_map, List.getElem_range]
  unfold cellB
  rw [if_neg (by omega), List.take_length]
  have e1 : zb zs (zs.length + j) = false := by simp [zb, List.getD]
  have e2 : decide (zs.length + j < zs.length + W) = true := by simp; omega
  rw [e1, e2, Bool.true_and, Bool.false_xor, show zs.length + j - zs.length = j from by omega]

end Go.Proofs.Ytbmdjfolfmgmmag
