import Derived.Test.YtbmdjfolfmgmmagPlain
namespace Go.Proofs.Ytbmdjfolfmgmmag
open Go.RowKit

/-- What is in the register ahead of the division's step: all a place up, the bit at the place W. -/
def fed (W r x : Nat) : Nat := (r * 2) ^^^ (x * 2 ^ W)
/-- One step of the register: P is the divisor, its highest place W among it. -/
def step (W P r x : Nat) : Nat := if fed W r x / 2 ^ W % 2 = 1 then fed W r x ^^^ P else fed W r x

/-- A divisor: of the degree W, with x^0. -/
structure Div (W P : Nat) : Prop where
  pos : 1 ≤ W
  top : P.testBit W = true
  low : P.testBit 0 = true
  lt : P < 2 ^ (W + 1)

theorem testBit_twice (r p : Nat) : (r * 2).testBit p = (decide (0 < p) && r.testBit (p - 1)) := by
  cases p with
  | zero => simp
  | succ p => rw [Nat.mul_comm, Nat.testBit_succ]; simp

theorem testBit_up (x W p : Nat) (hx : x ≤ 1) : (x * 2 ^ W).testBit p = (decide (p = W) && decide (x = 1)) := by
  rcases (show x = 0 ∨ x = 1 by omega) with rfl | rfl
  · simp
  · rw [Nat.one_mul, Nat.testBit_two_pow]
    simp [eq_comm]

theorem fed_bit (W r x p : Nat) (hx : x ≤ 1) : (fed W r x).testBit p = ((decide (0 < p) && r.testBit (p - 1)) ^^ (decide (p = W) && decide (x = 1))) := by
  unfold fed
  rw [Nat.testBit_xor, testBit_twice, testBit_up x W p hx]

/-- The bit that is divided out. -/
def topBit (W r x : Nat) : Bool := r.testBit (W - 1) ^^ decide (x = 1)

theorem fed_top (W r x : Nat) (hW : 1 ≤ W) (hx : x ≤ 1) : (fed W r x).testBit W = topBit W r x := by
  rw [fed_bit W r x W hx]
  have : decide (0 < W) = true := by simp; omega
  simp [topBit, this]

theorem step_bit {W P : Nat} (hD : Div W P) (r x p : Nat) (hx : x ≤ 1) : (step W P r x).testBit p = ((fed W r x).testBit p ^^ (topBit W r x && P.testBit p)) := by
  have ht := fed_top W r x hD.pos hx
  unfold step
  rw [Nat.testBit_eq_decide_div_mod_eq] at ht
  by_cases h : fed W r x / 2 ^ W % 2 = 1
  · rw [if_pos h, Nat.testBit_xor]
    have : topBit W r x = true := by rw [← ht]; simp [h]
    rw [this, Bool.true_and]
  · rw [if_neg h]
    have : topBit W r x = false := by rw [← ht]; simp [h]
    rw [this, Bool.false_and, Bool.xor_false]

theorem step_lt {W P : Nat} (hD : Div W P) (r x : Nat) (hr : r < 2 ^ W) (hx : x ≤ 1) : step W P r x < 2 ^ W := by
  apply Nat.lt_pow_two_of_testBit
  intro p hp
  rw [step_bit hD r x p hx, fed_bit W r x p hx]
  rcases Nat.eq_or_lt_of_le hp with rfl | h
  · have : decide (0 < W) = true := by have := hD.pos; simp; omega
    rw [hD.top]
    simp [topBit, this]
  · have h1 : r.testBit (p - 1) = false := Nat.testBit_lt_two_pow (Nat.lt_of_lt_of_le hr (Nat.pow_le_pow_right (by decide) (by omega)))
    have h2 : P.testBit p = false := Nat.testBit_lt_two_pow (Nat.lt_of_lt_of_le hD.lt (Nat.pow_le_pow_right (by decide) (by omega)))
    have h3 : decide (p = W) = false := by simp; omega
    simp [h1, h2, h3]

/-- The register behind bits. -/
def crc (W P : Nat) (zs : List Int) : Nat := zs.foldl (fun r x => step W P r x.toNat) 0

theorem crc_snoc (W P : Nat) (zs : List Int) (x : Int) : crc W P (zs ++ [x]) = step W P (crc W P zs) x.toNat := by simp [crc]

theorem crc_take (W P : Nat) (zs : List Int) (k : Nat) (hk : k < zs.length) : crc W P (zs.take (k + 1)) = step W P (crc W P (zs.take k)) (zs.getD k 0).toNat := by
  rw [List.take_succ_eq_append_getElem hk, crc_snoc]
  simp [List.getD, hk]

theorem bits_take {zs : List Int} (h : Bits zs) (m : Nat) : Bits (zs.take m) := fun k => by
  by_cases hk : k < m
  · have : (zs.take m).getD k 0 = zs.getD k 0 := by simp [List.getD, hk]
    rw [this]; exact h k
  · have : (zs.take m).getD k 0 = 0 := by simp [List.getD, List.getElem?_take, hk]
    rw [this]; omega

theorem crc_lt {W P : Nat} (hD : Div W P) {zs : List Int} (h : Bits zs) : ∀ k, crc W P (zs.take k) < 2 ^ W
  | 0 => by simp [crc]; exact Nat.pow_pos (by decide)
  | k + 1 => by
    by_cases hk : k < zs.length
    · rw [crc_take W P zs k hk]
      exact step_lt hD _ _ (crc_lt hD h k) (by have := h k; omega)
    · have : zs.take (k + 1) = zs.take k := by rw [List.take_of_length_le (by omega), List.take_of_length_le (by omega)]
      rw [this]; exact crc_lt hD h k

theorem crc_lt' {W P : Nat} (hD : Div W P) {zs : List Int} (h : Bits zs) : crc W P zs < 2 ^ W := by
  have := crc_lt hD h zs.length
  rwa [List.take_length] at this

def b2i (b : Bool) : Int := if b then 1 else 0
theorem b2i_bd (b : Bool) : 0 ≤ b2i b ∧ b2i b ≤ 1 := by cases b <;> simp [b2i]

/-- The sum as a list of bits. -/
def sumTo (W P : Nat) (zs : List Int) (k : Nat) : List Int := (List.range k).map fun i => b2i ((crc W P zs).testBit (W - 1 - i))
def sumL (W P : Nat) (zs : List Int) : List Int := sumTo W P zs W
theorem sumTo_length (W P : Nat) (zs : List Int) (k : Nat) : (sumTo W P zs k).length = k := by simp [sumTo]
theorem sumL_length (W P : Nat) (zs : List Int) : (sumL W P zs).length = W := sumTo_length _ _ _ _
theorem sumTo_succ (W P : Nat) (zs : List Int) (k : Nat) : sumTo W P zs (k + 1) = sumTo W P zs k ++ [b2i ((crc W P zs).testBit (W - 1 - k))] := by simp [sumTo, List.range_succ]

end Go.Proofs.Ytbmdjfolfmgmmag
