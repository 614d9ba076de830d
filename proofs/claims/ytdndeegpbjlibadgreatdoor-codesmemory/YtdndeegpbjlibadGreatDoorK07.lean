import Derived.Test.YtdndeegpbjlibadGreatDoorK01
import Derived.Test.YtdndeegpbjlibadGreatDoorK04
namespace Go.Proofs.YtdndeegpbjlibadGreatDoor
open Go.RowKit

/-- What is in the register ahead of the division's step: all a place up, the bit at the place W. -/
def fed (W r x : Nat) : Nat := (r * 2) ^^^ (x * 2 ^ W)
/-- One step of the register: P is the divisor, its highest place W among it. -/
def step (W P r x : Nat) : Nat := if fed W r x / 2 ^ W % 2 = 1 then fed W r x ^^^ P else fed W r x

/-- A divisor: of the degree W, with x^0. -/
structure Div (W P : Nat) : Prop where
  pos : 1 ≤ W
  top : P.testBit W = true
  low : P.testBit 0 = true
  lt : P < 2 ^ (W + 1)

theorem testBit_twice (r p : Nat) : (r * 2).testBit p = (decide (0 < p) && r.testBit (p - 1)) := by
  cases p with
  | zero => simp
  | succ p => rw [Nat.mul_comm, Nat.testBit_succ]; simp

theorem testBit_up (x W p : Nat) (hx : x ≤ 1) : (x * 2 ^ W).testBit p = (decide (p = W) && decide (x = 1)) := by
  rcases (show x = 0 ∨ x = 1 by omega) with rfl | rfl
  · simp
  · rw [Nat.one_mul, Nat.testBit_two_pow]
    simp [eq_comm]

theorem fed_bit (W r x p : Nat) (hx : x ≤ 1) : (fed W r x).testBit p = ((decide (0 < p) && r.testBit (p - 1)) ^^ (decide (p = W) && decide (x = 1))) := by
  unfold fed
  rw [Nat.testBit_xor, testBit_twice, testBit_up x W p hx]

/-- The bit that is divided out. -/
def topBit (W r x : Nat) : Bool := r.testBit (W - 1) ^^ decide (x = 1)

theorem fed_top (W r x : Nat) (hW : 1 ≤ W) (hx : x ≤ 1) : (fed W r x).testBit W = topBit W r x := by
  rw [fed_bit W r x W hx]
  have : decide (0 < W) = true := by simp; omega
  simp [topBit, this]

theorem step_bit {W P : Nat} (hD : Div W P) (r x p : Nat) (hx : x ≤ 1) : (step W P r x).testBit p = ((fed W r x).testBit p ^^ (topBit W r x && P.testBit p)) := by
  have ht := fed_top W r x hD.pos hx
  unfold step
  rw [Nat.testBit_eq_decide_div_mod_eq] at ht
  by_cases h : fed W r x / 2 ^ W % 2 = 1
  · rw [if_pos h, Nat.testBit_xor]
    have : topBit W r x = true := by rw [← ht]; simp [h]
    rw [this, Bool.true_and]
  · rw [if_neg h]
    have : topBit W r x = false := by rw [← ht]; simp [h]
    rw [this, Bool.false_and, Bool.xor_false]

theorem step_lt {W P : Nat} (hD : Div W P) (r x : Nat) (hr : r < 2 ^ W) (hx : x ≤ 1) : step W P r x < 2 ^ W := by
  apply Nat.lt_pow_two_of_testBit
  intro p hp
  rw [step_bit hD r x p hx, fed_bit W r x p hx]
  rcases Nat.eq_or_lt_of_le hp with rfl | h
  · have : decide (0 < W) = true := by have := hD.pos; simp; omega
    rw [hD.top]
    simp [topBit, this]
  · have h1 : r.testBit (p - 1) = false := Nat.testBit_lt_two_pow (Nat.lt_of_lt_of_le hr (Nat.pow_le_pow_right (by decide) (by omega)))
    have h2 : P.testBit p = false := Nat.testBit_lt_two_pow (Nat.lt_of_lt_of_le hD.lt (Nat.pow_le_pow_right (by decide) (by omega)))
    have h3 : decide (p = W) = false := by simp; omega
    simp [h1, h2, h3]

/-- The register behind bits. -/
def crc (W P : Nat) (zs : List Int) : Nat := zs.foldl (fun r x => step W P r x.toNat) 0

theorem crc_snoc (W P : Nat) (zs : List Int) (x : Int) : crc W P (zs ++ [x]) = step W P (crc W P zs) x.toNat := by simp [crc]

theorem crc_take (W P : Nat) (zs : List Int) (k : Nat) (hk : k < zs.length) : crc W P (zs.take (k + 1)) = step W P (crc W P (zs.take k)) (zs.getD k 0).toNat := by
  rw [List.take_succ_eq_append_getElem hk, crc_snoc]
  simp [List.getD, hk]

theorem bits_take {zs : List Int} (h : Bits zs) (m : Nat) : Bits (zs.take m) := fun k => by
  by_cases hk : k < m
  · have : (zs.take m).getD k 0 = zs.getD k 0 := by simp [List.getD, hk]
    rw [this]; exact h k
  · have : (zs.take m).getD k 0 = 0 := by simp [List.getD, List.getElem?_take, hk]
    rw [this]; omega

theorem crc_lt {W P : Nat} (hD : Div W P) {zs : List Int} (h : Bits zs) : ∀ k, crc W P (zs.take k) < 2 ^ W
  | 0 => by simp [crc]; exact Nat.pow_pos (by decide)
  | k + 1 => by
    by_cases hk : k < zs.length
    · rw [crc_take W P zs k hk]
      exact step_lt hD _ _ (crc_lt hD h k) (by have := h k; omega)
    · have : zs.take (k + 1) = zs.take k := by rw [List.take_of_length_le (by omega), List.take_of_length_le (by omega)]
      rw [this]; exact crc_lt hD h k

theorem crc_lt' {W P : Nat} (hD : Div W P) {zs : List Int} (h : Bits zs) : crc W P zs < 2 ^ W := by
  have := crc_lt hD h zs.length
  rwa [List.take_length] at this

def b2i (b : Bool) : Int := if b then 1 else 0
theorem b2i_bd (b : Bool) : 0 ≤ b2i b ∧ b2i b ≤ 1 := by cases b <;> simp [b2i]

/-- The sum as a list of bits. -/
def sumTo (W P : Nat) (zs : List Int) (k : Nat) : List Int := (List.range k).map fun i => b2i ((crc W P zs).testBit (W - 1 - i))
def sumL (W P : Nat) (zs : List Int) : List Int := sumTo W P zs W
theorem sumTo_length (W P : Nat) (zs : List Int) (k : Nat) : (sumTo W P zs k).length = k := by simp [sumTo]
theorem sumL_length (W P : Nat) (zs : List Int) : (sumL W P zs).length = W := sumTo_length _ _ _ _
theorem sumTo_succ (W P : Nat) (zs : List Int) (k : Nat) : sumTo W P zs (k + 1) = sumTo W P zs k ++ [b2i ((crc W P zs).testBit (W - 1 - k))] := by simp [sumTo, List.range_succ]

end Go.Proofs.YtdndeegpbjlibadGreatDoor

namespace Go.Proofs.YtdndeegpbjlibadGreatDoor
open Go.ChangeShapes Go.WideShapes Go.ChangeAt Go.RowKit

/-- The byte at a place of a text. -/
def byteAt (s : ByteArray) (j : Nat) : Int := if h : j < s.size then (s[j].toNat : Int) else 0
/-- The bit at a place of a text: the first byte's highest place first. -/
def bitAt (s : ByteArray) (i : Nat) : Int := byteAt s (i / 8) / 2 ^ (7 - i % 8) % 2

theorem byteAt_eq (s : ByteArray) (j : Nat) (h : j < s.size) : byteAt s j = (s[j].toNat : Int) := by simp [byteAt, h]
theorem byteAt_bd (s : ByteArray) (j : Nat) : 0 ≤ byteAt s j ∧ byteAt s j ≤ 255 := by
  unfold byteAt
  split
  · have := s[j].toNat_lt; omega
  · omega
theorem bitAt_bd (s : ByteArray) (i : Nat) : 0 ≤ bitAt s i ∧ bitAt s i ≤ 1 := by unfold bitAt; omega

theorem half_step (m q : Int) (K r : Nat) (hr : r ≤ K) (h : q = m / 2 ^ (K - r)) : q / 2 = m / 2 ^ (K + 1 - r) := by
  rw [show K + 1 - r = (K - r) + 1 from by omega, Int.pow_succ, ← Int.ediv_ediv_of_nonneg (Int.pow_nonneg (by decide)), h]

theorem wrap64_byte (u : UInt8) : wrap64 (u.toNat : Int) = (u.toNat : Int) := by
  have := u.toNat_lt
  exact Go.IntWalk.wrap64_in _ (by omega)

theorem val_int {k : IntKind} {a b : Int} (h : a = b) : Value.int k a = Value.int k b := by rw [h]

end Go.Proofs.YtdndeegpbjlibadGreatDoor

namespace Go.Proofs.YtdndeegpbjlibadGreatDoor

def newX (r : Nat) : Nat := (r / 8 ^^^ r) % 2
def newY (r : Nat) : Nat := (r / 8 ^^^ r / 4 ^^^ r / 2 ^^^ r) % 2
def stepX (r : Nat) : Nat := r / 2 ||| newX r * 2 ^ 30
def stepY (r : Nat) : Nat := r / 2 ||| newY r * 2 ^ 30
def regX : Nat → Nat
  | 0 => 1
  | t + 1 => stepX (regX t)
def regY (s : Nat) : Nat → Nat
  | 0 => s
  | t + 1 => stepY (regY s t)

theorem testBit_zero' (x : Nat) : x.testBit 0 = decide (x % 2 = 1) := by simp [Nat.testBit_zero]

theorem mod_two_bit (x : Nat) : decide (x % 2 = 1) = x.testBit 0 := (testBit_zero' x).symm

theorem div_bit (r e j : Nat) : (r / 2 ^ e).testBit j = r.testBit (e + j) := by
  rw [Nat.testBit_div_two_pow, Nat.add_comm]

theorem newX_bit (r : Nat) : decide (newX r = 1) = (r.testBit 3 ^^ r.testBit 0) := by
  unfold newX
  rw [mod_two_bit, Nat.testBit_xor, show (8 : Nat) = 2 ^ 3 from rfl, div_bit]

theorem newY_bit (r : Nat) : decide (newY r = 1) = (((r.testBit 3 ^^ r.testBit 2) ^^ r.testBit 1) ^^ r.testBit 0) := by
  unfold newY
  rw [mod_two_bit, Nat.testBit_xor, Nat.testBit_xor, Nat.testBit_xor, show (8 : Nat) = 2 ^ 3 from rfl, show (4 : Nat) = 2 ^ 2 from rfl, div_bit, div_bit]
  have : (r / 2).testBit 0 = r.testBit 1 := by
    have := div_bit r 1 0
    simpa using this
  rw [this]

theorem push_bit (r x : Nat) (hr : r < 2 ^ 31) (hx : x ≤ 1) (j : Nat) : (r / 2 ||| x * 2 ^ 30).testBit j = if j < 30 then r.testBit (j + 1) else (decide (j = 30) && decide (x = 1)) := by
  rw [Nat.testBit_or, testBit_up x 30 j hx]
  have h1 : (r / 2).testBit j = r.testBit (j + 1) := by
    have := div_bit r 1 j
    rw [Nat.add_comm] at this
    simpa using this
  rw [h1]
  by_cases hj : j < 30
  · rw [if_pos hj]
    have : decide (j = 30) = false := by simp; omega
    rw [this]; simp
  · rw [if_neg hj]
    have : r.testBit (j + 1) = false := Nat.testBit_lt_two_pow (Nat.lt_of_lt_of_le hr (Nat.pow_le_pow_right (by decide) (by omega)))
    rw [this]; simp

theorem push_lt (r x : Nat) (hr : r < 2 ^ 31) (hx : x ≤ 1) : (r / 2 ||| x * 2 ^ 30) < 2 ^ 31 := by
  apply Nat.or_lt_two_pow
  · omega
  · rcases (show x = 0 ∨ x = 1 by omega) with rfl | rfl <;> decide

theorem regX_lt : ∀ t, regX t < 2 ^ 31
  | 0 => by decide
  | t + 1 => push_lt _ _ (regX_lt t) (by unfold newX; omega)
theorem regY_lt (s : Nat) (hs : s < 2 ^ 31) : ∀ t, regY s t < 2 ^ 31
  | 0 => hs
  | t + 1 => push_lt _ _ (regY_lt s hs t) (by unfold newY; omega)

def bitX (t : Nat) : Bool := (regX t).testBit 0
def bitY (s t : Nat) : Bool := (regY s t).testBit 0

theorem regX_bit : ∀ j t, j ≤ 30 → (regX t).testBit j = bitX (t + j)
  | 0, t, _ => rfl
  | j + 1, t, h => by
    have := regX_bit j (t + 1) (by omega)
    rw [show t + (j + 1) = t + 1 + j from by omega, ← this]
    show _ = (stepX (regX t)).testBit j
    unfold stepX
    rw [push_bit _ _ (regX_lt t) (by unfold newX; omega), if_pos (by omega)]

theorem regY_bit (s : Nat) (hs : s < 2 ^ 31) : ∀ j t, j ≤ 30 → (regY s t).testBit j = bitY s (t + j)
  | 0, t, _ => rfl
  | j + 1, t, h => by
    have := regY_bit s hs j (t + 1) (by omega)
    rw [show t + (j + 1) = t + 1 + j from by omega, ← this]
    show _ = (stepY (regY s t)).testBit j
    unfold stepY
    rw [push_bit _ _ (regY_lt s hs t) (by unfold newY; omega), if_pos (by omega)]

theorem bitX_rec (t : Nat) : bitX (t + 31) = (bitX (t + 3) ^^ bitX t) := by
  have h := regX_bit 30 (t + 1) (by omega)
  rw [show t + 1 + 30 = t + 31 from by omega] at h
  rw [← h]
  show (stepX (regX t)).testBit 30 = _
  unfold stepX
  rw [push_bit _ _ (regX_lt t) (by unfold newX; omega), if_neg (by omega), newX_bit, regX_bit 3 t (by omega), regX_bit 0 t (by omega)]
  simp

theorem bitY_rec (s : Nat) (hs : s < 2 ^ 31) (t : Nat) : bitY s (t + 31) = (((bitY s (t + 3) ^^ bitY s (t + 2)) ^^ bitY s (t + 1)) ^^ bitY s t) := by
  have h := regY_bit s hs 30 (t + 1) (by omega)
  rw [show t + 1 + 30 = t + 31 from by omega] at h
  rw [← h]
  show (stepY (regY s t)).testBit 30 = _
  unfold stepY
  rw [push_bit _ _ (regY_lt s hs t) (by unfold newY; omega), if_neg (by omega), newY_bit, regY_bit s hs 3 t (by omega), regY_bit s hs 2 t (by omega), regY_bit s hs 1 t (by omega), regY_bit s hs 0 t (by omega)]
  simp

theorem bitX_first (j : Nat) (h : j ≤ 30) : bitX j = decide (j = 0) := by
  have := regX_bit j 0 h
  rw [Nat.zero_add] at this
  rw [← this]
  show (1 : Nat).testBit j = _
  cases j with
  | zero => rfl
  | succ j => simp [Nat.testBit_succ]

theorem bitY_first (s : Nat) (hs : s < 2 ^ 31) (j : Nat) (h : j ≤ 30) : bitY s j = s.testBit j := by
  have := regY_bit s hs j 0 h
  rw [Nat.zero_add] at this
  exact this.symm

/-- The noise. -/
def noiseAt (s i : Nat) : Int := b2i (bitX (1600 + i) ^^ bitY s (1600 + i))
def noiseTo (s n : Nat) : List Int := (List.range n).map (noiseAt s)
theorem noiseTo_length (s n : Nat) : (noiseTo s n).length = n := by simp [noiseTo]
theorem noiseTo_succ (s n : Nat) : noiseTo s (n + 1) = noiseTo s n ++ [noiseAt s n] := by simp [noiseTo, List.range_succ]

/-- A row that is filled up to place k. -/
def fillTo (f : Nat → Bool) (k N : Nat) : List Int := (List.range N).map fun j => if j < k then b2i (f j) else 0
theorem fillTo_length (f : Nat → Bool) (k N : Nat) : (fillTo f k N).length = N := by simp [fillTo]
theorem fillTo_getD (f : Nat → Bool) (k N j : Nat) (h : j < N) (hk : j < k) : (fillTo f k N).getD j 0 = b2i (f j) := by simp [fillTo, List.getD, h, hk]
theorem fillTo_set (f : Nat → Bool) (k N : Nat) (x : Int) (hx : x = b2i (f k)) : (fillTo f k N).set k x = fillTo f (k + 1) N := by
  refine List.ext_getElem (by simp [fillTo]) fun j h1 h2 => ?_
  rw [List.getElem_set]
  split
  · rename_i e
    subst e
    simp [fillTo, hx]
  · rename_i e
    simp only [fillTo, List.getElem_map, List.getElem_range]
    by_cases hj : j < k
    · rw [if_pos hj, if_pos (by omega)]
    · rw [if_neg hj, if_neg (by omega)]
theorem fillTo_zero (f : Nat → Bool) (N : Nat) : fillTo f 0 N = List.replicate N 0 := by
  rw [List.eq_replicate_iff]
  refine ⟨fillTo_length _ _ _, fun x hx => ?_⟩
  obtain ⟨j, _, rfl⟩ := List.mem_map.1 hx
  simp
theorem fillTo_first (N : Nat) : (List.replicate N (0 : Int)).set 0 1 = fillTo bitX 31 N := by
  refine List.ext_getElem (by simp [fillTo]) fun j h1 h2 => ?_
  simp only [fillTo, List.getElem_map, List.getElem_range]
  rw [List.getElem_set, List.getElem_replicate]
  by_cases hj : j < 31
  · rw [if_pos hj, bitX_first j (by omega)]
    by_cases h0 : j = 0
    · subst h0; rfl
    · rw [if_neg (by omega)]; simp [b2i, h0]
  · rw [if_neg hj, if_neg (by omega)]

theorem add_mod (a b : Bool) : (b2i a + b2i b) % 2 = b2i (a ^^ b) := by cases a <;> cases b <;> rfl
theorem add_mod4 (a b c d : Bool) : (b2i a + b2i b + b2i c + b2i d) % 2 = b2i (((a ^^ b) ^^ c) ^^ d) := by cases a <;> cases b <;> cases c <;> cases d <;> rfl

end Go.Proofs.YtdndeegpbjlibadGreatDoor

namespace Go.Proofs.YtdndeegpbjlibadGreatDoor
open Go.RowKit

/-- The number that t bits from place i on make, the first one the highest. -/
def num (zs : List Int) (i : Nat) : Nat → Int
  | 0 => 0
  | t + 1 => 2 * num zs i t + zs.getD (i + t) 0


def byteTo (zs : List Int) (k j : Nat) : Int := num zs (8 * j) (min 8 (k - 8 * j)) * 2 ^ (8 - min 8 (k - 8 * j))
def packTo (zs : List Int) (k : Nat) : List Int := (List.range ((zs.length + 7) / 8)).map (byteTo zs k)
def packL (zs : List Int) : List Int := (List.range ((zs.length + 7) / 8)).map fun j => num zs (8 * j) 8

theorem packTo_length (zs : List Int) (k : Nat) : (packTo zs k).length = (zs.length + 7) / 8 := by simp [packTo]
theorem packL_length (zs : List Int) : (packL zs).length = (zs.length + 7) / 8 := by simp [packL]

theorem num_bd {zs : List Int} (h : Bits zs) (i : Nat) : ∀ t, 0 ≤ num zs i t ∧ num zs i t < 2 ^ t
  | 0 => by simp [num]
  | t + 1 => by
    have := num_bd h i t
    have := h (i + t)
    rw [num, Int.pow_succ]
    omega

theorem packTo_zero (zs : List Int) : packTo zs 0 = List.replicate ((zs.length + 7) / 8) 0 := by
  unfold packTo
  rw [List.eq_replicate_iff]
  refine ⟨by simp, fun x hx => ?_⟩
  obtain ⟨j, _, rfl⟩ := List.mem_map.1 hx
  simp [byteTo, num]

theorem num_pad (zs : List Int) (i m : Nat) (h : zs.length ≤ i + m) : ∀ d, num zs i (m + d) = num zs i m * 2 ^ d
  | 0 => by simp
  | d + 1 => by
    rw [← Nat.add_assoc, num, num_pad zs i m h d, Int.pow_succ]
    have : zs.getD (i + (m + d)) 0 = 0 := by
      rw [List.getD_eq_getElem?_getD, List.getElem?_eq_none (by omega)]; rfl
    rw [this, Int.add_zero, Int.mul_comm 2, Int.mul_assoc]

theorem packTo_all (zs : List Int) : packTo zs zs.length = packL zs := by
  unfold packTo packL
  refine List.map_congr_left fun j _ => ?_
  unfold byteTo
  by_cases h : 8 ≤ zs.length - 8 * j
  · rw [Nat.min_eq_left h]; simp
  · rw [Nat.min_eq_right (by omega)]
    have := num_pad zs (8 * j) (zs.length - 8 * j) (by omega) (8 - (zs.length - 8 * j))
    rw [← this]
    congr 1
    omega

theorem byteTo_other (zs : List Int) (k j : Nat) (h : j ≠ k / 8) : byteTo zs (k + 1) j = byteTo zs k j := by
  unfold byteTo
  have : min 8 (k + 1 - 8 * j) = min 8 (k - 8 * j) := by omega
  rw [this]

theorem byteTo_this (zs : List Int) (k : Nat) : byteTo zs (k + 1) (k / 8) = byteTo zs k (k / 8) + zs.getD k 0 * 2 ^ (7 - k % 8) := by
  unfold byteTo
  have e1 : min 8 (k + 1 - 8 * (k / 8)) = k % 8 + 1 := by omega
  have e2 : min 8 (k - 8 * (k / 8)) = k % 8 := by omega
  rw [e1, e2, num, show 8 * (k / 8) + k % 8 = k from by omega, show 8 - k % 8 = (7 - k % 8) + 1 from by omega, show 8 - (k % 8 + 1) = 7 - k % 8 from by omega, Int.pow_succ, Int.add_mul, Int.mul_comm 2, Int.mul_assoc, Int.mul_comm 2]

theorem byteTo_at (zs : List Int) (k : Nat) : byteTo zs k (k / 8) = num zs (8 * (k / 8)) (k % 8) * 2 ^ (8 - k % 8) := by
  unfold byteTo
  have e2 : min 8 (k - 8 * (k / 8)) = k % 8 := by omega
  rw [e2]

theorem packTo_getD (zs : List Int) (k j : Nat) (h : j < (zs.length + 7) / 8) : (packTo zs k).getD j 0 = byteTo zs k j := by
  simp [packTo, List.getD, h]

theorem packTo_set (zs : List Int) (k : Nat) (x : Int) (hx : x = byteTo zs (k + 1) (k / 8)) : (packTo zs k).set (k / 8) x = packTo zs (k + 1) := by
  refine List.ext_getElem (by simp [packTo]) fun j h1 h2 => ?_
  rw [List.getElem_set]
  split
  · rename_i e
    subst e
    rw [hx]
    simp [packTo]
  · rename_i e
    simp only [packTo, List.getElem_map, List.getElem_range]
    rw [byteTo_other zs k j (fun h => e h.symm)]

theorem or_add (a z m : Nat) (hz : z ≤ 1) : a * 2 ^ (m + 1) ||| z * 2 ^ m = a * 2 ^ (m + 1) + z * 2 ^ m := by
  have hlt : z * 2 ^ m < 2 ^ (m + 1) := by
    rw [Nat.pow_succ]
    have : 0 < 2 ^ m := Nat.pow_pos (by decide)
    have : z * 2 ^ m ≤ 1 * 2 ^ m := Nat.mul_le_mul_right _ hz
    omega
  rw [Nat.mul_comm a]
  exact (Nat.two_pow_add_eq_or_of_lt hlt a).symm

theorem pow_le_128 (m : Nat) (h : m ≤ 7) : (2 : Nat) ^ m ≤ 128 := by
  have := Nat.pow_le_pow_right (n := 2) (by decide) h
  simpa using this

/-- What the program lays into a byte: it is there already, or its place is free. -/
theorem or_step (zs : List Int) (k : Nat) (h : Bits zs) (p q : Int) (hp : p = byteTo zs k (k / 8)) (hq : q = zs.getD k 0 * 2 ^ (7 - k % 8)) :
    0 ≤ p ∧ p < 256 ∧ 0 ≤ q ∧ q ≤ 128 ∧ bits .or .u8 p q = byteTo zs (k + 1) (k / 8) := by
  have hb := num_bd h (8 * (k / 8)) (k % 8)
  have hz := h k
  have hr : k % 8 < 8 := Nat.mod_lt _ (by decide)
  rw [byteTo_at] at hp
  rw [byteTo_this, byteTo_at]
  obtain ⟨a, ha⟩ := Int.eq_ofNat_of_zero_le hb.1
  obtain ⟨z, hz'⟩ := Int.eq_ofNat_of_zero_le hz.1
  have hz1 : z ≤ 1 := by omega
  rw [ha] at hb hp ⊢
  rw [hz'] at hq ⊢
  obtain ⟨m, hm⟩ : ∃ m, k % 8 = 7 - m ∧ m ≤ 7 := ⟨7 - k % 8, by omega, by omega⟩
  rw [hm.1] at hb hp hq ⊢
  rw [show 8 - (7 - m) = m + 1 from by omega] at hp ⊢
  rw [show 7 - (7 - m) = m from by omega] at hq ⊢
  have hal : a < 2 ^ (7 - m) := by
    have := hb.2
    have h2 : ((2 : Int) ^ (7 - m)) = ((2 ^ (7 - m) : Nat) : Int) := by simp
    rw [h2] at this
    omega
  have hpN : p = ((a * 2 ^ (m + 1) : Nat) : Int) := by rw [hp]; simp
  have hqN : q = ((z * 2 ^ m : Nat) : Int) := by rw [hq]; simp
  have hp256 : a * 2 ^ (m + 1) < 256 := by
    have h1 : a * 2 ^ (m + 1) < 2 ^ (7 - m) * 2 ^ (m + 1) := Nat.mul_lt_mul_of_pos_right hal (Nat.pow_pos (by decide))
    rw [← Nat.pow_add, show 7 - m + (m + 1) = 8 from by omega] at h1
    simpa using h1
  have hq128 : z * 2 ^ m ≤ 128 := by
    have h1 : z * 2 ^ m ≤ 1 * 2 ^ m := Nat.mul_le_mul_right _ hz1
    have := pow_le_128 m hm.2
    omega
  refine ⟨by omega, by omega, by omega, by omega, ?_⟩
  rw [hpN, hqN, u8_or_nat _ _ hp256 (by omega), or_add a z m hz1]
  simp

def packUpto (zs : List Int) (j : Nat) : List Int := (List.range j).map fun j => num zs (8 * j) 8
theorem packUpto_succ (zs : List Int) (j : Nat) : packUpto zs (j + 1) = packUpto zs j ++ [num zs (8 * j) 8] := by simp [packUpto, List.range_succ]
theorem packUpto_length (zs : List Int) (j : Nat) : (packUpto zs j).length = j := by simp [packUpto]
theorem packUpto_all (zs : List Int) (j : Nat) (h1 : zs.length ≤ 8 * j) (h2 : j ≤ (zs.length + 7) / 8) : packUpto zs j = packL zs := by
  have : j = (zs.length + 7) / 8 := by omega
  subst this
  rfl

theorem num_byte {zs : List Int} (h : Bits zs) (i t : Nat) (ht : t ≤ 8) : 0 ≤ num zs i t ∧ num zs i t ≤ 255 := by
  have hb := num_bd h i t
  have h2 : (2 : Int) ^ t ≤ 256 := by
    have h3 : (2 : Nat) ^ t ≤ 256 := by
      have := Nat.pow_le_pow_right (n := 2) (by decide) ht
      simpa using this
    have h4 : ((2 : Int) ^ t) = ((2 ^ t : Nat) : Int) := by simp
    rw [h4]; omega
  omega

end Go.Proofs.YtdndeegpbjlibadGreatDoor

namespace Go.Proofs.YtdndeegpbjlibadGreatDoor
open Go.ChangeShapes Go.WideShapes Go.ChangeAt Go.RowKit

/-- Two lists of bits, added place by place (as bytes are). -/
def addTo (xs ys : List Int) (k : Nat) : List Int := (List.range k).map fun i => (xs.getD i 0 + ys.getD i 0) % 2
theorem addTo_length (xs ys : List Int) (k : Nat) : (addTo xs ys k).length = k := by simp [addTo]
theorem addTo_succ (xs ys : List Int) (k : Nat) : addTo xs ys (k + 1) = addTo xs ys k ++ [(xs.getD k 0 + ys.getD k 0) % 2] := by simp [addTo, List.range_succ]

end Go.Proofs.YtdndeegpbjlibadGreatDoor
