import Derived.Test.YtbmdjfolfmgmmagPlain
namespace Go.Proofs.Ytbmdjfolfmgmmag
open Go.RowKit

/-- The number that t bits from place i on make, the first one the highest. -/
def num (zs : List Int) (i : Nat) : Nat → Int
  | 0 => 0
  | t + 1 => 2 * num zs i t + zs.getD (i + t) 0


def byteTo (zs : List Int) (k j : Nat) : Int := num zs (8 * j) (min 8 (k - 8 * j)) * 2 ^ (8 - min 8 (k - 8 * j))
def packTo (zs : List Int) (k : Nat) : List Int := (List.range ((zs.length + 7) / 8)).map (byteTo zs k)
def packL (zs : List Int) : List Int := (List.range ((zs.length + 7) / 8)).map fun j => num zs (8 * j) 8

theorem packTo_length (zs : List Int) (k : Nat) : (packTo zs k).length = (zs.length + 7) / 8 := by simp [packTo]
theorem packL_length (zs : List Int) : (packL zs).length = (zs.length + 7) / 8 := by simp [packL]

theorem num_bd {zs : List Int} (h : Bits zs) (i : Nat) : ∀ t, 0 ≤ num zs i t ∧ num zs i t < 2 ^ t
  | 0 => by simp [num]
  | t + 1 => by
    have := num_bd h i t
    have := h (i + t)
    rw [num, Int.pow_succ]
    omega

theorem packTo_zero (zs : List Int) : packTo zs 0 = List.replicate ((zs.length + 7) / 8) 0 := by
  unfold packTo
  rw [List.eq_replicate_iff]
  refine ⟨by simp, fun x hx => ?_⟩
  obtain ⟨j, _, rfl⟩ := List.mem_map.1 hx
  simp [byteTo, num]

theorem num_pad (zs : List Int) (i m : Nat) (h : zs.length ≤ i + m) : ∀ d, num zs i (m + d) = num zs i m * 2 ^ d
  | 0 => by simp
  | d + 1 => by
    rw [← Nat.add_assoc, num, num_pad zs i m h d, Int.pow_succ]
    have : zs.getD (i + (m + d)) 0 = 0 := by
      rw [List.getD_eq_getElem?_getD, List.getElem?_eq_none (by omega)]; rfl
    rw [this, Int.add_zero, Int.mul_comm 2, Int.mul_assoc]

theorem packTo_all (zs : List Int) : packTo zs zs.length = packL zs := by
  unfold packTo packL
  refine List.map_congr_left fun j _ => ?_
  unfold byteTo
  by_cases h : 8 ≤ zs.length - 8 * j
  · rw [Nat.min_eq_left h]; simp
  · rw [Nat.min_eq_right (by omega)]
    have := num_pad zs (8 * j) (zs.length - 8 * j) (by omega) (8 - (zs.length - 8 * j))
    rw [← this]
    congr 1
    omega

theorem byteTo_other (zs : List Int) (k j : Nat) (h : j ≠ k / 8) : byteTo zs (k + 1) j = byteTo zs k j := by
  unfold byteTo
  have : min 8 (k + 1 - 8 * j) = min 8 (k - 8 * j) := by omega
  rw [this]

theorem byteTo_this (zs : List Int) (k : Nat) : byteTo zs (k + 1) (k / 8) = byteTo zs k (k / 8) + zs.getD k 0 * 2 ^ (7 - k % 8) := by
  unfold byteTo
  have e1 : min 8 (k + 1 - 8 * (k / 8)) = k % 8 + 1 := by omega
  have e2 : min 8 (k - 8 * (k / 8)) = k % 8 := by omega
  rw [e1, e2, num, show 8 * (k / 8) + k % 8 = k from by omega, show 8 - k % 8 = (7 - k % 8) + 1 from by omega, show 8 - (k % 8 + 1) = 7 - k % 8 from by omega, Int.pow_succ, Int.add_mul, Int.mul_comm 2, Int.mul_assoc, Int.mul_comm 2]

theorem byteTo_at (zs : List Int) (k : Nat) : byteTo zs k (k / 8) = num zs (8 * (k / 8)) (k % 8) * 2 ^ (8 - k % 8) := by
  unfold byteTo
  have e2 : min 8 (k - 8 * (k / 8)) = k % 8 := by omega
  rw [e2]

theorem packTo_getD (zs : List Int) (k j : Nat) (h : j < (zs.length + 7) / 8) : (packTo zs k).getD j 0 = byteTo zs k j := by
  simp [packTo, List.getD, h]

theorem packTo_set (zs : List Int) (k : Nat) (x : Int) (hx : x = byteTo zs (k + 1) (k / 8)) : (packTo zs k).set (k / 8) x = packTo zs (k + 1) := by
  refine List.ext_getElem (by simp [packTo]) fun j h1 h2 => ?_
  rw [List.getElem_set]
  split
  · rename_i e
    subst e
    rw [hx]
    simp [packTo]
  · rename_i e
    simp only [packTo, List.getElem_map, List.getElem_range]
    rw [byteTo_other zs k j (fun h => e h.symm)]

theorem or_add (a z m : Nat) (hz : z ≤ 1) : a * 2 ^ (m + 1) ||| z * 2 ^ m = a * 2 ^ (m + 1) + z * 2 ^ m := by
  have hlt : z * 2 ^ m < 2 ^ (m + 1) := by
    rw [Nat.pow_succ]
    have : 0 < 2 ^ m := Nat.pow_pos (by decide)
    have : z * 2 ^ m ≤ 1 * 2 ^ m := Nat.mul_le_mul_right _ hz
    omega
  rw [Nat.mul_comm a]
  exact (Nat.two_pow_add_eq_or_of_lt hlt a).symm

theorem pow_le_128 (m : Nat) (h : m ≤ 7) : (2 : Nat) ^ m ≤ 128 := by
  have := Nat.pow_le_pow_right (n := 2) (by decide) h
  simpa using this

/-- What the program lays into a byte: it is there already, or its place is free. -/
theorem or_step (zs : List Int) (k : Nat) (h : Bits zs) (p q : Int) (hp : p = byteTo zs k (k / 8)) (hq : q = zs.getD k 0 * 2 ^ (7 - k % 8)) :
    0 ≤ p ∧ p < 256 ∧ 0 ≤ q ∧ q ≤ 128 ∧ bits .or .u8 p q = byteTo zs (k + 1) (k / 8) := by
  have hb := num_bd h (8 * (k / 8)) (k % 8)
  have hz := h k
  have hr : k % 8 < 8 := Nat.mod_lt _ (by decide)
  rw [byteTo_at] at hp
  rw [byteTo_this, byteTo_at]
  obtain ⟨a, ha⟩ := Int.eq_ofNat_of_zero_le hb.1
  obtain ⟨z, hz'⟩ := Int.eq_ofNat_of_zero_le hz.1
  have hz1 : z ≤ 1 := by omega
  rw [ha] at hb hp ⊢
  rw [hz'] at hq ⊢
  obtain ⟨m, hm⟩ : ∃ m, k % 8 = 7 - m ∧ m ≤ 7 := ⟨7 - k % 8, by omega, by omega⟩
  rw [hm.1] at hb hp hq ⊢
  rw [show 8 - (7 - m) = m + 1 from by omega] at hp ⊢
  rw [show 7 - (7 - m) = m from by omega] at hq ⊢
  have hal : a < 2 ^ (7 - m) := by
    have := hb.2
    have h2 : ((2 : Int) ^ (7 - m)) = ((2 ^ (7 - m) : Nat) : Int) := by simp
    rw [h2] at this
    omega
  have hpN : p = ((a * 2 ^ (m + 1) : Nat) : Int) := by rw [hp]; simp
  have hqN : q = ((z * 2 ^ m : Nat) : Int) := by rw [hq]; simp
  have hp256 : a * 2 ^ (m + 1) < 256 := by
    have h1 : a * 2 ^ (m + 1) < 2 ^ (7 - m) * 2 ^ (m + 1) := Nat.mul_lt_mul_of_pos_right hal (Nat.pow_pos (by decide))
    rw [← Nat.pow_add, show 7 - m + (m + 1) = 8 from by omega] at h1
    simpa using h1
  have hq128 : z * 2 ^ m ≤ 128 := by
    have h1 : z * 2 ^ m ≤ 1 * 2 ^ m := Nat.mul_le_mul_right _ hz1
    have := pow_le_128 m hm.2
    omega
  refine ⟨by omega, by omega, by omega, by omega, ?_⟩
  rw [hpN, hqN, u8_or_nat _ _ hp256 (by omega), or_add a z m hz1]
  simp

def packUpto (zs : List Int) (j : Nat) : List Int := (List.range j).map fun j => num zs (8 * j) 8
theorem packUpto_succ (zs : List Int) (j : Nat) : packUpto zs (j + 1) = packUpto zs j ++ [num zs (8 * j) 8] := by simp [packUpto, List.range_succ]
theorem packUpto_length (zs : List Int) (j : Nat) : (packUpto zs j).length = j := by simp [packUpto]
theorem packUpto_all (zs : List Int) (j : Nat) (h1 : zs.length ≤ 8 * j) (h2 : j ≤ (zs.length + 7) / 8) : packUpto zs j = packL zs := by
  have : j = (zs.length + 7) / 8 := by omega
  subst this
  rfl

theorem num_byte {zs : List Int} (h : Bits zs) (i t : Nat) (ht : t ≤ 8) : 0 ≤ num zs i t ∧ num zs i t ≤ 255 := by
  have hb := num_bd h i t
  have h2 : (2 : Int) ^ t ≤ 256 := by
    have h3 : (2 : Nat) ^ t ≤ 256 := by
      have := Nat.pow_le_pow_right (n := 2) (by decide) ht
      simpa using this
    have h4 : ((2 : Int) ^ t) = ((2 ^ t : Nat) : Int) := by simp
    rw [h4]; omega
  omega

end Go.Proofs.Ytbmdjfolfmgmmag
