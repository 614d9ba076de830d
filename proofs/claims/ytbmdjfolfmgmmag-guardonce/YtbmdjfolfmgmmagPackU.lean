import Derived.Test.YtbmdjfolfmgmmagPackM
import Derived.Test.YtbmdjfolfmgmmagUnpack
namespace Go.Proofs.Ytbmdjfolfmgmmag

theorem num_split {zs : List Int} (h : Bits zs) (i m : Nat) : ∀ d, ∃ r : Int, 0 ≤ r ∧ r < 2 ^ d ∧ num zs i (m + d) = num zs i m * 2 ^ d + r
  | 0 => ⟨0, by simp⟩
  | d + 1 => by
    obtain ⟨r, h0, h1, h2⟩ := num_split h i m d
    have hb := h (i + (m + d))
    refine ⟨2 * r + zs.getD (i + (m + d)) 0, by omega, by rw [Int.pow_succ]; omega, ?_⟩
    rw [← Nat.add_assoc, num, h2, Int.pow_succ]
    have : num zs i m * (2 ^ d * 2) = 2 * (num zs i m * 2 ^ d) := by rw [← Int.mul_assoc, Int.mul_comm]
    rw [this]
    omega

theorem num_div {zs : List Int} (h : Bits zs) (i m d : Nat) : num zs i (m + d) / 2 ^ d = num zs i m := by
  obtain ⟨r, h0, h1, h2⟩ := num_split h i m d
  rw [h2]
  have hp : (0 : Int) < 2 ^ d := Int.pow_pos (by decide)
  rw [Int.add_comm, Int.add_mul_ediv_right _ _ (Int.ne_of_gt hp), Int.ediv_eq_zero_of_lt h0 h1, Int.zero_add]

theorem num_bit {zs : List Int} (h : Bits zs) (i t : Nat) (ht : t ≤ 7) : num zs i 8 / 2 ^ (7 - t) % 2 = zs.getD (i + t) 0 := by
  have := num_div h i (t + 1) (7 - t)
  rw [show t + 1 + (7 - t) = 8 from by omega] at this
  rw [this, num]
  have := h (i + t)
  omega

theorem byteAt_pack {zs : List Int} (h : Bits zs) (j : Nat) (hj : j < (zs.length + 7) / 8) : byteAt (strOfNums (packL zs)) j = num zs (8 * j) 8 := by
  have hs : (strOfNums (packL zs)).size = (zs.length + 7) / 8 := by rw [strOfNums_size, packL_length]
  rw [byteAt_eq _ _ (by rw [hs]; exact hj)]
  have hb := num_byte h (8 * j) 8 (Nat.le_refl _)
  have e : (strOfNums (packL zs))[j]'(by rw [hs]; exact hj) = UInt8.ofNat (num zs (8 * j) 8).toNat := by
    show ((packL zs).map fun n => UInt8.ofNat n.toNat).toArray[j]'_ = _
    simp [packL]
  rw [e]
  simp
  omega

theorem unpack_pack {zs : List Int} (h : Bits zs) (hz : zs.length ≤ 4096) : unpackErr (strOfNums (packL zs)) zs.length = 0 ∧ unpackL (strOfNums (packL zs)) zs.length = zs := by
  have hs : (strOfNums (packL zs)).size = (zs.length + 7) / 8 := by rw [strOfNums_size, packL_length]
  have he : unpackErr (strOfNums (packL zs)) zs.length = 0 := by
    unfold unpackErr
    rw [hs, if_neg (by omega), if_neg (by omega)]
  refine ⟨he, ?_⟩
  unfold unpackL
  rw [if_pos he, Int.toNat_natCast]
  refine List.ext_getElem (unpackTo_length _ _) fun k h1 h2 => ?_
  simp only [unpackTo, List.getElem_map, List.getElem_range]
  unfold bitAt
  rw [byteAt_pack h _ (by omega), num_bit h _ _ (by omega), show 8 * (k / 8) + k % 8 = k from by omega]
  simp [List.getD, h2]

end Go.Proofs.Ytbmdjfolfmgmmag
