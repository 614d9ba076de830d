import Derived.Test.YtbmdjfolfmgmmagUnpackG
import Derived.Test.YtbmdjfolfmgmmagPackU
import Derived.Test.YtbmdjfolfmgmmagCover
import Derived.Test.YtbmdjfolfmgmmagSumR
import Derived.Test.YtbmdjfolfmgmmagNoiseR
namespace Go.Proofs.Ytbmdjfolfmgmmag
open Go.ChangeShapes Go.WideShapes Go.ChangeAt Go.RowKit

/-! PACKETS (P27, P28): mathematics of covering and sealing. -/

theorem num_unpackG (s : ByteArray) (n j : Nat) (hj : 8 * j + 8 ≤ n) : ∀ m, m ≤ 8 → num (unpackTo s n) (8 * j) m = byteAt s j / 2 ^ (8 - m)
  | 0, _ => by
    have h : 0 ≤ byteAt s j ∧ byteAt s j < 256 := by
      unfold byteAt
      split
      · have := UInt8.toNat_lt s[j]; omega
      · omega
    rw [num]
    simp only [Nat.sub_zero, Int.reducePow]
    omega
  | m + 1, hm => by
    have ih := num_unpackG s n j hj m (by omega)
    have hb : (unpackTo s n).getD (8 * j + m) 0 = byteAt s j / 2 ^ (7 - m) % 2 := by
      have e : (unpackTo s n).getD (8 * j + m) 0 = bitAt s (8 * j + m) := by simp [unpackTo, List.getD, show 8 * j + m < n by omega]
      rw [e]
      unfold bitAt
      rw [show (8 * j + m) / 8 = j by omega, show (8 * j + m) % 8 = m by omega]
    rw [num, ih, hb]
    rcases (show m = 0 ∨ m = 1 ∨ m = 2 ∨ m = 3 ∨ m = 4 ∨ m = 5 ∨ m = 6 ∨ m = 7 by omega) with rfl | rfl | rfl | rfl | rfl | rfl | rfl | rfl <;> simp <;> omega
theorem pack_unpackG (s : ByteArray) : strOfNums (packL (unpackTo s (8 * s.size))) = s := by
  have hl : (packL (unpackTo s (8 * s.size))).length = s.size := by rw [packL_length, unpackTo_length]; omega
  have hd : (strOfNums (packL (unpackTo s (8 * s.size)))).data = s.data := by
    refine Array.ext ?_ fun j h1 h2 => ?_
    · show ((packL (unpackTo s (8 * s.size))).map fun n => UInt8.ofNat n.toNat).toArray.size = _
      rw [List.size_toArray, List.length_map, hl]
      rfl
    · show ((packL (unpackTo s (8 * s.size))).map fun n => UInt8.ofNat n.toNat).toArray[j]'_ = _
      have hj : j < s.size := h2
      have e : num (unpackTo s (8 * s.size)) (8 * j) 8 = (s[j].toNat : Int) := by
        rw [num_unpackG s _ j (by omega) 8 (Nat.le_refl _), byteAt_eq s j hj]
        simp
      simp [packL, e]
      rfl
  cases h : strOfNums (packL (unpackTo s (8 * s.size)))
  cases s
  rw [h] at hd
  simp at hd
  rw [hd]
theorem unpack_bitsG (s : ByteArray) (n : Nat) : Bits (unpackTo s n) := fun k => by
  by_cases h : k < n
  · have e : (unpackTo s n).getD k 0 = bitAt s k := by simp [unpackTo, List.getD, h]
    rw [e]
    unfold bitAt
    omega
  · have e : (unpackTo s n).getD k 0 = 0 := by simp [unpackTo, List.getD, h]
    rw [e]
    omega
theorem add_bitsG (xs ys : List Int) (n : Nat) : Bits (addTo xs ys n) := fun k => by
  by_cases h : k < n
  · have e : (addTo xs ys n).getD k 0 = (xs.getD k 0 + ys.getD k 0) % 2 := by simp [addTo, List.getD, h]
    rw [e]
    omega
  · have e : (addTo xs ys n).getD k 0 = 0 := by simp [addTo, List.getD, h]
    rw [e]
    omega
theorem ksum_bitsG (zs : List Int) (k : Int) : Bits (ksum zs k) := fun j => by
  unfold ksum sumL
  by_cases h : j < kW k
  · have : (sumTo (kW k) (kP k) zs (kW k)).getD j 0 = b2i ((crc (kW k) (kP k) zs).testBit (kW k - 1 - j)) := by simp [sumTo, List.getD, h]
    rw [this]; exact b2i_bd _
  · have : (sumTo (kW k) (kP k) zs (kW k)).getD j 0 = 0 := by simp [sumTo, List.getD, h]
    rw [this]; omega
theorem bits_okG {zs : List Int} (h : Bits zs) (hz : zs.length ≤ 4096) : errOf zs = 0 := err_none (fun j _ => (h j).2) (by omega)
theorem bits_bytesG {zs : List Int} (h : Bits zs) : Bytes zs := fun x hx => by
  obtain ⟨k, hk, rfl⟩ := List.getElem_of_mem hx
  have := h k
  have e : zs.getD k 0 = zs[k] := by simp [List.getD, hk]
  rw [e] at this
  omega
theorem add_twiceG {a n : List Int} {m : Nat} (ha : Bits a) (hl : a.length = m) : addTo (addTo a n m) n m = a := by
  refine List.ext_getElem (by rw [addTo_length, hl]) fun j h1 h2 => ?_
  have hj : j < m := by rw [addTo_length] at h1; exact h1
  have e : (addTo a n m).getD j 0 = (a.getD j 0 + n.getD j 0) % 2 := by simp [addTo, List.getD, hj]
  have hb := ha j
  have e2 : a.getD j 0 = a[j] := by simp [List.getD, h2]
  have : (addTo (addTo a n m) n m)[j] = ((addTo a n m).getD j 0 + n.getD j 0) % 2 := by simp only [addTo, List.getElem_map, List.getElem_range]
  rw [this, e, ← e2]
  omega
theorem kW3G : kW 3 = 24 := by unfold kW; simp
theorem isKind3G : isKind 3 = true := by unfold isKind; simp

/-- The seed that covers a packet. -/
def seedG (k : Int) (c : Nat) : Nat := ((k + 48271 * (c : Int) + 12345) % 2147483648).toNat
theorem seedG_lt (k : Int) (c : Nat) : seedG k c < 2147483648 := by unfold seedG; omega
theorem seedG_eq (k : Int) (c : Nat) : ((seedG k c : Nat) : Int) = (k + 48271 * (c : Int) + 12345) % 2147483648 := by unfold seedG; omega
/-- Data, covered. -/
def hidG (d : ByteArray) (s : Nat) : ByteArray := strOfNums (packL (addTo (unpackTo d (8 * d.size)) (noiseTo s (8 * d.size)) (8 * d.size)))
theorem hidG_size (d : ByteArray) (s : Nat) : (hidG d s).size = d.size := by
  unfold hidG
  rw [strOfNums_size, packL_length, addTo_length]
  omega
theorem unpack_packG {zs : List Int} (h : Bits zs) (hz : zs.length ≤ 4096) {n : Nat} (hn : zs.length = n) : unpackTo (strOfNums (packL zs)) n = zs := by
  subst hn
  obtain ⟨h1, h2⟩ := unpack_pack h hz
  unfold unpackL at h2
  rw [if_pos h1, Int.toNat_natCast] at h2
  exact h2
theorem hid_hidG (d : ByteArray) (s : Nat) (hd : d.size ≤ 500) : hidG (hidG d s) s = d := by
  have e : unpackTo (hidG d s) (8 * d.size) = addTo (unpackTo d (8 * d.size)) (noiseTo s (8 * d.size)) (8 * d.size) :=
    unpack_packG (add_bitsG _ _ _) (by rw [addTo_length]; omega) (addTo_length _ _ _)
  have e2 : hidG (hidG d s) s = strOfNums (packL (addTo (unpackTo (hidG d s) (8 * d.size)) (noiseTo s (8 * d.size)) (8 * d.size))) := by
    have e3 : ∀ x : ByteArray, hidG x s = strOfNums (packL (addTo (unpackTo x (8 * x.size)) (noiseTo s (8 * x.size)) (8 * x.size))) := fun x => rfl
    rw [e3 (hidG d s), hidG_size]
  rw [e2, e, add_twiceG (unpack_bitsG _ _) (unpackTo_length _ _), pack_unpackG]
/-- A count's three bytes. -/
def headG (c : Nat) : ByteArray := strOfNums [(c : Int) / 65536 % 256, (c : Int) / 256 % 256, (c : Int) % 256]
theorem headG_size (c : Nat) : (headG c).size = 3 := by unfold headG; rw [strOfNums_size]; rfl
/-- The seal of data that has a count. -/
def sealG (c : Nat) (d : ByteArray) : ByteArray := strOfNums (packL (ksum (unpackTo (headG c ++ d) (8 * (3 + d.size))) 3))
theorem ksum3_len (zs : List Int) : (ksum zs 3).length = 24 := by
  have : (ksum zs 3).length = kW 3 := sumL_length _ _ _
  rw [this, kW3G]
theorem sealG_size (c : Nat) (d : ByteArray) : (sealG c d).size = 3 := by
  unfold sealG
  rw [strOfNums_size, packL_length, ksum3_len]

/-- A packet. -/
structure PktM where
  short : Int
  data : ByteArray
  sl : ByteArray
def PktM.val (p : PktM) : Value := .agg #[.int .i64 p.short, .string p.data, .string p.sl]
def PktM.zero : PktM := ⟨0, ByteArray.empty, ByteArray.empty⟩
def pktG (k : Int) (c : Nat) (d : ByteArray) : PktM := ⟨((c % 4096 : Nat) : Int), hidG d (seedG k c), sealG c d⟩
end Go.Proofs.Ytbmdjfolfmgmmag
