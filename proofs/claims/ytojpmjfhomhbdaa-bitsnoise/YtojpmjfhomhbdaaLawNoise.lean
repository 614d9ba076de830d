import Derived.Test.YtojpmjfhomhbdaaCover
import Derived.Test.YtojpmjfhomhbdaaNoiseR
import Derived.Test.YtojpmjfhomhbdaaSame
import Derived.Test.YtojpmjfhomhbdaaFrame
namespace Go.Proofs.Ytojpmjfhomhbdaa
open Go.ChangeShapes Go.WideShapes Go.ChangeAt Go.RowKit

theorem same_bitsM (xs ys : List Int) (n m : Nat) (hn : xs.length = n) (hm : ys.length = m) (a b : Option Addr) (ca cb : Nat) (w : World) (ha : Rd .u8 w a xs) (hb : Rd .u8 w b ys) (hx : n ≤ maxLen) (hy : m ≤ maxLen) :
    Calls Try.prog 15 #[.slice a n ca, .slice b m cb] w fun e w' => e = .returned (.bool (decide (xs = ys))) ∧ Below w.heap.size w w' := by
  subst hn hm
  exact same_bits xs ys a b ca cb w ha hb hx hy

theorem bits_len {zs : List Int} (hy : Bytes zs) (h : errOf zs = 0) : Bits zs := fun k => ⟨(hy.at k).1, (err_zero h).1 k⟩

set_option maxRecDepth 100000 in
set_option maxHeartbeats 1000000 in
theorem noise_neg_any_err (zs : List Int) (s : Int) (n : Int) (a : Option Addr) (c : Nat) (w : World) (ha : Rd .u8 w a zs) (hz : zs.length ≤ maxLen) (hy : Bytes zs) (hs : s < 0) (he : errOf zs ≠ 0) :
    Calls Try.prog 6 #[.slice a zs.length c, .int .i64 s, .int .i64 n] w fun e w' => e = .returned (.bool true) ∧ Below w.heap.size w w' := by
  have d1 : decide (0 ≤ s) = false := by simp; omega
  have HSO := hid (show seedOk s = false by simp [seedOk]; omega)
  have HNO := hid (show noiseOk s n = false by unfold noiseOk; rw [HSO.out]; rfl)
  have hne : (errOf zs == 0) = false := by simpa using he
  have hne2 : (errOf zs != 0) = true := by simpa using he
  have HE := hid he
  clear he
  go_enter Try.func6, Try.ntmps6
  go_wp2_with fail
  refine (noise_bad _ _ _ HNO.out).mono ?_
  rintro e w1 ⟨rfl, rfl⟩
  go_wp2_with fail
  refine (cover_bits zs _ a c _ ha hz HE.out).mono ?_
  rintro e w2 ⟨rfl, rfl⟩
  go_wp2_with fail
  refine (rbits_any zs a c _ ha hz hy).mono ?_
  rintro e w5 ⟨rfl, rfl⟩
  go_wp2
  go_ret
  exact ⟨rfl, (Below.refl _ _)⟩

set_option maxRecDepth 100000 in
set_option maxHeartbeats 1000000 in
theorem noise_neg_any_ok (zs : List Int) (s : Int) (n : Int) (a : Option Addr) (c : Nat) (w : World) (ha : Rd .u8 w a zs) (hz : zs.length ≤ maxLen) (hy : Bytes zs) (hs : s < 0) (he : errOf zs = 0) :
    Calls Try.prog 6 #[.slice a zs.length c, .int .i64 s, .int .i64 n] w fun e w' => e = .returned (.bool true) ∧ Below w.heap.size w w' := by
  have d1 : decide (0 ≤ s) = false := by simp; omega
  have HSO := hid (show seedOk s = false by simp [seedOk]; omega)
  have HNO := hid (show noiseOk s n = false by unfold noiseOk; rw [HSO.out]; rfl)
  have HE := hid he
  have hb := bits_len hy he
  have hz4 := (err_zero he).2
  clear he
  go_enter Try.func6, Try.ntmps6
  go_wp2_with fail
  refine (noise_bad _ _ _ HNO.out).mono ?_
  rintro e w1 ⟨rfl, rfl⟩
  go_wp2_with fail
  refine (cover_seed zs s a c _ ha hz HE.out HSO.out).mono ?_
  rintro e w2 ⟨rfl, rfl⟩
  go_wp2_with fail
  refine (rbits_any zs a c _ ha hz hy).mono ?_
  rintro e w5 ⟨rfl, rfl⟩
  rw [HE.out]
  go_wp2
  go_ret
  exact ⟨rfl, (Below.refl _ _)⟩

set_option maxRecDepth 100000 in
set_option maxHeartbeats 1000000 in
theorem noise_big_any_err (zs : List Int) (s : Int) (n : Int) (a : Option Addr) (c : Nat) (w : World) (ha : Rd .u8 w a zs) (hz : zs.length ≤ maxLen) (hy : Bytes zs) (hs : 2147483647 < s) (he : errOf zs ≠ 0) :
    Calls Try.prog 6 #[.slice a zs.length c, .int .i64 s, .int .i64 n] w fun e w' => e = .returned (.bool true) ∧ Below w.heap.size w w' := by
  have d1 : decide (0 ≤ s) = true := by simp; omega
  have d2 : decide (s ≤ 2147483647) = false := by simp; omega
  have HSO := hid (show seedOk s = false by simp [seedOk]; omega)
  have HNO := hid (show noiseOk s n = false by unfold noiseOk; rw [HSO.out]; rfl)
  have hne : (errOf zs == 0) = false := by simpa using he
  have hne2 : (errOf zs != 0) = true := by simpa using he
  have HE := hid he
  clear he
  go_enter Try.func6, Try.ntmps6
  go_wp2_with fail
  refine (noise_bad _ _ _ HNO.out).mono ?_
  rintro e w1 ⟨rfl, rfl⟩
  go_wp2_with fail
  refine (cover_bits zs _ a c _ ha hz HE.out).mono ?_
  rintro e w2 ⟨rfl, rfl⟩
  go_wp2_with fail
  refine (rbits_any zs a c _ ha hz hy).mono ?_
  rintro e w5 ⟨rfl, rfl⟩
  go_wp2
  go_ret
  exact ⟨rfl, (Below.refl _ _)⟩

set_option maxRecDepth 100000 in
set_option maxHeartbeats 1000000 in
theorem noise_big_any_ok (zs : List Int) (s : Int) (n : Int) (a : Option Addr) (c : Nat) (w : World) (ha : Rd .u8 w a zs) (hz : zs.length ≤ maxLen) (hy : Bytes zs) (hs : 2147483647 < s) (he : errOf zs = 0) :
    Calls Try.prog 6 #[.slice a zs.length c, .int .i64 s, .int .i64 n] w fun e w' => e = .returned (.bool true) ∧ Below w.heap.size w w' := by
  have d1 : decide (0 ≤ s) = true := by simp; omega
  have d2 : decide (s ≤ 2147483647) = false := by simp; omega
  have HSO := hid (show seedOk s = false by simp [seedOk]; omega)
  have HNO := hid (show noiseOk s n = false by unfold noiseOk; rw [HSO.out]; rfl)
  have HE := hid he
  have hb := bits_len hy he
  have hz4 := (err_zero he).2
  clear he
  go_enter Try.func6, Try.ntmps6
  go_wp2_with fail
  refine (noise_bad _ _ _ HNO.out).mono ?_
  rintro e w1 ⟨rfl, rfl⟩
  go_wp2_with fail
  refine (cover_seed zs s a c _ ha hz HE.out HSO.out).mono ?_
  rintro e w2 ⟨rfl, rfl⟩
  go_wp2_with fail
  refine (rbits_any zs a c _ ha hz hy).mono ?_
  rintro e w5 ⟨rfl, rfl⟩
  rw [HE.out]
  go_wp2
  go_ret
  exact ⟨rfl, (Below.refl _ _)⟩

set_option maxRecDepth 100000 in
set_option maxHeartbeats 1000000 in
theorem noise_ok_neg_err (zs : List Int) (s : Nat) (n : Int) (a : Option Addr) (c : Nat) (w : World) (ha : Rd .u8 w a zs) (hz : zs.length ≤ maxLen) (hy : Bytes zs) (hs : s < 2147483648) (hn : n < 0) (he : errOf zs ≠ 0) :
    Calls Try.prog 6 #[.slice a zs.length c, .int .i64 s, .int .i64 n] w fun e w' => e = .returned (.bool true) ∧ Below w.heap.size w w' := by
  have d1 : decide (0 ≤ (s : Int)) = true := by simp
  have d2 : decide ((s : Int) ≤ 2147483647) = true := by simp; omega
  have d3 : decide (n < 0) = true := by simpa using hn
  have HNO := hid (show noiseOk s n = false by simp [noiseOk]; omega)
  have hne : (errOf zs == 0) = false := by simpa using he
  have hne2 : (errOf zs != 0) = true := by simpa using he
  have HE := hid he
  clear he
  go_enter Try.func6, Try.ntmps6
  go_wp2_with fail
  refine (noise_bad _ _ _ HNO.out).mono ?_
  rintro e w1 ⟨rfl, rfl⟩
  go_wp2_with fail
  refine (cover_bits zs _ a c _ ha hz HE.out).mono ?_
  rintro e w2 ⟨rfl, rfl⟩
  go_wp2_with fail
  refine (rbits_any zs a c _ ha hz hy).mono ?_
  rintro e w5 ⟨rfl, rfl⟩
  go_wp2
  go_ret
  exact ⟨rfl, (Below.refl _ _)⟩

set_option maxRecDepth 100000 in
set_option maxHeartbeats 1000000 in
theorem noise_ok_neg_ok (zs : List Int) (s : Nat) (n : Int) (a : Option Addr) (c : Nat) (w : World) (ha : Rd .u8 w a zs) (hz : zs.length ≤ maxLen) (hy : Bytes zs) (hs : s < 2147483648) (hn : n < 0) (he : errOf zs = 0) :
    Calls Try.prog 6 #[.slice a zs.length c, .int .i64 s, .int .i64 n] w fun e w' => e = .returned (.bool true) ∧ Below w.heap.size w w' := by
  have d1 : decide (0 ≤ (s : Int)) = true := by simp
  have d2 : decide ((s : Int) ≤ 2147483647) = true := by simp; omega
  have d3 : decide (n < 0) = true := by simpa using hn
  have HNO := hid (show noiseOk s n = false by simp [noiseOk]; omega)
  have HE := hid he
  have hb := bits_len hy he
  have hz4 := (err_zero he).2
  clear he
  have HZL := hid (noiseTo_length s zs.length)
  have HAL := hid (addTo_length zs (noiseTo s zs.length) zs.length)
  go_enter Try.func6, Try.ntmps6
  go_wp2_with fail
  refine (noise_bad _ _ _ HNO.out).mono ?_
  rintro e w1 ⟨rfl, rfl⟩
  go_wp2_with fail
  refine (cover_ok zs s a c _ ha hb HE.out hs).mono ?_
  rintro e w2 ⟨v2, rfl, hown2, hb2⟩
  obtain ⟨a2, c2, rfl, -⟩ := hown2.shape
  rw [HAL.out]
  have ha2 := ha.below hb2
  go_wp2_with fail
  refine (rbits_any zs a c _ ha2 hz hy).mono ?_
  rintro e w5 ⟨rfl, rfl⟩
  rw [HE.out]
  go_wp2_with fail
  refine (rnoise_any s zs.length _ hs hz4).mono ?_
  rintro e w6 ⟨v6, rfl, hown6, hb6⟩
  obtain ⟨a6, c6, rfl, -⟩ := hown6.shape
  rw [HZL.out]
  have ha6 := ha2.below hb6
  go_wp2_with fail
  refine (added_any zs _ a a6 c c6 zs.length _ ha6 hown6.rd hb (noise_bits s zs.length) HZL.out (Nat.le_refl _) hz4).mono ?_
  rintro e w7 ⟨v7, rfl, hown7, hb7⟩
  obtain ⟨a7, c7, rfl, -⟩ := hown7.shape
  rw [HAL.out]
  go_wp2_with fail
  refine (same_bitsM _ _ _ _ HAL.out HAL.out a2 a7 c2 c7 _ ((hown2.rd.below hb6).below hb7) hown7.rd (by unfold maxLen; omega) (by unfold maxLen; omega)).mono ?_
  rintro e w8 ⟨rfl, hb8⟩
  rw [decide_eq_true rfl]
  go_wp2
  go_ret
  exact ⟨rfl, (bthen (bthen (bthen hb2 hb6) hb7) hb8)⟩

set_option maxRecDepth 100000 in
set_option maxHeartbeats 1000000 in
theorem noise_ok_big_err (zs : List Int) (s : Nat) (n : Int) (a : Option Addr) (c : Nat) (w : World) (ha : Rd .u8 w a zs) (hz : zs.length ≤ maxLen) (hy : Bytes zs) (hs : s < 2147483648) (hn : 4096 < n) (he : errOf zs ≠ 0) :
    Calls Try.prog 6 #[.slice a zs.length c, .int .i64 s, .int .i64 n] w fun e w' => e = .returned (.bool true) ∧ Below w.heap.size w w' := by
  have d1 : decide (0 ≤ (s : Int)) = true := by simp
  have d2 : decide ((s : Int) ≤ 2147483647) = true := by simp; omega
  have d3 : decide (n < 0) = false := by simp; omega
  have d4 : decide (4096 < n) = true := by simpa using hn
  have HNO := hid (show noiseOk s n = false by simp [noiseOk]; omega)
  have hne : (errOf zs == 0) = false := by simpa using he
  have hne2 : (errOf zs != 0) = true := by simpa using he
  have HE := hid he
  clear he
  go_enter Try.func6, Try.ntmps6
  go_wp2_with fail
  refine (noise_bad _ _ _ HNO.out).mono ?_
  rintro e w1 ⟨rfl, rfl⟩
  go_wp2_with fail
  refine (cover_bits zs _ a c _ ha hz HE.out).mono ?_
  rintro e w2 ⟨rfl, rfl⟩
  go_wp2_with fail
  refine (rbits_any zs a c _ ha hz hy).mono ?_
  rintro e w5 ⟨rfl, rfl⟩
  go_wp2
  go_ret
  exact ⟨rfl, (Below.refl _ _)⟩

set_option maxRecDepth 100000 in
set_option maxHeartbeats 1000000 in
theorem noise_ok_big_ok (zs : List Int) (s : Nat) (n : Int) (a : Option Addr) (c : Nat) (w : World) (ha : Rd .u8 w a zs) (hz : zs.length ≤ maxLen) (hy : Bytes zs) (hs : s < 2147483648) (hn : 4096 < n) (he : errOf zs = 0) :
    Calls Try.prog 6 #[.slice a zs.length c, .int .i64 s, .int .i64 n] w fun e w' => e = .returned (.bool true) ∧ Below w.heap.size w w' := by
  have d1 : decide (0 ≤ (s : Int)) = true := by simp
  have d2 : decide ((s : Int) ≤ 2147483647) = true := by simp; omega
  have d3 : decide (n < 0) = false := by simp; omega
  have d4 : decide (4096 < n) = true := by simpa using hn
  have HNO := hid (show noiseOk s n = false by simp [noiseOk]; omega)
  have HE := hid he
  have hb := bits_len hy he
  have hz4 := (err_zero he).2
  clear he
  have HZL := hid (noiseTo_length s zs.length)
  have HAL := hid (addTo_length zs (noiseTo s zs.length) zs.length)
  go_enter Try.func6, Try.ntmps6
  go_wp2_with fail
  refine (noise_bad _ _ _ HNO.out).mono ?_
  rintro e w1 ⟨rfl, rfl⟩
  go_wp2_with fail
  refine (cover_ok zs s a c _ ha hb HE.out hs).mono ?_
  rintro e w2 ⟨v2, rfl, hown2, hb2⟩
  obtain ⟨a2, c2, rfl, -⟩ := hown2.shape
  rw [HAL.out]
  have ha2 := ha.below hb2
  go_wp2_with fail
  refine (rbits_any zs a c _ ha2 hz hy).mono ?_
  rintro e w5 ⟨rfl, rfl⟩
  rw [HE.out]
  go_wp2_with fail
  refine (rnoise_any s zs.length _ hs hz4).mono ?_
  rintro e w6 ⟨v6, rfl, hown6, hb6⟩
  obtain ⟨a6, c6, rfl, -⟩ := hown6.shape
  rw [HZL.out]
  have ha6 := ha2.below hb6
  go_wp2_with fail
  refine (added_any zs _ a a6 c c6 zs.length _ ha6 hown6.rd hb (noise_bits s zs.length) HZL.out (Nat.le_refl _) hz4).mono ?_
  rintro e w7 ⟨v7, rfl, hown7, hb7⟩
  obtain ⟨a7, c7, rfl, -⟩ := hown7.shape
  rw [HAL.out]
  go_wp2_with fail
  refine (same_bitsM _ _ _ _ HAL.out HAL.out a2 a7 c2 c7 _ ((hown2.rd.below hb6).below hb7) hown7.rd (by unfold maxLen; omega) (by unfold maxLen; omega)).mono ?_
  rintro e w8 ⟨rfl, hb8⟩
  rw [decide_eq_true rfl]
  go_wp2
  go_ret
  exact ⟨rfl, (bthen (bthen (bthen hb2 hb6) hb7) hb8)⟩

set_option maxRecDepth 100000 in
set_option maxHeartbeats 1000000 in
theorem noise_ok_ok_err (zs : List Int) (s : Nat) (n : Nat) (a : Option Addr) (c : Nat) (w : World) (ha : Rd .u8 w a zs) (hz : zs.length ≤ maxLen) (hy : Bytes zs) (hs : s < 2147483648) (hn : n ≤ 4096) (he : errOf zs ≠ 0) :
    Calls Try.prog 6 #[.slice a zs.length c, .int .i64 s, .int .i64 n] w fun e w' => e = .returned (.bool true) ∧ Below w.heap.size w w' := by
  have d1 : decide (0 ≤ (s : Int)) = true := by simp
  have d2 : decide ((s : Int) ≤ 2147483647) = true := by simp; omega
  have d3 : decide ((n : Int) < 0) = false := by simp
  have d4 : decide (4096 < (n : Int)) = false := by simp; omega
  have HNL := hid (noiseTo_length s n)
  have hne : (errOf zs == 0) = false := by simpa using he
  have hne2 : (errOf zs != 0) = true := by simpa using he
  have HE := hid he
  clear he
  go_enter Try.func6, Try.ntmps6
  go_wp2_with fail
  refine (noise_ok s n _ hs hn).mono ?_
  rintro e w1 ⟨v1, rfl, hown1, hb1⟩
  obtain ⟨a1, c1, rfl, -⟩ := hown1.shape
  rw [HNL.out]
  have ha1 := ha.below hb1
  go_wp2_with fail
  refine (cover_bits zs _ a c _ ha1 hz HE.out).mono ?_
  rintro e w2 ⟨rfl, rfl⟩
  go_wp2_with fail
  refine (rnoise_any s n _ hs hn).mono ?_
  rintro e w3 ⟨v3, rfl, hown3, hb3⟩
  obtain ⟨a3, c3, rfl, -⟩ := hown3.shape
  rw [HNL.out]
  have ha3 := ha1.below hb3
  go_wp2_with fail
  refine (same_bitsM _ _ _ _ HNL.out HNL.out a1 a3 c1 c3 _ (hown1.rd.below hb3) hown3.rd (by unfold maxLen; omega) (by unfold maxLen; omega)).mono ?_
  rintro e w4 ⟨rfl, hb4⟩
  rw [decide_eq_true rfl]
  have ha4 := ha3.below hb4
  go_wp2_with fail
  refine (rbits_any zs a c _ ha4 hz hy).mono ?_
  rintro e w5 ⟨rfl, rfl⟩
  go_wp2
  go_ret
  exact ⟨rfl, (bthen (bthen hb1 hb3) hb4)⟩

set_option maxRecDepth 100000 in
set_option maxHeartbeats 1000000 in
theorem noise_ok_ok_ok (zs : List Int) (s : Nat) (n : Nat) (a : Option Addr) (c : Nat) (w : World) (ha : Rd .u8 w a zs) (hz : zs.length ≤ maxLen) (hy : Bytes zs) (hs : s < 2147483648) (hn : n ≤ 4096) (he : errOf zs = 0) :
    Calls Try.prog 6 #[.slice a zs.length c, .int .i64 s, .int .i64 n] w fun e w' => e = .returned (.bool true) ∧ Below w.heap.size w w' := by
  have d1 : decide (0 ≤ (s : Int)) = true := by simp
  have d2 : decide ((s : Int) ≤ 2147483647) = true := by simp; omega
  have d3 : decide ((n : Int) < 0) = false := by simp
  have d4 : decide (4096 < (n : Int)) = false := by simp; omega
  have HNL := hid (noiseTo_length s n)
  have HE := hid he
  have hb := bits_len hy he
  have hz4 := (err_zero he).2
  clear he
  have HZL := hid (noiseTo_length s zs.length)
  have HAL := hid (addTo_length zs (noiseTo s zs.length) zs.length)
  go_enter Try.func6, Try.ntmps6
  go_wp2_with fail
  refine (noise_ok s n _ hs hn).mono ?_
  rintro e w1 ⟨v1, rfl, hown1, hb1⟩
  obtain ⟨a1, c1, rfl, -⟩ := hown1.shape
  rw [HNL.out]
  have ha1 := ha.below hb1
  go_wp2_with fail
  refine (cover_ok zs s a c _ ha1 hb HE.out hs).mono ?_
  rintro e w2 ⟨v2, rfl, hown2, hb2⟩
  obtain ⟨a2, c2, rfl, -⟩ := hown2.shape
  rw [HAL.out]
  have ha2 := ha1.below hb2
  go_wp2_with fail
  refine (rnoise_any s n _ hs hn).mono ?_
  rintro e w3 ⟨v3, rfl, hown3, hb3⟩
  obtain ⟨a3, c3, rfl, -⟩ := hown3.shape
  rw [HNL.out]
  have ha3 := ha2.below hb3
  go_wp2_with fail
  refine (same_bitsM _ _ _ _ HNL.out HNL.out a1 a3 c1 c3 _ ((hown1.rd.below hb2).below hb3) hown3.rd (by unfold maxLen; omega) (by unfold maxLen; omega)).mono ?_
  rintro e w4 ⟨rfl, hb4⟩
  rw [decide_eq_true rfl]
  have ha4 := ha3.below hb4
  go_wp2_with fail
  refine (rbits_any zs a c _ ha4 hz hy).mono ?_
  rintro e w5 ⟨rfl, rfl⟩
  rw [HE.out]
  go_wp2_with fail
  refine (rnoise_any s zs.length _ hs hz4).mono ?_
  rintro e w6 ⟨v6, rfl, hown6, hb6⟩
  obtain ⟨a6, c6, rfl, -⟩ := hown6.shape
  rw [HZL.out]
  have ha6 := ha4.below hb6
  go_wp2_with fail
  refine (added_any zs _ a a6 c c6 zs.length _ ha6 hown6.rd hb (noise_bits s zs.length) HZL.out (Nat.le_refl _) hz4).mono ?_
  rintro e w7 ⟨v7, rfl, hown7, hb7⟩
  obtain ⟨a7, c7, rfl, -⟩ := hown7.shape
  rw [HAL.out]
  go_wp2_with fail
  refine (same_bitsM _ _ _ _ HAL.out HAL.out a2 a7 c2 c7 _ ((((hown2.rd.below hb3).below hb4).below hb6).below hb7) hown7.rd (by unfold maxLen; omega) (by unfold maxLen; omega)).mono ?_
  rintro e w8 ⟨rfl, hb8⟩
  rw [decide_eq_true rfl]
  go_wp2
  go_ret
  exact ⟨rfl, (bthen (bthen (bthen (bthen (bthen (bthen hb1 hb2) hb3) hb4) hb6) hb7) hb8)⟩

end Go.Proofs.Ytojpmjfhomhbdaa
