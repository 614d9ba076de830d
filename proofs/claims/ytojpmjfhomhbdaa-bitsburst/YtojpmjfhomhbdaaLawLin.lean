import Derived.Test.YtojpmjfhomhbdaaLinM
import Derived.Test.YtojpmjfhomhbdaaPackU
import Derived.Test.YtojpmjfhomhbdaaGood
import Derived.Test.YtojpmjfhomhbdaaPack
import Derived.Test.YtojpmjfhomhbdaaUnpackG
import Derived.Test.YtojpmjfhomhbdaaLawSums
import Derived.Test.YtojpmjfhomhbdaaCover
namespace Go.Proofs.Ytojpmjfhomhbdaa
open Go.ChangeShapes Go.WideShapes Go.ChangeAt Go.RowKit

theorem Rd.takeO {k : IntKind} {w : World} {a : Option Addr} {zs : List Int} (h : Rd k w a zs) (n : Nat) : Rd k w a (zs.take n) := by
  intro hne
  have hz : zs ≠ [] := by rintro rfl; simp at hne
  obtain ⟨b, o, rfl, hc⟩ := h hz
  exact Rd.take hc n hne

theorem err_of_bits {zs : List Int} (h : Bits zs) (hz : zs.length ≤ 4096) : errOf zs = 0 := err_none (fun j _ => (h j).2) (by omega)

theorem bytes_of_bits {zs : List Int} (h : Bits zs) : Bytes zs := fun n hn => by
  obtain ⟨k, hk, rfl⟩ := List.getElem_of_mem hn
  have := h k
  have e : zs.getD k 0 = zs[k] := by simp [List.getD, hk]
  rw [e] at this
  omega

theorem sum_okN (zs : List Int) (n : Nat) (hn : zs.length = n) (k : Int) (a : Option Addr) (c : Nat) (w : World) (ha : Rd .u8 w a zs) (hy : Bytes zs) (h : errSum zs k = 0) :
    Calls Try.prog 16 #[.slice a n c, .int .i64 k] w fun e w' => ∃ a2 c2, e = .returned (.tuple #[.slice a2 (kW k) c2, .int .i64 0]) ∧ Rd .u8 w' a2 (ksum zs k) ∧ Below w.heap.size w w' := by
  subst hn
  refine (sum_ok zs k a c w ha hy h).mono fun e w' h' => ?_
  obtain ⟨v, rfl, hown, hb⟩ := h'
  obtain ⟨a2, c2, rfl, -⟩ := hown.shape
  refine ⟨a2, c2, ?_, hown.rd, hb⟩
  rw [ksum_length]

theorem sum_errN (zs : List Int) (n : Nat) (hn : zs.length = n) (k : Int) (a : Option Addr) (c : Nat) (w : World) (ha : Rd .u8 w a zs) (hz : n ≤ maxLen) (h : errSum zs k = 1) :
    Calls Try.prog 16 #[.slice a n c, .int .i64 k] w fun e w' => e = .returned (.tuple #[.slice none 0 0, .int .i64 1]) ∧ Below w.heap.size w w' := by
  subst hn
  have := sum_err zs k a c w ha hz (by rw [h]; decide)
  rwa [h] at this

theorem added_anyN (xs ys : List Int) (n m : Nat) (hn : xs.length = n) (a b : Option Addr) (ca cb : Nat) (w : World) (ha : Rd .u8 w a xs) (hb : Rd .u8 w b ys) (hx : Bits xs) (hy : Bits ys) (hl : ys.length = m) (hm : n ≤ m) (hz : m ≤ 4096) :
    Calls Try.prog 24 #[.slice a n ca, .slice b m cb] w fun e w' => ∃ a2 c2, e = .returned (.slice a2 n c2) ∧ Rd .u8 w' a2 (addTo xs ys n) ∧ Below w.heap.size w w' := by
  subst hn
  refine (added_any xs ys a b ca cb m w ha hb hx hy hl hm hz).mono fun e w' h' => ?_
  obtain ⟨v, rfl, hown, hb⟩ := h'
  obtain ⟨a2, c2, rfl, -⟩ := hown.shape
  refine ⟨a2, c2, ?_, hown.rd, hb⟩
  rw [addTo_length]

theorem cover_okN (zs : List Int) (n : Nat) (hn : zs.length = n) (s : Nat) (a : Option Addr) (c : Nat) (w : World) (ha : Rd .u8 w a zs) (hb : Bits zs) (he : errOf zs = 0) (hs : s < 2147483648) :
    Calls Try.prog 22 #[.slice a n c, .int .i64 s] w fun e w' => ∃ a2 c2, e = .returned (.tuple #[.slice a2 n c2, .int .i64 0]) ∧ Rd .u8 w' a2 (addTo zs (noiseTo s n) n) ∧ Below w.heap.size w w' := by
  subst hn
  refine (cover_ok zs s a c w ha hb he hs).mono fun e w' h' => ?_
  obtain ⟨v, rfl, hown, hb⟩ := h'
  obtain ⟨a2, c2, rfl, -⟩ := hown.shape
  refine ⟨a2, c2, ?_, hown.rd, hb⟩
  rw [addTo_length]

theorem cover_seedN (zs : List Int) (n : Nat) (hn : zs.length = n) (s : Int) (a : Option Addr) (c : Nat) (w : World) (ha : Rd .u8 w a zs) (hz : n ≤ maxLen) (he : errOf zs = 0) (hs : seedOk s = false) :
    Calls Try.prog 22 #[.slice a n c, .int .i64 s] w fun e w' => e = .returned (.tuple #[.slice none 0 0, .int .i64 1]) ∧ w = w' := by
  subst hn
  exact cover_seed zs s a c w ha hz he hs

theorem pack_okN (zs : List Int) (n : Nat) (hn : zs.length = n) (a : Option Addr) (c : Nat) (w : World) (ha : Rd .u8 w a zs) (hb : Bits zs) (hz : n ≤ 4096) (he : errOf zs = 0) :
    Calls Try.prog 10 #[.slice a n c] w fun e w' => e = .returned (.tuple #[.string (strOfNums (packL zs)), .int .i64 0]) ∧ Below w.heap.size w w' := by
  subst hn
  exact pack_ok zs a c w ha hb hz he

/-- What was packed is unpacked. -/
theorem unpack_okN (zs : List Int) (n : Nat) (hn : zs.length = n) (w : World) (hb : Bits zs) (hz : n ≤ 4096) :
    Calls Try.prog 11 #[.string (strOfNums (packL zs)), .int .i64 n] w fun e w' => ∃ a2 c2, e = .returned (.tuple #[.slice a2 n c2, .int .i64 0]) ∧ Rd .u8 w' a2 zs ∧ Below w.heap.size w w' := by
  subst hn
  obtain ⟨he, hl⟩ := unpack_pack hb hz
  have hs : (strOfNums (packL zs)).size ≤ 140737488355328 := by rw [strOfNums_size, packL_length]; omega
  refine (unpack_any (strOfNums (packL zs)) zs.length w hs).mono fun e w' h' => ?_
  obtain ⟨v, rfl, hown, hb⟩ := h'
  rw [hl] at hown
  obtain ⟨a2, c2, rfl, -⟩ := hown.shape
  exact ⟨a2, c2, by rw [he], hown.rd, hb⟩

theorem ksum_bits (zs : List Int) (k : Int) : Bits (ksum zs k) := fun j => by
  unfold ksum sumL
  by_cases h : j < kW k
  · have : (sumTo (kW k) (kP k) zs (kW k)).getD j 0 = b2i ((crc (kW k) (kP k) zs).testBit (kW k - 1 - j)) := by simp [sumTo, List.getD, h]
    rw [this]; exact b2i_bd _
  · have : (sumTo (kW k) (kP k) zs (kW k)).getD j 0 = 0 := by simp [sumTo, List.getD, h]
    rw [this]; omega

set_option maxRecDepth 100000 in
set_option maxHeartbeats 2000000 in
theorem lin_yes_ok (xs ys : List Int) (k : Int) (s : Nat) (a b : Option Addr) (ca cb : Nat) (w : World) (ha : Rd .u8 w a xs) (hb : Rd .u8 w b ys) (hx : xs.length ≤ maxLen) (hy : ys.length ≤ maxLen) (bx : Bytes xs) (by' : Bytes ys) (hk : isKind k = true) (hs : s < 2147483648) :
    Calls Try.prog 8 #[.slice a xs.length ca, .slice b ys.length cb, .int .i64 k, .int .i64 s] w fun e w' => e = .returned (.bool true) ∧ Below w.heap.size w w' := by
  have HK := hid hk
  obtain ⟨hD, hW1, hW, hR⟩ := kind_div hk
  clear hk
  have hnil := fun (wx : World) (ad : Option Addr) (x y : Nat) => Lib.run_eql_slice_nil (P := Try.prog) wx 24 3 ad x y 0 0 Try.underlying24
  go_enter Try.func8, Try.ntmps8
  go_wp2_with fail
  refine (good_any xs 4096 a ca _ ha hx bx (by omega)).mono ?_
  rintro e w1 ⟨v1, rfl, hown1, hb1⟩
  obtain ⟨a1, c1, rfl, hn1, hl1, hm1⟩ := hown1.shape
  go_wp2_with fail
  refine (good_any ys 4096 b cb _ (hb.below hb1) hy by' (by omega)).mono ?_
  rintro e w2 ⟨v2, rfl, hown2, hb2⟩
  obtain ⟨a2, c2, rfl, hn2, hl2, hm2⟩ := hown2.shape
  obtain ⟨n, hn⟩ : ∃ n, n = min (goodTo xs 4096).length (goodTo ys 4096).length := ⟨_, rfl⟩
  have e1 := goodTo_length xs 4096
  have e2 := goodTo_length ys 4096
  have hnl1 : n ≤ (goodTo xs 4096).length := by omega
  have hnl2 : n ≤ (goodTo ys 4096).length := by omega
  have hn4 : n ≤ 4096 := by omega
  have bG1 := goodTo_bits xs 4096
  have bG2 := goodTo_bits ys 4096
  unfold maxLen at hm1 hm2
  generalize goodTo xs 4096 = G1 at *
  generalize goodTo ys 4096 = G2 at *
  have rA := (hown1.rd.below hb2).takeO n
  have rB := hown2.rd.takeO n
  have lA := hid (show (G1.take n).length = n by rw [List.length_take]; omega)
  have lB := hid (show (G2.take n).length = n by rw [List.length_take]; omega)
  have bA := bits_take bG1 n
  have bB := bits_take bG2 n
  have hbw := bthen hb1 hb2
  clear e1 e2 hn1 hn2 hown1 hown2 hb1 hb2 bG1 bG2
  have HMN : (n = G1.length ∧ G1.length ≤ G2.length) ∨ (n = G2.length ∧ G2.length < G1.length) := by omega
  clear hn
  rcases HMN with ⟨hnn, hle⟩ | ⟨hnn, hle⟩
  all_goals
    have HNN := hid hnn
    clear hnn
    go_wp2_with fail
    go_quiet (fail)
    rw [← HNN.out]
    have rA0 : Rd .u8 (w2.drewN nq) a1 (G1.take n) := rA
    have rB0 : Rd .u8 (w2.drewN nq) a2 (G2.take n) := rB
    have hbq := below_drewN hbw nq
    generalize w2.drewN nq = wq at *
    generalize G1.take n = A at *
    generalize G2.take n = B at *
    clear rA rB hbw HNN hle hl1 hl2 hnl1 hnl2
    have eA := hid (err_of_bits bA (by rw [lA.out]; exact hn4))
    have eB := hid (err_of_bits bB (by rw [lB.out]; exact hn4))
    have yA := bytes_of_bits bA
    have yB := bytes_of_bits bB
    have lAB := hid (addTo_length A B n)
    have bAB := addTo_bits A B n
    have sA := hid (show errSum A k = 0 by unfold errSum; rw [if_pos eA.out, HK.out]; rfl)
    have sB := hid (show errSum B k = 0 by unfold errSum; rw [if_pos eB.out, HK.out]; rfl)
    have eAB := hid (err_of_bits bAB (by rw [lAB.out]; exact hn4))
    have sAB := hid (show errSum (addTo A B n) k = 0 by unfold errSum; rw [if_pos eAB.out, HK.out]; rfl)
    have lkA := hid (ksum_length A k)
    have lkB := hid (ksum_length B k)
    have lkAB := hid (ksum_length (addTo A B n) k)
    have lAdd := hid (addTo_length (ksum A k) (ksum B k) (kW k))
    have HSUM := hid (show ksum (addTo A B n) k = addTo (ksum A k) (ksum B k) (kW k) from sum_add hD bA bB n lA.out lB.out)
    have bkA := ksum_bits A k
    have bkB := ksum_bits B k
    go_wp2_with fail
    refine (sum_okN A n lA.out k _ _ _ rA0 yA sA.out).mono ?_
    rintro e w4 ⟨a4, c4, rfl, r4, hb4⟩
    have rA4 := rA0.below hb4
    have rB4 := rB0.below hb4
    go_wp2_with fail
    refine (sum_okN B n lB.out k _ _ _ rB4 yB sB.out).mono ?_
    rintro e w5 ⟨a5, c5, rfl, r5, hb5⟩
    have rA5 := rA4.below hb5
    have rB5 := rB4.below hb5
    go_wp2_with fail
    refine (added_anyN A B n n lA.out _ _ _ _ _ rA5 rB5 bA bB lB.out (Nat.le_refl _) hn4).mono ?_
    rintro e w6 ⟨a6, c6, rfl, r6, hb6⟩
    go_wp2_with fail
    refine (sum_okN (addTo A B n) n lAB.out k _ _ _ r6 (bytes_of_bits bAB) sAB.out).mono ?_
    rintro e w7 ⟨a7, c7, rfl, r7, hb7⟩
    have rx7 := ((r4.below hb5).below hb6).below hb7
    have ry7 := (r5.below hb6).below hb7
    have rA7 := (rA5.below hb6).below hb7
    go_wp2_with fail
    refine (added_anyN (ksum A k) (ksum B k) (kW k) (kW k) lkA.out _ _ _ _ _ rx7 ry7 bkA bkB lkB.out (Nat.le_refl _) (by omega)).mono ?_
    rintro e w8 ⟨a8, c8, rfl, r8, hb8⟩
    go_wp2_with fail
    refine (same_bitsN _ _ _ _ lkAB.out lAdd.out _ _ _ _ _ (r7.below hb8) r8 (by unfold maxLen; omega) (by unfold maxLen; omega)).mono ?_
    rintro e w9 ⟨rfl, hb9⟩
    rw [decide_eq_true HSUM.out]
    have rA9 := (rA7.below hb8).below hb9
    have hbT := bthen hbq (bthen (bthen (bthen (bthen (bthen hb4 hb5) hb6) hb7) hb8) hb9)
    clear r4 r5 r6 r7 r8 rx7 ry7 rA4 rA5 rA7 rB4 rB5 hb4 hb5 hb6 hb7 hb8 hb9 rA0 rB0 hbq
    have lC := hid (addTo_length A (noiseTo s n) n)
    have bC := addTo_bits A (noiseTo s n) n
    have eC := hid (err_of_bits bC (by rw [lC.out]; exact hn4))
    have HTW := hid (add_twice bA (noise_bits s n) n lA.out)
    go_wp2_with fail
    refine (cover_okN A n lA.out s _ _ _ rA9 bA eA.out hs).mono ?_
    rintro e w10 ⟨a10, c10, rfl, r10, hb10⟩
    have rA10 := rA9.below hb10
    go_wp2_with fail
    refine (cover_okN _ n lC.out s _ _ _ r10 bC eC.out hs).mono ?_
    rintro e w11 ⟨a11, c11, rfl, r11, hb11⟩
    rw [HTW.out] at r11
    have rA11 := rA10.below hb11
    have hbU := bthen hbT (bthen hb10 hb11)
    clear r10 rA10 rA9
    go_wp2_with fail
    refine (pack_okN A n lA.out _ _ _ rA11 bA hn4 eA.out).mono ?_
    rintro e w12 ⟨rfl, hb12⟩
    have rA12 := rA11.below hb12
    go_wp2_with fail
    refine (unpack_okN A n lA.out _ bA hn4).mono ?_
    rintro e w13 ⟨a13, c13, rfl, r13, hb13⟩
    have rA13 := rA12.below hb13
    have hbV := bthen hbU (bthen hb12 hb13)
    have r11b := (r11.below hb12).below hb13
    go_wp2_with fail
    refine (same_bitsN A A n n lA.out lA.out _ _ _ _ _ r11b rA13 (by unfold maxLen; omega) (by unfold maxLen; omega)).mono ?_
    rintro e w14 ⟨rfl, hb14⟩
    rw [decide_eq_true rfl]
    have r13b := r13.below hb14
    have rA14 := rA13.below hb14
    have hbX := bthen hbV hb14
    go_wp2_with fail
    refine (same_bitsN A A n n lA.out lA.out _ _ _ _ _ r13b rA14 (by unfold maxLen; omega) (by unfold maxLen; omega)).mono ?_
    rintro e w15 ⟨rfl, hb15⟩
    rw [decide_eq_true rfl]
    have hbY := bthen hbX hb15
    go_wp2
    go_ret
    exact ⟨rfl, hbY⟩

set_option maxRecDepth 100000 in
set_option maxHeartbeats 2000000 in
theorem lin_yes_bad (xs ys : List Int) (k : Int) (s : Int) (a b : Option Addr) (ca cb : Nat) (w : World) (ha : Rd .u8 w a xs) (hb : Rd .u8 w b ys) (hx : xs.length ≤ maxLen) (hy : ys.length ≤ maxLen) (bx : Bytes xs) (by' : Bytes ys) (hk : isKind k = true) (hs : seedOk s = false) :
    Calls Try.prog 8 #[.slice a xs.length ca, .slice b ys.length cb, .int .i64 k, .int .i64 s] w fun e w' => e = .returned (.bool true) ∧ Below w.heap.size w w' := by
  have HK := hid hk
  obtain ⟨hD, hW1, hW, hR⟩ := kind_div hk
  have HS := hid hs
  clear hs
  clear hk
  have hnil := fun (wx : World) (ad : Option Addr) (x y : Nat) => Lib.run_eql_slice_nil (P := Try.prog) wx 24 3 ad x y 0 0 Try.underlying24
  go_enter Try.func8, Try.ntmps8
  go_wp2_with fail
  refine (good_any xs 4096 a ca _ ha hx bx (by omega)).mono ?_
  rintro e w1 ⟨v1, rfl, hown1, hb1⟩
  obtain ⟨a1, c1, rfl, hn1, hl1, hm1⟩ := hown1.shape
  go_wp2_with fail
  refine (good_any ys 4096 b cb _ (hb.below hb1) hy by' (by omega)).mono ?_
  rintro e w2 ⟨v2, rfl, hown2, hb2⟩
  obtain ⟨a2, c2, rfl, hn2, hl2, hm2⟩ := hown2.shape
  obtain ⟨n, hn⟩ : ∃ n, n = min (goodTo xs 4096).length (goodTo ys 4096).length := ⟨_, rfl⟩
  have e1 := goodTo_length xs 4096
  have e2 := goodTo_length ys 4096
  have hnl1 : n ≤ (goodTo xs 4096).length := by omega
  have hnl2 : n ≤ (goodTo ys 4096).length := by omega
  have hn4 : n ≤ 4096 := by omega
  have bG1 := goodTo_bits xs 4096
  have bG2 := goodTo_bits ys 4096
  unfold maxLen at hm1 hm2
  generalize goodTo xs 4096 = G1 at *
  generalize goodTo ys 4096 = G2 at *
  have rA := (hown1.rd.below hb2).takeO n
  have rB := hown2.rd.takeO n
  have lA := hid (show (G1.take n).length = n by rw [List.length_take]; omega)
  have lB := hid (show (G2.take n).length = n by rw [List.length_take]; omega)
  have bA := bits_take bG1 n
  have bB := bits_take bG2 n
  have hbw := bthen hb1 hb2
  clear e1 e2 hn1 hn2 hown1 hown2 hb1 hb2 bG1 bG2
  have HMN : (n = G1.length ∧ G1.length ≤ G2.length) ∨ (n = G2.length ∧ G2.length < G1.length) := by omega
  clear hn
  rcases HMN with ⟨hnn, hle⟩ | ⟨hnn, hle⟩
  all_goals
    have HNN := hid hnn
    clear hnn
    go_wp2_with fail
    go_quiet (fail)
    rw [← HNN.out]
    have rA0 : Rd .u8 (w2.drewN nq) a1 (G1.take n) := rA
    have rB0 : Rd .u8 (w2.drewN nq) a2 (G2.take n) := rB
    have hbq := below_drewN hbw nq
    generalize w2.drewN nq = wq at *
    generalize G1.take n = A at *
    generalize G2.take n = B at *
    clear rA rB hbw HNN hle hl1 hl2 hnl1 hnl2
    have eA := hid (err_of_bits bA (by rw [lA.out]; exact hn4))
    have eB := hid (err_of_bits bB (by rw [lB.out]; exact hn4))
    have yA := bytes_of_bits bA
    have yB := bytes_of_bits bB
    have lAB := hid (addTo_length A B n)
    have bAB := addTo_bits A B n
    have sA := hid (show errSum A k = 0 by unfold errSum; rw [if_pos eA.out, HK.out]; rfl)
    have sB := hid (show errSum B k = 0 by unfold errSum; rw [if_pos eB.out, HK.out]; rfl)
    have eAB := hid (err_of_bits bAB (by rw [lAB.out]; exact hn4))
    have sAB := hid (show errSum (addTo A B n) k = 0 by unfold errSum; rw [if_pos eAB.out, HK.out]; rfl)
    have lkA := hid (ksum_length A k)
    have lkB := hid (ksum_length B k)
    have lkAB := hid (ksum_length (addTo A B n) k)
    have lAdd := hid (addTo_length (ksum A k) (ksum B k) (kW k))
    have HSUM := hid (show ksum (addTo A B n) k = addTo (ksum A k) (ksum B k) (kW k) from sum_add hD bA bB n lA.out lB.out)
    have bkA := ksum_bits A k
    have bkB := ksum_bits B k
    go_wp2_with fail
    refine (sum_okN A n lA.out k _ _ _ rA0 yA sA.out).mono ?_
    rintro e w4 ⟨a4, c4, rfl, r4, hb4⟩
    have rA4 := rA0.below hb4
    have rB4 := rB0.below hb4
    go_wp2_with fail
    refine (sum_okN B n lB.out k _ _ _ rB4 yB sB.out).mono ?_
    rintro e w5 ⟨a5, c5, rfl, r5, hb5⟩
    have rA5 := rA4.below hb5
    have rB5 := rB4.below hb5
    go_wp2_with fail
    refine (added_anyN A B n n lA.out _ _ _ _ _ rA5 rB5 bA bB lB.out (Nat.le_refl _) hn4).mono ?_
    rintro e w6 ⟨a6, c6, rfl, r6, hb6⟩
    go_wp2_with fail
    refine (sum_okN (addTo A B n) n lAB.out k _ _ _ r6 (bytes_of_bits bAB) sAB.out).mono ?_
    rintro e w7 ⟨a7, c7, rfl, r7, hb7⟩
    have rx7 := ((r4.below hb5).below hb6).below hb7
    have ry7 := (r5.below hb6).below hb7
    have rA7 := (rA5.below hb6).below hb7
    go_wp2_with fail
    refine (added_anyN (ksum A k) (ksum B k) (kW k) (kW k) lkA.out _ _ _ _ _ rx7 ry7 bkA bkB lkB.out (Nat.le_refl _) (by omega)).mono ?_
    rintro e w8 ⟨a8, c8, rfl, r8, hb8⟩
    go_wp2_with fail
    refine (same_bitsN _ _ _ _ lkAB.out lAdd.out _ _ _ _ _ (r7.below hb8) r8 (by unfold maxLen; omega) (by unfold maxLen; omega)).mono ?_
    rintro e w9 ⟨rfl, hb9⟩
    rw [decide_eq_true HSUM.out]
    have rA9 := (rA7.below hb8).below hb9
    have hbT := bthen hbq (bthen (bthen (bthen (bthen (bthen hb4 hb5) hb6) hb7) hb8) hb9)
    clear r4 r5 r6 r7 r8 rx7 ry7 rA4 rA5 rA7 rB4 rB5 hb4 hb5 hb6 hb7 hb8 hb9 rA0 rB0 hbq
    have eN := hid (show errOf ([] : List Int) = 0 from rfl)
    go_wp2_with fail
    refine (cover_seedN A n lA.out s _ _ _ rA9 (by unfold maxLen; omega) eA.out HS.out).mono ?_
    rintro e w10 ⟨rfl, rfl⟩
    go_wp2_with fail
    refine (cover_seedN [] 0 rfl s _ _ _ (Rd.nil _ _ _) (by unfold maxLen; omega) eN.out HS.out).mono ?_
    rintro e w11 ⟨rfl, rfl⟩
    have rA11 := rA9
    have hbU := hbT
    go_wp2_with fail
    refine (pack_okN A n lA.out _ _ _ rA11 bA hn4 eA.out).mono ?_
    rintro e w12 ⟨rfl, hb12⟩
    have rA12 := rA11.below hb12
    go_wp2_with fail
    refine (unpack_okN A n lA.out _ bA hn4).mono ?_
    rintro e w13 ⟨a13, c13, rfl, r13, hb13⟩
    have rA13 := rA12.below hb13
    have hbV := bthen hbU (bthen hb12 hb13)
    go_wp2_with fail
    refine (same_bitsN A A n n lA.out lA.out _ _ _ _ _ r13 rA13 (by unfold maxLen; omega) (by unfold maxLen; omega)).mono ?_
    rintro e w15 ⟨rfl, hb15⟩
    rw [decide_eq_true rfl]
    have hbY := bthen hbV hb15
    go_wp2
    go_ret
    exact ⟨rfl, hbY⟩

set_option maxRecDepth 100000 in
set_option maxHeartbeats 2000000 in
theorem lin_no_ok (xs ys : List Int) (k : Int) (s : Nat) (a b : Option Addr) (ca cb : Nat) (w : World) (ha : Rd .u8 w a xs) (hb : Rd .u8 w b ys) (hx : xs.length ≤ maxLen) (hy : ys.length ≤ maxLen) (bx : Bytes xs) (by' : Bytes ys) (hk : isKind k = false) (hs : s < 2147483648) :
    Calls Try.prog 8 #[.slice a xs.length ca, .slice b ys.length cb, .int .i64 k, .int .i64 s] w fun e w' => e = .returned (.bool true) ∧ Below w.heap.size w w' := by
  have HK := hid hk
  clear hk
  have hnil := fun (wx : World) (ad : Option Addr) (x y : Nat) => Lib.run_eql_slice_nil (P := Try.prog) wx 24 3 ad x y 0 0 Try.underlying24
  go_enter Try.func8, Try.ntmps8
  go_wp2_with fail
  refine (good_any xs 4096 a ca _ ha hx bx (by omega)).mono ?_
  rintro e w1 ⟨v1, rfl, hown1, hb1⟩
  obtain ⟨a1, c1, rfl, hn1, hl1, hm1⟩ := hown1.shape
  go_wp2_with fail
  refine (good_any ys 4096 b cb _ (hb.below hb1) hy by' (by omega)).mono ?_
  rintro e w2 ⟨v2, rfl, hown2, hb2⟩
  obtain ⟨a2, c2, rfl, hn2, hl2, hm2⟩ := hown2.shape
  obtain ⟨n, hn⟩ : ∃ n, n = min (goodTo xs 4096).length (goodTo ys 4096).length := ⟨_, rfl⟩
  have e1 := goodTo_length xs 4096
  have e2 := goodTo_length ys 4096
  have hnl1 : n ≤ (goodTo xs 4096).length := by omega
  have hnl2 : n ≤ (goodTo ys 4096).length := by omega
  have hn4 : n ≤ 4096 := by omega
  have bG1 := goodTo_bits xs 4096
  have bG2 := goodTo_bits ys 4096
  unfold maxLen at hm1 hm2
  generalize goodTo xs 4096 = G1 at *
  generalize goodTo ys 4096 = G2 at *
  have rA := (hown1.rd.below hb2).takeO n
  have rB := hown2.rd.takeO n
  have lA := hid (show (G1.take n).length = n by rw [List.length_take]; omega)
  have lB := hid (show (G2.take n).length = n by rw [List.length_take]; omega)
  have bA := bits_take bG1 n
  have bB := bits_take bG2 n
  have hbw := bthen hb1 hb2
  clear e1 e2 hn1 hn2 hown1 hown2 hb1 hb2 bG1 bG2
  have HMN : (n = G1.length ∧ G1.length ≤ G2.length) ∨ (n = G2.length ∧ G2.length < G1.length) := by omega
  clear hn
  rcases HMN with ⟨hnn, hle⟩ | ⟨hnn, hle⟩
  all_goals
    have HNN := hid hnn
    clear hnn
    go_wp2_with fail
    go_quiet (fail)
    rw [← HNN.out]
    have rA0 : Rd .u8 (w2.drewN nq) a1 (G1.take n) := rA
    have rB0 : Rd .u8 (w2.drewN nq) a2 (G2.take n) := rB
    have hbq := below_drewN hbw nq
    generalize w2.drewN nq = wq at *
    generalize G1.take n = A at *
    generalize G2.take n = B at *
    clear rA rB hbw HNN hle hl1 hl2 hnl1 hnl2
    have eA := hid (err_of_bits bA (by rw [lA.out]; exact hn4))
    have eB := hid (err_of_bits bB (by rw [lB.out]; exact hn4))
    have yA := bytes_of_bits bA
    have yB := bytes_of_bits bB
    have lAB := hid (addTo_length A B n)
    have bAB := addTo_bits A B n
    have sA := hid (show errSum A k = 1 by unfold errSum; rw [if_pos eA.out, HK.out]; rfl)
    have sB := hid (show errSum B k = 1 by unfold errSum; rw [if_pos eB.out, HK.out]; rfl)
    have eAB := hid (err_of_bits bAB (by rw [lAB.out]; exact hn4))
    have sAB := hid (show errSum (addTo A B n) k = 1 by unfold errSum; rw [if_pos eAB.out, HK.out]; rfl)
    go_wp2_with fail
    refine (sum_errN A n lA.out k _ _ _ rA0 (by unfold maxLen; omega) sA.out).mono ?_
    rintro e w4 ⟨rfl, hb4⟩
    have rA4 := rA0.below hb4
    have rB4 := rB0.below hb4
    go_wp2_with fail
    refine (sum_errN B n lB.out k _ _ _ rB4 (by unfold maxLen; omega) sB.out).mono ?_
    rintro e w5 ⟨rfl, hb5⟩
    have rA5 := rA4.below hb5
    have rB5 := rB4.below hb5
    go_wp2_with fail
    refine (added_anyN A B n n lA.out _ _ _ _ _ rA5 rB5 bA bB lB.out (Nat.le_refl _) hn4).mono ?_
    rintro e w6 ⟨a6, c6, rfl, r6, hb6⟩
    go_wp2_with fail
    refine (sum_errN (addTo A B n) n lAB.out k _ _ _ r6 (by unfold maxLen; omega) sAB.out).mono ?_
    rintro e w9 ⟨rfl, hb7⟩
    have rA9 := (rA5.below hb6).below hb7
    have hbT := bthen hbq (bthen (bthen (bthen hb4 hb5) hb6) hb7)
    clear r6 rA4 rA5 rB4 rB5 hb4 hb5 hb6 hb7 rA0 rB0 hbq
    have lC := hid (addTo_length A (noiseTo s n) n)
    have bC := addTo_bits A (noiseTo s n) n
    have eC := hid (err_of_bits bC (by rw [lC.out]; exact hn4))
    have HTW := hid (add_twice bA (noise_bits s n) n lA.out)
    go_wp2_with fail
    refine (cover_okN A n lA.out s _ _ _ rA9 bA eA.out hs).mono ?_
    rintro e w10 ⟨a10, c10, rfl, r10, hb10⟩
    have rA10 := rA9.below hb10
    go_wp2_with fail
    refine (cover_okN _ n lC.out s _ _ _ r10 bC eC.out hs).mono ?_
    rintro e w11 ⟨a11, c11, rfl, r11, hb11⟩
    rw [HTW.out] at r11
    have rA11 := rA10.below hb11
    have hbU := bthen hbT (bthen hb10 hb11)
    clear r10 rA10 rA9
    go_wp2_with fail
    refine (pack_okN A n lA.out _ _ _ rA11 bA hn4 eA.out).mono ?_
    rintro e w12 ⟨rfl, hb12⟩
    have rA12 := rA11.below hb12
    go_wp2_with fail
    refine (unpack_okN A n lA.out _ bA hn4).mono ?_
    rintro e w13 ⟨a13, c13, rfl, r13, hb13⟩
    have rA13 := rA12.below hb13
    have hbV := bthen hbU (bthen hb12 hb13)
    have r11b := (r11.below hb12).below hb13
    go_wp2_with fail
    refine (same_bitsN A A n n lA.out lA.out _ _ _ _ _ r11b rA13 (by unfold maxLen; omega) (by unfold maxLen; omega)).mono ?_
    rintro e w14 ⟨rfl, hb14⟩
    rw [decide_eq_true rfl]
    have r13b := r13.below hb14
    have rA14 := rA13.below hb14
    have hbX := bthen hbV hb14
    go_wp2_with fail
    refine (same_bitsN A A n n lA.out lA.out _ _ _ _ _ r13b rA14 (by unfold maxLen; omega) (by unfold maxLen; omega)).mono ?_
    rintro e w15 ⟨rfl, hb15⟩
    rw [decide_eq_true rfl]
    have hbY := bthen hbX hb15
    go_wp2_with fail
    refine (rdivisor_no k _ HK.out).mono ?_
    rintro e w16 ⟨rfl, rfl⟩
    go_wp2
    go_ret
    exact ⟨rfl, hbY⟩

set_option maxRecDepth 100000 in
set_option maxHeartbeats 2000000 in
theorem lin_no_bad (xs ys : List Int) (k : Int) (s : Int) (a b : Option Addr) (ca cb : Nat) (w : World) (ha : Rd .u8 w a xs) (hb : Rd .u8 w b ys) (hx : xs.length ≤ maxLen) (hy : ys.length ≤ maxLen) (bx : Bytes xs) (by' : Bytes ys) (hk : isKind k = false) (hs : seedOk s = false) :
    Calls Try.prog 8 #[.slice a xs.length ca, .slice b ys.length cb, .int .i64 k, .int .i64 s] w fun e w' => e = .returned (.bool true) ∧ Below w.heap.size w w' := by
  have HK := hid hk
  have HS := hid hs
  clear hs
  clear hk
  have hnil := fun (wx : World) (ad : Option Addr) (x y : Nat) => Lib.run_eql_slice_nil (P := Try.prog) wx 24 3 ad x y 0 0 Try.underlying24
  go_enter Try.func8, Try.ntmps8
  go_wp2_with fail
  refine (good_any xs 4096 a ca _ ha hx bx (by omega)).mono ?_
  rintro e w1 ⟨v1, rfl, hown1, hb1⟩
  obtain ⟨a1, c1, rfl, hn1, hl1, hm1⟩ := hown1.shape
  go_wp2_with fail
  refine (good_any ys 4096 b cb _ (hb.below hb1) hy by' (by omega)).mono ?_
  rintro e w2 ⟨v2, rfl, hown2, hb2⟩
  obtain ⟨a2, c2, rfl, hn2, hl2, hm2⟩ := hown2.shape
  obtain ⟨n, hn⟩ : ∃ n, n = min (goodTo xs 4096).length (goodTo ys 4096).length := ⟨_, rfl⟩
  have e1 := goodTo_length xs 4096
  have e2 := goodTo_length ys 4096
  have hnl1 : n ≤ (goodTo xs 4096).length := by omega
  have hnl2 : n ≤ (goodTo ys 4096).length := by omega
  have hn4 : n ≤ 4096 := by omega
  have bG1 := goodTo_bits xs 4096
  have bG2 := goodTo_bits ys 4096
  unfold maxLen at hm1 hm2
  generalize goodTo xs 4096 = G1 at *
  generalize goodTo ys 4096 = G2 at *
  have rA := (hown1.rd.below hb2).takeO n
  have rB := hown2.rd.takeO n
  have lA := hid (show (G1.take n).length = n by rw [List.length_take]; omega)
  have lB := hid (show (G2.take n).length = n by rw [List.length_take]; omega)
  have bA := bits_take bG1 n
  have bB := bits_take bG2 n
  have hbw := bthen hb1 hb2
  clear e1 e2 hn1 hn2 hown1 hown2 hb1 hb2 bG1 bG2
  have HMN : (n = G1.length ∧ G1.length ≤ G2.length) ∨ (n = G2.length ∧ G2.length < G1.length) := by omega
  clear hn
  rcases HMN with ⟨hnn, hle⟩ | ⟨hnn, hle⟩
  all_goals
    have HNN := hid hnn
    clear hnn
    go_wp2_with fail
    go_quiet (fail)
    rw [← HNN.out]
    have rA0 : Rd .u8 (w2.drewN nq) a1 (G1.take n) := rA
    have rB0 : Rd .u8 (w2.drewN nq) a2 (G2.take n) := rB
    have hbq := below_drewN hbw nq
    generalize w2.drewN nq = wq at *
    generalize G1.take n = A at *
    generalize G2.take n = B at *
    clear rA rB hbw HNN hle hl1 hl2 hnl1 hnl2
    have eA := hid (err_of_bits bA (by rw [lA.out]; exact hn4))
    have eB := hid (err_of_bits bB (by rw [lB.out]; exact hn4))
    have yA := bytes_of_bits bA
    have yB := bytes_of_bits bB
    have lAB := hid (addTo_length A B n)
    have bAB := addTo_bits A B n
    have sA := hid (show errSum A k = 1 by unfold errSum; rw [if_pos eA.out, HK.out]; rfl)
    have sB := hid (show errSum B k = 1 by unfold errSum; rw [if_pos eB.out, HK.out]; rfl)
    have eAB := hid (err_of_bits bAB (by rw [lAB.out]; exact hn4))
    have sAB := hid (show errSum (addTo A B n) k = 1 by unfold errSum; rw [if_pos eAB.out, HK.out]; rfl)
    go_wp2_with fail
    refine (sum_errN A n lA.out k _ _ _ rA0 (by unfold maxLen; omega) sA.out).mono ?_
    rintro e w4 ⟨rfl, hb4⟩
    have rA4 := rA0.below hb4
    have rB4 := rB0.below hb4
    go_wp2_with fail
    refine (sum_errN B n lB.out k _ _ _ rB4 (by unfold maxLen; omega) sB.out).mono ?_
    rintro e w5 ⟨rfl, hb5⟩
    have rA5 := rA4.below hb5
    have rB5 := rB4.below hb5
    go_wp2_with fail
    refine (added_anyN A B n n lA.out _ _ _ _ _ rA5 rB5 bA bB lB.out (Nat.le_refl _) hn4).mono ?_
    rintro e w6 ⟨a6, c6, rfl, r6, hb6⟩
    go_wp2_with fail
    refine (sum_errN (addTo A B n) n lAB.out k _ _ _ r6 (by unfold maxLen; omega) sAB.out).mono ?_
    rintro e w9 ⟨rfl, hb7⟩
    have rA9 := (rA5.below hb6).below hb7
    have hbT := bthen hbq (bthen (bthen (bthen hb4 hb5) hb6) hb7)
    clear r6 rA4 rA5 rB4 rB5 hb4 hb5 hb6 hb7 rA0 rB0 hbq
    have eN := hid (show errOf ([] : List Int) = 0 from rfl)
    go_wp2_with fail
    refine (cover_seedN A n lA.out s _ _ _ rA9 (by unfold maxLen; omega) eA.out HS.out).mono ?_
    rintro e w10 ⟨rfl, rfl⟩
    go_wp2_with fail
    refine (cover_seedN [] 0 rfl s _ _ _ (Rd.nil _ _ _) (by unfold maxLen; omega) eN.out HS.out).mono ?_
    rintro e w11 ⟨rfl, rfl⟩
    have rA11 := rA9
    have hbU := hbT
    go_wp2_with fail
    refine (pack_okN A n lA.out _ _ _ rA11 bA hn4 eA.out).mono ?_
    rintro e w12 ⟨rfl, hb12⟩
    have rA12 := rA11.below hb12
    go_wp2_with fail
    refine (unpack_okN A n lA.out _ bA hn4).mono ?_
    rintro e w13 ⟨a13, c13, rfl, r13, hb13⟩
    have rA13 := rA12.below hb13
    have hbV := bthen hbU (bthen hb12 hb13)
    go_wp2_with fail
    refine (same_bitsN A A n n lA.out lA.out _ _ _ _ _ r13 rA13 (by unfold maxLen; omega) (by unfold maxLen; omega)).mono ?_
    rintro e w15 ⟨rfl, hb15⟩
    rw [decide_eq_true rfl]
    have hbY := bthen hbV hb15
    go_wp2_with fail
    refine (rdivisor_no k _ HK.out).mono ?_
    rintro e w16 ⟨rfl, rfl⟩
    go_wp2
    go_ret
    exact ⟨rfl, hbY⟩

end Go.Proofs.Ytojpmjfhomhbdaa
