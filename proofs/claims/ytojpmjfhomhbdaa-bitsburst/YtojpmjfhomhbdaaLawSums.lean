import Derived.Test.YtojpmjfhomhbdaaFrame
import Derived.Test.YtojpmjfhomhbdaaSame
import Derived.Test.YtojpmjfhomhbdaaSumR
import Derived.Test.YtojpmjfhomhbdaaOpenD
namespace Go.Proofs.Ytojpmjfhomhbdaa
open Go.ChangeShapes Go.WideShapes Go.ChangeAt Go.RowKit

theorem ksum_length (zs : List Int) (k : Int) : (ksum zs k).length = kW k := sumL_length _ _ _

theorem rsum_anyN (zs : List Int) (n : Nat) (hn : zs.length = n) (k : Int) (a : Option Addr) (c : Nat) (w : World) (ha : Rd .u8 w a zs) (hb : Bits zs) (hz : n ≤ 4096) (hk : isKind k = true) :
    Calls Try.prog 20 #[.slice a n c, .int .i64 k] w fun e w' => ∃ b off cp, e = .returned (.slice (some ⟨b, off, none⟩) (kW k) cp) ∧ Rd .u8 w' (some ⟨b, off, none⟩) (ksum zs k) ∧ Below w.heap.size w w' := by
  subst hn
  exact rsum_any zs k a c w ha hb hz hk

theorem same_bitsN (xs ys : List Int) (n m : Nat) (hn : xs.length = n) (hm : ys.length = m) (a b : Option Addr) (ca cb : Nat) (w : World) (ha : Rd .u8 w a xs) (hb : Rd .u8 w b ys) (hx : n ≤ maxLen) (hy : m ≤ maxLen) :
    Calls Try.prog 15 #[.slice a n ca, .slice b m cb] w fun e w' => e = .returned (.bool (decide (xs = ys))) ∧ Below w.heap.size w w' := by
  subst hn hm
  exact same_bits xs ys a b ca cb w ha hb hx hy

theorem seal_all (zs : List Int) (k : Int) (a : Option Addr) (c : Nat) (w : World) (ha : Rd .u8 w a zs) (hy : Bytes zs) (h : errSum zs k = 0) :
    Calls Try.prog 17 #[.slice a zs.length c, .int .i64 k] w fun e w' => ∃ a2 m2 c2 f, e = .returned (.tuple #[.slice a2 m2 c2, .int .i64 f]) ∧
      Hid ((f = 0 ∧ m2 = zs.length + kW k ∧ m2 ≤ 4096 ∧ Rd .u8 w' a2 (zs ++ ksum zs k)) ∨ (f = 2 ∧ m2 = 0 ∧ 4096 < zs.length + kW k)) ∧ Below w.heap.size w w' := by
  by_cases hl : zs.length + kW k ≤ 4096
  · refine (seal_ok zs k a c w ha hy h hl).mono fun e w' h' => ?_
    obtain ⟨v, rfl, hown, hb⟩ := h'
    obtain ⟨a2, c2, rfl, -⟩ := hown.shape
    exact ⟨a2, _, c2, 0, rfl, .inl ⟨rfl, by rw [List.length_append, ksum_length], by rw [List.length_append, ksum_length]; exact hl, hown.rd⟩, hb⟩
  · refine (seal_long zs k a c w ha h (by omega)).mono fun e w' h' => ?_
    obtain ⟨rfl, hb⟩ := h'
    exact ⟨none, 0, 0, 2, rfl, .inr ⟨rfl, rfl, by omega⟩, hb⟩

/-- What Open answers, of bits and a kind that are right. -/
def Opened (zs : List Int) (k : Int) (w : World) (a : Option Addr) (m : Nat) (ok : Bool) : Prop :=
  (zs.length < kW k ∧ ok = false ∧ m = 0) ∨ ∃ n, zs.length = n + kW k ∧ ((ksum (zs.take n) k = zs.drop n ∧ ok = true ∧ m = n ∧ Rd .u8 w a (zs.take n)) ∨ (ksum (zs.take n) k ≠ zs.drop n ∧ ok = false ∧ m = 0))

theorem open_all (zs : List Int) (k : Int) (a : Option Addr) (c : Nat) (w : World) (ha : Rd .u8 w a zs) (hcap : zs.length ≤ c) (hcm : c ≤ maxLen) (hy : Bytes zs) (h : errSum zs k = 0) :
    Calls Try.prog 18 #[.slice a zs.length c, .int .i64 k] w fun e w' => ∃ a2 m2 c2 ok, e = .returned (.tuple #[.slice a2 m2 c2, .bool ok, .int .i64 0]) ∧ Opened zs k w' a2 m2 ok ∧ Below w.heap.size w w' := by
  by_cases hl : zs.length < kW k
  · refine (open_short zs k a c w ha h hl).mono fun e w' h' => ?_
    obtain ⟨rfl, hb⟩ := h'
    exact ⟨none, 0, 0, false, rfl, .inl ⟨hl, rfl, rfl⟩, hb⟩
  · obtain ⟨n, hn⟩ : ∃ n, zs.length = n + kW k := ⟨zs.length - kW k, by omega⟩
    by_cases hs : ksum (zs.take n) k = zs.drop n
    · refine (open_ok zs k a c w ha hcap hcm hy h n hn hs).mono fun e w' h' => ?_
      obtain ⟨v, rfl, hown, hb⟩ := h'
      obtain ⟨a2, c2, rfl, -⟩ := hown.shape
      exact ⟨a2, _, c2, true, rfl, .inr ⟨n, hn, .inl ⟨hs, rfl, by rw [List.length_take]; omega, hown.rd⟩⟩, hb⟩
    · refine (open_diff zs k a c w ha hcap hcm hy h n hn hs).mono fun e w' h' => ?_
      obtain ⟨rfl, hb⟩ := h'
      exact ⟨none, 0, 0, false, rfl, .inr ⟨n, hn, .inr ⟨hs, rfl, rfl⟩⟩, hb⟩

set_option maxRecDepth 100000 in
set_option maxHeartbeats 4000000 in
theorem sums_ok (zs : List Int) (k : Int) (a : Option Addr) (c : Nat) (w : World) (ha : Rd .u8 w a zs) (hcap : zs.length ≤ c) (hcm : c ≤ maxLen) (hy : Bytes zs) (h : errSum zs k = 0) :
    Calls Try.prog 5 #[.slice a zs.length c, .int .i64 k] w fun e w' => e = .returned (.bool true) ∧ Below w.heap.size w w' := by
  obtain ⟨he, hk⟩ := errSum_ok h
  obtain ⟨hD, hW1, hW, hR⟩ := kind_div hk
  obtain ⟨hP, hD0, hDl, hDu⟩ := kind_places hk
  have hb : Bits zs := fun j => ⟨(hy.at j).1, (err_zero he).1 j⟩
  have hz := (err_zero he).2
  have hml : zs.length ≤ maxLen := by unfold maxLen; omega
  have HE := hid he
  have HK := hid hk
  have HH := hid h
  have HC := hid hcm
  have HD := hid hD
  have HP := hid hP
  have HD0 := hid hD0
  clear he hk h hD hP hD0 hR hcm
  have ksl := ksum_length zs k
  have KSL := hid ksl
  clear ksl
  have hnil := fun (wx : World) (ad : Option Addr) (x y : Nat) => Lib.run_eql_slice_nil (P := Try.prog) wx 24 3 ad x y 0 0 Try.underlying24
  go_enter Try.func5, Try.ntmps5
  go_wp2_with fail
  refine (sum_ok zs k a c _ ha hy HH.out).mono ?_
  rintro e w1 ⟨v1, rfl, hown1, hb1⟩
  obtain ⟨a1, c1, rfl, -⟩ := hown1.shape
  rw [KSL.out]
  have ha1 := ha.below hb1
  go_wp2_with fail
  refine (seal_all zs k a c _ ha1 hy HH.out).mono ?_
  rintro e w2 ⟨a2, m2, c2, f2, rfl, H2, hb2⟩
  have ha2 := ha1.below hb2
  go_wp2_with fail
  refine (open_all zs k a c _ ha2 hcap HC.out hy HH.out).mono ?_
  rintro e w3 ⟨a3, m3, c3, ok3, rfl, H3, hb3⟩
  have ha3 := ha2.below hb3
  go_wp2_with fail
  refine (rbits_any zs a c _ ha3 hml hy).mono ?_
  rintro e w4 ⟨rfl, rfl⟩
  rw [HE.out]
  go_wp2_with fail
  refine (rdivisor_yes k _ HK.out).mono ?_
  rintro e w4 ⟨rfl, hg4, hb4⟩
  have ha4 := ha3.below hb4
  clear hg4
  go_wp2_with fail
  refine (rdivisor_yes k _ HK.out).mono ?_
  rintro e w5 ⟨rfl, hg5, hb5⟩
  have hc5 := (rd_block (zs := kD k) hg5).at hDl
  obtain ⟨b5, o5, he5, hcD⟩ := hc5
  simp only [Option.some.injEq, Addr.mk.injEq, and_true] at he5
  obtain ⟨rfl, rfl⟩ := he5
  have hc0 := hcD 0 hDl
  rw [HD0.out] at hc0
  have ha5 := ha4.below hb5
  clear hcD hg5
  go_wp2_with fail
  refine (rsum_any zs k a c _ ha5 hb hz HK.out).mono ?_
  rintro e w6 ⟨b6, o6, c6, rfl, hr6, hb6⟩
  have ha6 := ha5.below hb6
  go_wp2_with (first | (at_builtin; refine wpList_cat w6.heap.size w6 (Own.nil w6 w6.heap.size) ha6 rfl (.const (.slice none 0 0)) (.tmp 84) rfl rfl c rfl (by simp; omega) (Below.refl _ _) (Nat.le_refl _) ?_))
  intro v7 w7 hown7 hb7
  have hr7 := hr6.below hb7
  go_wp2_with (first | (at_builtin; refine wpList_cat w6.heap.size w6 hown7 hr7 rfl (.tmp 85) (.tmp 86) rfl rfl c6 (by rw [KSL.out]; rfl) (by rw [KSL.out]; omega) hb7 hb7.size ?_))
  intro v8 w8 hown8 hb8
  obtain ⟨a8, c8, rfl, -⟩ := hown8.shape
  rw [show (zs ++ ksum zs k).length = zs.length + kW k from by rw [List.length_append, KSL.out]]
  go_wp2_with fail
  have hr18 : Rd .u8 w8 a1 (ksum zs k) := (((((hown1.rd.below hb2).below hb3).below hb4).below hb5).below hb6).below hb8
  have hr8 : Rd .u8 w8 (some ⟨b6, o6, none⟩) (ksum zs k) := hr6.below hb8
  refine (same_bitsN (ksum zs k) (ksum zs k) _ _ KSL.out KSL.out _ _ _ _ _ hr18 hr8 (by unfold maxLen; omega) (by unfold maxLen; omega)).mono ?_
  rintro e w9 ⟨rfl, hb9⟩
  rw [decide_eq_true rfl]
  have hbA : Below w.heap.size w w2 := bthen hb1 hb2
  have hbB : Below w2.heap.size w2 w9 := bthen (bthen (bthen (bthen (bthen hb3 hb4) hb5) hb6) hb8) hb9
  have hbC : Below w3.heap.size w3 w9 := bthen (bthen (bthen (bthen hb4 hb5) hb6) hb8) hb9
  have ha9 : Rd .u8 w9 a zs := (ha2.below hbB)
  have hr9 : Rd .u8 w9 a8 (zs ++ ksum zs k) := hown8.rd.below hb9
  clear hr18 hr8 hown8 hown7 hr7 hr6 ha1 ha2 ha3 ha4 ha5 ha6 hown1 hb4 hb5 hb6 hb7 hb8 hb9 hc0
  rcases H2.out with ⟨rfl, rfl, hl2, hr2⟩ | ⟨rfl, rfl, hl2⟩
  · have hr29 := hr2.below hbB
    clear H2 hr2
    have HLL : Hid ((zs ++ ksum zs k).length = zs.length + kW k) := by unfold Hid; rw [List.length_append, KSL.out]
    go_wp2_with fail
    refine (same_bitsN _ _ _ _ HLL.out HLL.out _ _ _ _ _ hr29 hr9 (by unfold maxLen; omega) (by unfold maxLen; omega)).mono ?_
    rintro e w10 ⟨rfl, hb10⟩
    rw [decide_eq_true rfl]
    have haw : Rd .u8 w10 a zs := ha9.below hb10
    have hbT : Below w.heap.size w w10 := bthen (bthen hbA hbB) hb10
    have hbU : Below w3.heap.size w3 w10 := bthen hbC hb10
    clear hbA hbB hbC ha9 hr9
    unfold Opened at H3
    rcases H3 with ⟨hlt, rfl, rfl⟩ | ⟨n, hn, ⟨hs, rfl, rfl, hr3⟩ | ⟨hs, rfl, rfl⟩⟩
    · have hneg : (zs.length : Int) - (kW k : Int) < 0 := by omega
      go_wp2_with fail
      go_quiet (fail)
      go_wp2
      go_ret
      exact ⟨rfl, below_drewN hbT _⟩
    · have hlt : m3 < zs.length := by omega
      have hsub : (zs.length : Int) - (kW k : Int) = m3 := by omega
      obtain ⟨b1, o1, rfl, hc1⟩ := haw.at hlt
      have hrt : Rd .u8 w10.drew (some ⟨b1, o1, none⟩) (zs.take m3) := Rd.take hc1 m3
      have hrt0 : Rd .u8 w10 (some ⟨b1, o1, none⟩) (zs.take m3) := hrt
      have hrd : Rd .u8 w10.drew (some ⟨b1, o1 + m3, none⟩) (zs.drop m3) := Rd.drop hc1 m3
      have hr3w := hr3.below hbU
      have hbt := bits_take hb m3
      have HT := hid (show (zs.take m3).length = m3 by rw [List.length_take]; omega)
      have HDr := hid (show (zs.drop m3).length = zs.length - m3 from List.length_drop)
      have KSL2 := hid (ksum_length (zs.take m3) k)
      have HSE := hid hs
      have hA1 : (m3 : Int) ≤ (c : Int) := by omega
      have hA2 : (m3 : Int) ≤ (zs.length : Int) := by omega
      clear hs hn hc1 hr3
      go_wp2_with fail
      go_region_held (fun _ => True) (trivial) (first | (go_at_call 20; refine (rsum_anyN (zs.take m3) m3 HT.out k _ _ _ hrt hbt (by omega) HK.out).mono ?_; rintro e w11 ⟨b11, o11, c11, rfl, hr11, hb11⟩) | (go_at_call 15; refine (same_bitsN (ksum (zs.take m3) k) (zs.drop m3) _ _ KSL2.out HDr.out _ _ _ _ _ hr11 (hrd.below hb11) (by unfold maxLen; omega) (by unfold maxLen; omega)).mono ?_; rintro e w12 ⟨rfl, hb12⟩; rw [decide_eq_true HSE.out]))
      go_wp2_with fail
      have hbT2 := bthen (bthen hbT.drew hb11) hb12
      refine (same_bitsN (zs.take m3) (zs.take m3) m3 m3 HT.out HT.out _ _ _ _ _ ((hr3w.below (w := w10) ?_)) ((hrt0.below (w := w10) ?_)) (by unfold maxLen; omega) (by unfold maxLen; omega)).mono ?_
      · exact bthen (Below.refl _ _).drew (bthen hb11 hb12)
      · exact bthen (Below.refl _ _).drew (bthen hb11 hb12)
      rintro e w13 ⟨rfl, hb13⟩
      rw [decide_eq_true rfl]
      go_wp2
      go_ret
      exact ⟨rfl, bthen hbT2 hb13⟩
    · have hlt : n < zs.length := by omega
      have hsub : (zs.length : Int) - (kW k : Int) = n := by omega
      obtain ⟨b1, o1, rfl, hc1⟩ := haw.at hlt
      have hrt : Rd .u8 w10.drew (some ⟨b1, o1, none⟩) (zs.take n) := Rd.take hc1 n
      have hrd : Rd .u8 w10.drew (some ⟨b1, o1 + n, none⟩) (zs.drop n) := Rd.drop hc1 n
      have hbt := bits_take hb n
      have HT := hid (show (zs.take n).length = n by rw [List.length_take]; omega)
      have HDr := hid (show (zs.drop n).length = zs.length - n from List.length_drop)
      have KSL2 := hid (ksum_length (zs.take n) k)
      have HSE := hid hs
      have hA1 : (n : Int) ≤ (c : Int) := by omega
      have hA2 : (n : Int) ≤ (zs.length : Int) := by omega
      clear hs hn hc1
      go_wp2_with fail
      go_region_held (fun _ => True) (trivial) (first | (go_at_call 20; refine (rsum_anyN (zs.take n) n HT.out k _ _ _ hrt hbt (by omega) HK.out).mono ?_; rintro e w11 ⟨b11, o11, c11, rfl, hr11, hb11⟩) | (go_at_call 15; refine (same_bitsN (ksum (zs.take n) k) (zs.drop n) _ _ KSL2.out HDr.out _ _ _ _ _ hr11 (hrd.below hb11) (by unfold maxLen; omega) (by unfold maxLen; omega)).mono ?_; rintro e w12 ⟨rfl, hb12⟩; rw [decide_eq_false HSE.out]))
      go_wp2
      go_ret
      exact ⟨rfl, bthen (bthen hbT.drew hb11) hb12⟩
  · clear H2
    have haw : Rd .u8 w9 a zs := ha9
    have hbT : Below w.heap.size w w9 := bthen hbA hbB
    have hbU : Below w3.heap.size w3 w9 := hbC
    clear hbA hbB hbC ha9 hr9
    unfold Opened at H3
    rcases H3 with ⟨hlt, rfl, rfl⟩ | ⟨n, hn, ⟨hs, rfl, rfl, hr3⟩ | ⟨hs, rfl, rfl⟩⟩
    · exfalso; omega
    · have hlt : m3 < zs.length := by omega
      have hsub : (zs.length : Int) - (kW k : Int) = m3 := by omega
      obtain ⟨b1, o1, rfl, hc1⟩ := haw.at hlt
      have hrt : Rd .u8 w9.drew (some ⟨b1, o1, none⟩) (zs.take m3) := Rd.take hc1 m3
      have hrt0 : Rd .u8 w9 (some ⟨b1, o1, none⟩) (zs.take m3) := hrt
      have hrd : Rd .u8 w9.drew (some ⟨b1, o1 + m3, none⟩) (zs.drop m3) := Rd.drop hc1 m3
      have hr3w := hr3.below hbU
      have hbt := bits_take hb m3
      have HT := hid (show (zs.take m3).length = m3 by rw [List.length_take]; omega)
      have HDr := hid (show (zs.drop m3).length = zs.length - m3 from List.length_drop)
      have KSL2 := hid (ksum_length (zs.take m3) k)
      have HSE := hid hs
      have hA1 : (m3 : Int) ≤ (c : Int) := by omega
      have hA2 : (m3 : Int) ≤ (zs.length : Int) := by omega
      clear hs hn hc1 hr3
      go_wp2_with fail
      go_region_held (fun _ => True) (trivial) (first | (go_at_call 20; refine (rsum_anyN (zs.take m3) m3 HT.out k _ _ _ hrt hbt (by omega) HK.out).mono ?_; rintro e w11 ⟨b11, o11, c11, rfl, hr11, hb11⟩) | (go_at_call 15; refine (same_bitsN (ksum (zs.take m3) k) (zs.drop m3) _ _ KSL2.out HDr.out _ _ _ _ _ hr11 (hrd.below hb11) (by unfold maxLen; omega) (by unfold maxLen; omega)).mono ?_; rintro e w12 ⟨rfl, hb12⟩; rw [decide_eq_true HSE.out]))
      go_wp2_with fail
      have hbT2 := bthen (bthen hbT.drew hb11) hb12
      refine (same_bitsN (zs.take m3) (zs.take m3) m3 m3 HT.out HT.out _ _ _ _ _ ((hr3w.below (w := w9) ?_)) ((hrt0.below (w := w9) ?_)) (by unfold maxLen; omega) (by unfold maxLen; omega)).mono ?_
      · exact bthen (Below.refl _ _).drew (bthen hb11 hb12)
      · exact bthen (Below.refl _ _).drew (bthen hb11 hb12)
      rintro e w13 ⟨rfl, hb13⟩
      rw [decide_eq_true rfl]
      go_wp2
      go_ret
      exact ⟨rfl, bthen hbT2 hb13⟩
    · have hlt : n < zs.length := by omega
      have hsub : (zs.length : Int) - (kW k : Int) = n := by omega
      obtain ⟨b1, o1, rfl, hc1⟩ := haw.at hlt
      have hrt : Rd .u8 w9.drew (some ⟨b1, o1, none⟩) (zs.take n) := Rd.take hc1 n
      have hrd : Rd .u8 w9.drew (some ⟨b1, o1 + n, none⟩) (zs.drop n) := Rd.drop hc1 n
      have hbt := bits_take hb n
      have HT := hid (show (zs.take n).length = n by rw [List.length_take]; omega)
      have HDr := hid (show (zs.drop n).length = zs.length - n from List.length_drop)
      have KSL2 := hid (ksum_length (zs.take n) k)
      have HSE := hid hs
      have hA1 : (n : Int) ≤ (c : Int) := by omega
      have hA2 : (n : Int) ≤ (zs.length : Int) := by omega
      clear hs hn hc1
      go_wp2_with fail
      go_region_held (fun _ => True) (trivial) (first | (go_at_call 20; refine (rsum_anyN (zs.take n) n HT.out k _ _ _ hrt hbt (by omega) HK.out).mono ?_; rintro e w11 ⟨b11, o11, c11, rfl, hr11, hb11⟩) | (go_at_call 15; refine (same_bitsN (ksum (zs.take n) k) (zs.drop n) _ _ KSL2.out HDr.out _ _ _ _ _ hr11 (hrd.below hb11) (by unfold maxLen; omega) (by unfold maxLen; omega)).mono ?_; rintro e w12 ⟨rfl, hb12⟩; rw [decide_eq_false HSE.out]))
      go_wp2
      go_ret
      exact ⟨rfl, bthen (bthen hbT.drew hb11) hb12⟩

set_option maxRecDepth 100000 in
set_option maxHeartbeats 4000000 in
theorem sums_bad (zs : List Int) (k : Int) (a : Option Addr) (c : Nat) (w : World) (ha : Rd .u8 w a zs) (hz : zs.length ≤ maxLen) (hy : Bytes zs) (h : errSum zs k ≠ 0) :
    Calls Try.prog 5 #[.slice a zs.length c, .int .i64 k] w fun e w' => e = .returned (.bool true) ∧ Below w.heap.size w w' := by
  have HH := hid h
  have hne : (errSum zs k != 0) = true := by simpa using h
  have hnil := fun (wx : World) (ad : Option Addr) (x y : Nat) => Lib.run_eql_slice_nil (P := Try.prog) wx 24 3 ad x y 0 0 Try.underlying24
  by_cases he : errOf zs = 0
  · have hk : isKind k = false := by
      cases hk : isKind k with
      | true => exact absurd (by unfold errSum; rw [if_pos he, hk]; rfl) h
      | false => rfl
    have hes : errSum zs k = 1 := by unfold errSum; rw [if_pos he, hk]; rfl
    have HE := hid he
    have HK := hid hk
    have HS := hid hes
    clear h he hk hes hne
    go_enter Try.func5, Try.ntmps5
    go_wp2_with fail
    refine (sum_err zs k a c _ ha hz HH.out).mono ?_
    rintro e w1 ⟨rfl, hb1⟩
    rw [HS.out]
    have ha1 := ha.below hb1
    go_wp2_with fail
    refine (seal_err zs k a c _ ha1 hz HH.out).mono ?_
    rintro e w2 ⟨rfl, hb2⟩
    rw [HS.out]
    have ha2 := ha1.below hb2
    go_wp2_with fail
    refine (open_err zs k a c _ ha2 hz HH.out).mono ?_
    rintro e w3 ⟨rfl, hb3⟩
    rw [HS.out]
    have ha3 := ha2.below hb3
    go_wp2_with fail
    refine (rbits_any zs a c _ ha3 hz hy).mono ?_
    rintro e w4 ⟨rfl, rfl⟩
    rw [HE.out]
    go_wp2_with fail
    refine (rdivisor_no k _ HK.out).mono ?_
    rintro e w4 ⟨rfl, rfl⟩
    go_wp2
    go_ret
    exact ⟨rfl, bthen (bthen hb1 hb2) hb3⟩
  · have hes : errSum zs k = errOf zs := by unfold errSum; rw [if_neg he]
    have hne0 : (errOf zs == 0) = false := by simpa using he
    have hne1 : (errOf zs != 0) = true := by simpa using he
    have HS := hid hes
    clear h he hes hne
    go_enter Try.func5, Try.ntmps5
    go_wp2_with fail
    refine (sum_err zs k a c _ ha hz HH.out).mono ?_
    rintro e w1 ⟨rfl, hb1⟩
    rw [HS.out]
    have ha1 := ha.below hb1
    go_wp2_with fail
    refine (seal_err zs k a c _ ha1 hz HH.out).mono ?_
    rintro e w2 ⟨rfl, hb2⟩
    rw [HS.out]
    have ha2 := ha1.below hb2
    go_wp2_with fail
    refine (open_err zs k a c _ ha2 hz HH.out).mono ?_
    rintro e w3 ⟨rfl, hb3⟩
    rw [HS.out]
    have ha3 := ha2.below hb3
    go_wp2_with fail
    refine (rbits_any zs a c _ ha3 hz hy).mono ?_
    rintro e w4 ⟨rfl, rfl⟩
    go_wp2
    go_ret
    exact ⟨rfl, bthen (bthen hb1 hb2) hb3⟩

end Go.Proofs.Ytojpmjfhomhbdaa
