import Derived.Test.YtojpmjfhomhbdaaSeal
namespace Go.Proofs.Ytojpmjfhomhbdaa
open Go.ChangeShapes Go.WideShapes Go.ChangeAt Go.RowKit

set_option maxHeartbeats 1000000 in
theorem open_err (zs : List Int) (k : Int) (a : Option Addr) (c : Nat) (w : World) (ha : Rd .u8 w a zs) (hz : zs.length ≤ maxLen) (h : errSum zs k ≠ 0) :
    Calls Try.prog 18 #[.slice a zs.length c, .int .i64 k] w fun e w' => e = .returned (.tuple #[.slice none 0 0, .bool false, .int .i64 (errSum zs k)]) ∧ Below w.heap.size w w' := by
  have hne : (errSum zs k != 0) = true := by simpa using h
  go_enter Try.func18, Try.ntmps18
  go_wp2_with fail
  refine (checksum_err zs k a c _ ha hz h).mono ?_
  rintro e w1 ⟨rfl, hb⟩
  clear h
  go_wp2
  go_ret3
  exact ⟨rfl, hb.alloc hb.size _⟩

set_option maxHeartbeats 1000000 in
theorem open_short (zs : List Int) (k : Int) (a : Option Addr) (c : Nat) (w : World) (ha : Rd .u8 w a zs) (h : errSum zs k = 0) (hl : zs.length < kW k) :
    Calls Try.prog 18 #[.slice a zs.length c, .int .i64 k] w fun e w' => e = .returned (.tuple #[.slice none 0 0, .bool false, .int .i64 0]) ∧ Below w.heap.size w w' := by
  obtain ⟨he, hk⟩ := errSum_ok h
  obtain ⟨hD, hW1, hW, hR⟩ := kind_div hk
  have hz := (err_zero he).2
  have HE : Hid (errOf zs = 0) := he
  have HK : Hid (isKind k = true) := hk
  have hneg : (zs.length : Int) - (kW k : Int) < 0 := by omega
  clear h he hk hD
  go_enter Try.func18, Try.ntmps18
  go_wp2_with fail
  refine (checksum_ok zs k a c _ ha (by unfold maxLen; omega) HE.out HK.out).mono ?_
  rintro e w1 ⟨rfl, hb1⟩
  go_wp2
  go_quiet (fail)
  go_wp2
  go_ret3
  exact ⟨rfl, below_drewN (hb1.alloc hb1.size _) _⟩

theorem sum_anyN (W : Nat) (R : Nat) (zs : List Int) (n : Nat) (hn : zs.length = n) (a : Option Addr) (c : Nat) (w : World) (ha : Rd .u8 w a zs) (hb : Bits zs) (hz : n ≤ 4096) (hD : Div W (2 ^ W ||| R)) (hW1 : 1 ≤ W) (hW : W ≤ 24) (hR : R < 16777216) :
    Calls Try.prog 29 #[.agg #[.int .i64 W, .int .u32 R], .slice a n c] w fun e w' => ∃ v, e = .returned v ∧ Own w' w.heap.size v (sumL W (2 ^ W ||| R) zs) ∧ Below w.heap.size w w' := by
  subst hn
  exact sum_any W R zs a c w ha hb hz hD hW1 hW hR

theorem conv_rdN {w : World} {a : Option Addr} {L : List Int} (h : Rd .u8 w a L) (c n : Nat) (hn : L.length = n) : (convert 27 9 (.slice a n c)).run Try.prog w = .ok (.string (strOfNums L)) w := by
  subst hn
  exact conv_rd h c

theorem laid_one (zs : List Int) (n : Nat) (hn : n ≤ zs.length) : laidOver (List.replicate n 0) 0 (zs.take n) = zs.take n := by
  simp [laidOver]; omega

set_option maxHeartbeats 2000000 in
theorem open_ok (zs : List Int) (k : Int) (a : Option Addr) (c : Nat) (w : World) (ha : Rd .u8 w a zs) (hcap : zs.length ≤ c) (hcm : c ≤ maxLen) (hy : Bytes zs) (h : errSum zs k = 0) (n : Nat) (hl : zs.length = n + kW k) (hs : ksum (zs.take n) k = zs.drop n) :
    Calls Try.prog 18 #[.slice a zs.length c, .int .i64 k] w fun e w' => ∃ v, e = .returned (.tuple #[v, .bool true, .int .i64 0]) ∧ Own w' w.heap.size v (zs.take n) ∧ Below w.heap.size w w' := by
  obtain ⟨he, hk⟩ := errSum_ok h
  obtain ⟨hD, hW1, hW, hR⟩ := kind_div hk
  have hb : Bits zs := fun j => ⟨(hy.at j).1, (err_zero he).1 j⟩
  have hbt := bits_take hb n
  have hz := (err_zero he).2
  have HE : Hid (errOf zs = 0) := he
  have HK : Hid (isKind k = true) := hk
  have HL : Hid (zs.length = n + kW k) := hl
  have hlt : n < zs.length := by omega
  have hsub : (zs.length : Int) - (kW k : Int) = n := by omega
  have hlt' : (zs.take n).length = n := by rw [List.length_take]; omega
  have HT : Hid ((zs.take n).length = n) := hlt'
  have hld' : (zs.drop n).length = zs.length - n := by rw [List.length_drop]
  have HD : Hid ((zs.drop n).length = zs.length - n) := hld'
  unfold ksum kP at hs
  unfold kP at hD
  have HS : Hid (sumL (kW k) (2 ^ kW k ||| kR k) (zs.take n) = zs.drop n) := hs
  unfold maxLen at hcm
  clear h hy he hk hl hlt' hld' hs
  obtain ⟨b1, o1, rfl, hc1⟩ := ha.at hlt
  go_enter Try.func18, Try.ntmps18
  go_wp2_with fail
  refine (checksum_ok zs k _ c _ ha (by unfold maxLen; omega) HE.out HK.out).mono ?_
  rintro e w1 ⟨rfl, hb1⟩
  have hbb : Below w.heap.size w (w1.alloc (.cells #[.int .i64 (kW k), .int .u32 (kR k)] 51)) := hb1.alloc hb1.size _
  obtain ⟨p0, p1, -⟩ := box2 (w := w1) (x := .int .i64 (kW k)) (y := .int .u32 (kR k)) (T := 51) (w1 := w1.alloc (.cells #[.int .i64 (kW k), .int .u32 (kR k)] 51)) (Below.refl _ _)
  have hcb : ∀ j, j < zs.length → (w1.alloc (.cells #[.int .i64 (kW k), .int .u32 (kR k)] 51)).cell? ⟨b1, o1 + j, none⟩ = some (.int .u8 (zs.getD j 0)) := fun j hj => keep1 hbb (hc1 j hj)
  have hrt := Rd.take hcb n
  have hrd := Rd.drop hcb n
  clear hc1 hcb
  have hrz := ha.below hbb
  have P0 := hid p0
  have P1 := hid p1
  clear p0 p1
  go_wp2_with fail
  have hA1 : (n : Int) ≤ (c : Int) := by omega
  have hA2 : (n : Int) ≤ (zs.length : Int) := by omega
  have hrd' : Rd .u8 (w1.alloc (.cells #[.int .i64 (kW k), .int .u32 (kR k)] 51)).drew (some ⟨b1, o1 + n, none⟩) (zs.drop n) := hrd
  go_region_held (fun w' => w'.cell? ⟨w1.heap.size, 0, none⟩ = some (.int .i64 (kW k)) ∧ w'.cell? ⟨w1.heap.size, 1, none⟩ = some (.int .u32 (kR k)) ∧ (convert 27 9 (.slice (some ⟨b1, o1 + n, none⟩) (zs.length - n) (c - n))).run Try.prog w' = .ok (.string (strOfNums (zs.drop n))) w')
    (first | exact ⟨P0.out, P1.out, conv_rdN hrd' _ _ HD.out⟩ | exact ⟨keep1 hb2 P0.out, keep1 hb2 P1.out, conv_rdN (hrd'.below hb2) _ _ HD.out⟩)
    (first | (go_at_call 29; refine (sum_anyN (kW k) (kR k) (zs.take n) n HT.out _ _ _ ?_ hbt (by omega) hD hW1 hW hR).mono ?_; exact hrt; rintro e w2 ⟨v2, rfl, hown2, hb2⟩; rw [HS.out] at hown2; obtain ⟨a2, c2, rfl, -⟩ := hown2.shape; have hcv2 := conv_rdN hown2.rd c2 _ HD.out))
  all_goals
    have hbw : Below w.heap.size w w2 := bthen hbb.drew hb2
    have hrz2 : Rd .u8 w2 (some ⟨b1, o1, none⟩) zs := ha.below hbw
    clear hcv2 hown2 hb2 hrd hrd' hrt hrz
    go_wp2_with (at_make; refine wpList_makeBytes w2.heap.size w2 n rfl _ _ rfl _ _ rfl rfl rfl rfl (by omega) (Below.refl _ _) (Nat.le_refl _) ?_)
    intro w3 hown3 hbel3 hsz3
    have hrz3 := hrz2.below hbel3
    go_wp2_with (refine wpList_copyBytes w2 hown3 hrz3 rfl (.tmp 42) (.tmp 43) rfl (some ⟨w2.heap.size, 0, none⟩) n n c 0 n (by omega) rfl rfl (fun _ => rfl) (by omega) hbel3 ?_)
    intro w4 hown4 hbel4 hsz4
    rw [laid_one zs n (by omega)] at hown4
    go_wp2
    go_ret3
    exact ⟨_, rfl, hown4.mono hbw.size, bthen hbw hbel4⟩
end Go.Proofs.Ytojpmjfhomhbdaa
