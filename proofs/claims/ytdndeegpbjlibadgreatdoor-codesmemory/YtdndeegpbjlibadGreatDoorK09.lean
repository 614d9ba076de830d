import Derived.Test.YtdndeegpbjlibadGreatDoorK08
import Derived.Deep.RegionHeld3
import Derived.Test.YtdndeegpbjlibadGreatDoorK04
namespace Go.Proofs.YtdndeegpbjlibadGreatDoor
open Go.ChangeShapes Go.WideShapes Go.ChangeAt Go.RowKit

set_option maxRecDepth 100000 in
set_option maxHeartbeats 1000000 in
theorem seal_err (zs : List Int) (k : Int) (a : Option Addr) (c : Nat) (w : World) (ha : Rd .u8 w a zs) (hz : zs.length ≤ maxLen) (h : errSum zs k ≠ 0) :
    Calls Tryz.prog 7 #[.slice a zs.length c, .int .i64 k] w fun e w' => e = .returned (.tuple #[.slice none 0 0, .int .i64 (errSum zs k)]) ∧ Below w.heap.size w w' := by
  have hne : (errSum zs k != 0) = true := by simpa using h
  go_enter Tryz.func7, Tryz.ntmps7
  go_wp2_with fail
  refine (checksum_err zs k a c _ ha hz h).mono ?_
  rintro e w1 ⟨rfl, hb⟩
  clear h
  go_wp2
  go_ret2
  exact ⟨rfl, hb.alloc hb.size _⟩

set_option maxRecDepth 100000 in
set_option maxHeartbeats 1000000 in
theorem seal_long (zs : List Int) (k : Int) (a : Option Addr) (c : Nat) (w : World) (ha : Rd .u8 w a zs) (h : errSum zs k = 0) (hl : 4096 < zs.length + kW k) :
    Calls Tryz.prog 7 #[.slice a zs.length c, .int .i64 k] w fun e w' => e = .returned (.tuple #[.slice none 0 0, .int .i64 2]) ∧ Below w.heap.size w w' := by
  obtain ⟨he, hk⟩ := errSum_ok h
  obtain ⟨hD, hW1, hW, hR⟩ := kind_div hk
  have hz := (err_zero he).2
  have HE : Hid (errOf zs = 0) := he
  have HK : Hid (isKind k = true) := hk
  clear h he hk hD
  go_enter Tryz.func7, Tryz.ntmps7
  go_wp2_with fail
  refine (checksum_ok zs k a c _ ha (by unfold maxLen; omega) HE.out HK.out).mono ?_
  rintro e w1 ⟨rfl, hb1⟩
  go_wp2
  go_ret2
  exact ⟨rfl, hb1.alloc hb1.size _⟩

theorem keep1 {w w' : World} {x o : Nat} {v : Value} (hb : Below w.heap.size w w') (h : w.cell? ⟨x, o, none⟩ = some v) : w'.cell? ⟨x, o, none⟩ = some v :=
  (hb.cell (World.block_lt_of_cell? w _ h)).trans h

theorem laid_two (zs S : List Int) (N : Nat) (hN : N = zs.length + S.length) (n : Nat) (hn : S.length ≤ n) : laidOver (laidOver (List.replicate N 0) 0 zs) zs.length (S.take n) = zs ++ S := by
  subst hN
  rw [List.take_of_length_le hn]
  simp [laidOver]

set_option maxRecDepth 100000 in
set_option maxHeartbeats 2000000 in
theorem seal_ok (zs : List Int) (k : Int) (a : Option Addr) (c : Nat) (w : World) (ha : Rd .u8 w a zs) (hy : Bytes zs) (h : errSum zs k = 0) (hl : zs.length + kW k ≤ 4096) :
    Calls Tryz.prog 7 #[.slice a zs.length c, .int .i64 k] w fun e w' => ∃ v, e = .returned (.tuple #[v, .int .i64 0]) ∧ Own w' w.heap.size v (zs ++ ksum zs k) ∧ Below w.heap.size w w' := by
  obtain ⟨he, hk⟩ := errSum_ok h
  obtain ⟨hD, hW1, hW, hR⟩ := kind_div hk
  have hb : Bits zs := fun j => ⟨(hy.at j).1, (err_zero he).1 j⟩
  have hz := (err_zero he).2
  have HE : Hid (errOf zs = 0) := he
  have HK : Hid (isKind k = true) := hk
  clear h hy he hk
  unfold ksum kP
  unfold kP at hD
  go_enter Tryz.func7, Tryz.ntmps7
  go_wp2_with fail
  refine (checksum_ok zs k a c _ ha (by unfold maxLen; omega) HE.out HK.out).mono ?_
  rintro e w1 ⟨rfl, hb1⟩
  have ha1 := ha.below hb1
  obtain ⟨N, hN⟩ : ∃ N, N = zs.length + kW k := ⟨_, rfl⟩
  have HN : Hid (N = zs.length + kW k) := hN
  have hN1 : N ≤ 4096 := by omega
  have hN2 : zs.length ≤ N := by omega
  clear hN
  have ha2 := ha1.below ((Below.refl _ _).alloc (Nat.le_refl _) (.cells #[.int .i64 (kW k), .int .u32 (kR k)] 56))
  go_wp2_with (at_make; refine wpList_makeBytes (w1.heap.size + 1) (w1.alloc (.cells #[.int .i64 (kW k), .int .u32 (kR k)] 56)) N rfl _ _ rfl _ _ rfl rfl ?_ ?_ (by omega) (by exact Below.refl _ _) (by simp) ?_)
  · have := HN.out; omega
  · have := HN.out; omega
  intro w2 hown2 hbel2 hsz2
  have ha3 := ha2.below (by simpa using hbel2)
  obtain ⟨q0, q1, q2, q3, q4⟩ := box2 (w := w1) (x := .int .i64 (kW k)) (y := .int .u32 (kR k)) (T := 56) (w1 := w2) (by simpa using hbel2)
  go_wp2_with (refine wpList_copyBytes (w1.alloc (.cells #[.int .i64 (kW k), .int .u32 (kR k)] 56)) hown2 ha3 rfl (.tmp 30) (.tmp 31) rfl (some ⟨w1.heap.size + 1, 0, none⟩) N N c 0 zs.length ?_ rfl rfl ?_ ?_ hbel2 ?_)
  · omega
  · omega
  intro w3 hown3 hbel3 hsz3
  obtain ⟨p0, p1, -⟩ := box2 (w := w1) (x := .int .i64 (kW k)) (y := .int .u32 (kR k)) (T := 56) (w1 := w3) (by simpa using hbel3)
  have ha4 := ha2.below (by simpa using hbel3)
  have hN3 : zs.length < N := by have := HN.out; omega
  clear q0 q1 q2 q3 q4 hown2 hbel2 ha2 ha3
  go_wp2_with fail
  have hmin : kW k = min (sumL (kW k) (2 ^ kW k ||| kR k) zs).length (N - zs.length) := by rw [sumL_length]; have := HN.out; omega
  have HM : Hid (kW k = min (sumL (kW k) (2 ^ kW k ||| kR k) zs).length (N - zs.length)) := hmin
  clear hmin
  go_region_held3 (fun w' => w'.cell? ⟨w1.heap.size, 0, none⟩ = some (.int .i64 (kW k)) ∧ w'.cell? ⟨w1.heap.size, 1, none⟩ = some (.int .u32 (kR k))) (first | exact ⟨p0, p1⟩ | exact ⟨keep1 hb4 p0, keep1 hb4 p1⟩ | exact ⟨hgr5.cell (keep1 hb4 p0) (by simp), hgr5.cell (keep1 hb4 p1) (by simp)⟩)
    (first | (go_at_call 27; refine (sum_any (kW k) (kR k) zs a c _ ?_ hb hz hD hW1 hW hR).mono ?_; exact ha4; rintro e w4 ⟨v4, rfl, hown4, hb4⟩; obtain ⟨a4, c4, rfl, -⟩ := hown4.shape; obtain ⟨w5, hrun5, hown5, hgr5⟩ := run_copy_own (hown3.drew.below hb4) hown4.rd 3 (some ⟨w1.heap.size + 1, zs.length, none⟩) (N - zs.length) (N - zs.length) c4 zs.length (kW k) HM.out (fun _ => rfl) (by have := HN.out; omega)))
  go_wp2
  go_ret2
  have hs1 := hb1.size
  have b3 : Below w.heap.size w w3 := (hb1.alloc hs1 _).trans (hbel3.mono (by omega))
  have b4 := bthen b3.drew hb4
  have b5 := b4.grown hgr5 b4.size (fun k hk => by simp at hk; omega)
  rw [laid_two zs (sumL (kW k) (2 ^ kW k ||| kR k) zs) N (by rw [sumL_length]; exact HN.out) (kW k) (by rw [sumL_length]; exact Nat.le_refl _)] at hown5
  exact ⟨_, rfl, hown5.mono (by omega), b5⟩
end Go.Proofs.YtdndeegpbjlibadGreatDoor

namespace Go.Proofs.YtdndeegpbjlibadGreatDoor
open Go.ChangeShapes Go.WideShapes Go.ChangeAt Go.RowKit

set_option maxRecDepth 100000 in
set_option maxHeartbeats 1000000 in
theorem open_err (zs : List Int) (k : Int) (a : Option Addr) (c : Nat) (w : World) (ha : Rd .u8 w a zs) (hz : zs.length ≤ maxLen) (h : errSum zs k ≠ 0) :
    Calls Tryz.prog 9 #[.slice a zs.length c, .int .i64 k] w fun e w' => e = .returned (.tuple #[.slice none 0 0, .bool false, .int .i64 (errSum zs k)]) ∧ Below w.heap.size w w' := by
  have hne : (errSum zs k != 0) = true := by simpa using h
  go_enter Tryz.func9, Tryz.ntmps9
  go_wp2_with fail
  refine (checksum_err zs k a c _ ha hz h).mono ?_
  rintro e w1 ⟨rfl, hb⟩
  clear h
  go_wp2
  go_ret3
  exact ⟨rfl, hb.alloc hb.size _⟩

set_option maxRecDepth 100000 in
set_option maxHeartbeats 1000000 in
theorem open_short (zs : List Int) (k : Int) (a : Option Addr) (c : Nat) (w : World) (ha : Rd .u8 w a zs) (h : errSum zs k = 0) (hl : zs.length < kW k) :
    Calls Tryz.prog 9 #[.slice a zs.length c, .int .i64 k] w fun e w' => e = .returned (.tuple #[.slice none 0 0, .bool false, .int .i64 0]) ∧ Below w.heap.size w w' := by
  obtain ⟨he, hk⟩ := errSum_ok h
  obtain ⟨hD, hW1, hW, hR⟩ := kind_div hk
  have hz := (err_zero he).2
  have HE : Hid (errOf zs = 0) := he
  have HK : Hid (isKind k = true) := hk
  have hneg : (zs.length : Int) - (kW k : Int) < 0 := by omega
  clear h he hk hD
  go_enter Tryz.func9, Tryz.ntmps9
  go_wp2_with fail
  refine (checksum_ok zs k a c _ ha (by unfold maxLen; omega) HE.out HK.out).mono ?_
  rintro e w1 ⟨rfl, hb1⟩
  go_wp2
  go_quiet (fail)
  go_wp2
  go_ret3
  exact ⟨rfl, below_drewN (hb1.alloc hb1.size _) _⟩

theorem sum_anyN (W : Nat) (R : Nat) (zs : List Int) (n : Nat) (hn : zs.length = n) (a : Option Addr) (c : Nat) (w : World) (ha : Rd .u8 w a zs) (hb : Bits zs) (hz : n ≤ 4096) (hD : Div W (2 ^ W ||| R)) (hW1 : 1 ≤ W) (hW : W ≤ 24) (hR : R < 16777216) :
    Calls Tryz.prog 27 #[.agg #[.int .i64 W, .int .u32 R], .slice a n c] w fun e w' => ∃ v, e = .returned v ∧ Own w' w.heap.size v (sumL W (2 ^ W ||| R) zs) ∧ Below w.heap.size w w' := by
  subst hn
  exact sum_any W R zs a c w ha hb hz hD hW1 hW hR

theorem conv_rdN {w : World} {a : Option Addr} {L : List Int} (h : Rd .u8 w a L) (c n : Nat) (hn : L.length = n) : (convert 22 9 (.slice a n c)).run Tryz.prog w = .ok (.string (strOfNums L)) w := by
  subst hn
  exact conv_rd h c

theorem laid_one (zs : List Int) (n : Nat) (hn : n ≤ zs.length) : laidOver (List.replicate n 0) 0 (zs.take n) = zs.take n := by
  simp [laidOver]; omega

set_option maxRecDepth 100000 in
set_option maxHeartbeats 2000000 in
theorem open_ok (zs : List Int) (k : Int) (a : Option Addr) (c : Nat) (w : World) (ha : Rd .u8 w a zs) (hcap : zs.length ≤ c) (hcm : c ≤ maxLen) (hy : Bytes zs) (h : errSum zs k = 0) (n : Nat) (hl : zs.length = n + kW k) (hs : ksum (zs.take n) k = zs.drop n) :
    Calls Tryz.prog 9 #[.slice a zs.length c, .int .i64 k] w fun e w' => ∃ v, e = .returned (.tuple #[v, .bool true, .int .i64 0]) ∧ Own w' w.heap.size v (zs.take n) ∧ Below w.heap.size w w' := by
  obtain ⟨he, hk⟩ := errSum_ok h
  obtain ⟨hD, hW1, hW, hR⟩ := kind_div hk
  have hb : Bits zs := fun j => ⟨(hy.at j).1, (err_zero he).1 j⟩
  have hbt := bits_take hb n
  have hz := (err_zero he).2
  have HE : Hid (errOf zs = 0) := he
  have HK : Hid (isKind k = true) := hk
  have HL : Hid (zs.length = n + kW k) := hl
  have hlt : n < zs.length := by omega
  have hsub : (zs.length : Int) - (kW k : Int) = n := by omega
  have hlt' : (zs.take n).length = n := by rw [List.length_take]; omega
  have HT : Hid ((zs.take n).length = n) := hlt'
  have hld' : (zs.drop n).length = zs.length - n := by rw [List.length_drop]
  have HD : Hid ((zs.drop n).length = zs.length - n) := hld'
  unfold ksum kP at hs
  unfold kP at hD
  have HS : Hid (sumL (kW k) (2 ^ kW k ||| kR k) (zs.take n) = zs.drop n) := hs
  unfold maxLen at hcm
  clear h hy he hk hl hlt' hld' hs
  obtain ⟨b1, o1, rfl, hc1⟩ := ha.at hlt
  go_enter Tryz.func9, Tryz.ntmps9
  go_wp2_with fail
  refine (checksum_ok zs k _ c _ ha (by unfold maxLen; omega) HE.out HK.out).mono ?_
  rintro e w1 ⟨rfl, hb1⟩
  have hbb : Below w.heap.size w (w1.alloc (.cells #[.int .i64 (kW k), .int .u32 (kR k)] 56)) := hb1.alloc hb1.size _
  obtain ⟨p0, p1, -⟩ := box2 (w := w1) (x := .int .i64 (kW k)) (y := .int .u32 (kR k)) (T := 56) (w1 := w1.alloc (.cells #[.int .i64 (kW k), .int .u32 (kR k)] 56)) (Below.refl _ _)
  have hcb : ∀ j, j < zs.length → (w1.alloc (.cells #[.int .i64 (kW k), .int .u32 (kR k)] 56)).cell? ⟨b1, o1 + j, none⟩ = some (.int .u8 (zs.getD j 0)) := fun j hj => keep1 hbb (hc1 j hj)
  have hrt := Rd.take hcb n
  have hrd := Rd.drop hcb n
  clear hc1 hcb
  have hrz := ha.below hbb
  have P0 := hid p0
  have P1 := hid p1
  clear p0 p1
  go_wp2_with fail
  have hA1 : (n : Int) ≤ (c : Int) := by omega
  have hA2 : (n : Int) ≤ (zs.length : Int) := by omega
  have hrd' : Rd .u8 (w1.alloc (.cells #[.int .i64 (kW k), .int .u32 (kR k)] 56)).drew (some ⟨b1, o1 + n, none⟩) (zs.drop n) := hrd
  go_region_held (fun w' => w'.cell? ⟨w1.heap.size, 0, none⟩ = some (.int .i64 (kW k)) ∧ w'.cell? ⟨w1.heap.size, 1, none⟩ = some (.int .u32 (kR k)) ∧ (convert 22 9 (.slice (some ⟨b1, o1 + n, none⟩) (zs.length - n) (c - n))).run Tryz.prog w' = .ok (.string (strOfNums (zs.drop n))) w')
    (first | exact ⟨P0.out, P1.out, conv_rdN hrd' _ _ HD.out⟩ | exact ⟨keep1 hb2 P0.out, keep1 hb2 P1.out, conv_rdN (hrd'.below hb2) _ _ HD.out⟩)
    (first | (go_at_call 27; refine (sum_anyN (kW k) (kR k) (zs.take n) n HT.out _ _ _ ?_ hbt (by omega) hD hW1 hW hR).mono ?_; exact hrt; rintro e w2 ⟨v2, rfl, hown2, hb2⟩; rw [HS.out] at hown2; obtain ⟨a2, c2, rfl, -⟩ := hown2.shape; have hcv2 := conv_rdN hown2.rd c2 _ HD.out))
  all_goals
    have hbw : Below w.heap.size w w2 := bthen hbb.drew hb2
    have hrz2 : Rd .u8 w2 (some ⟨b1, o1, none⟩) zs := ha.below hbw
    clear hcv2 hown2 hb2 hrd hrd' hrt hrz
    go_wp2_with (at_make; refine wpList_makeBytes w2.heap.size w2 n rfl _ _ rfl _ _ rfl rfl rfl rfl (by omega) (Below.refl _ _) (Nat.le_refl _) ?_)
    intro w3 hown3 hbel3 hsz3
    have hrz3 := hrz2.below hbel3
    go_wp2_with (refine wpList_copyBytes w2 hown3 hrz3 rfl (.tmp 42) (.tmp 43) rfl (some ⟨w2.heap.size, 0, none⟩) n n c 0 n (by omega) rfl rfl (fun _ => rfl) (by omega) hbel3 ?_)
    intro w4 hown4 hbel4 hsz4
    rw [laid_one zs n (by omega)] at hown4
    go_wp2
    go_ret3
    exact ⟨_, rfl, hown4.mono hbw.size, bthen hbw hbel4⟩
end Go.Proofs.YtdndeegpbjlibadGreatDoor

namespace Go.Proofs.YtdndeegpbjlibadGreatDoor
open Go.ChangeShapes Go.WideShapes Go.ChangeAt Go.RowKit

theorem byte_inj {a b : Int} (ha : 0 ≤ a ∧ a ≤ 255) (hb : 0 ≤ b ∧ b ≤ 255) (h : UInt8.ofNat a.toNat = UInt8.ofNat b.toNat) : a = b := by
  have h2 := congrArg UInt8.toNat h
  simp at h2
  omega

theorem map_byte_inj : ∀ {X Y : List Int}, Bytes X → Bytes Y → X.map (fun n => UInt8.ofNat n.toNat) = Y.map (fun n => UInt8.ofNat n.toNat) → X = Y
  | [], [], _, _, _ => rfl
  | [], _ :: _, _, _, h => by simp at h
  | _ :: _, [], _, _, h => by simp at h
  | x :: X, y :: Y, hX, hY, h => by
    simp only [List.map_cons, List.cons.injEq] at h
    rw [byte_inj (hX x (by simp)) (hY y (by simp)) h.1, map_byte_inj (fun n hn => hX n (by simp [hn])) (fun n hn => hY n (by simp [hn])) h.2]

theorem str_inj {X Y : List Int} (hX : Bytes X) (hY : Bytes Y) (h : strOfNums X = strOfNums Y) : X = Y := by
  apply map_byte_inj hX hY
  rw [← strOfNums_data, ← strOfNums_data, h]

theorem str_ne {X Y : List Int} (hX : Bytes X) (hY : Bytes Y) (h : X ≠ Y) : ((strOfNums X).toList == (strOfNums Y).toList) = false := by
  rw [beq_eq_false_iff_ne]
  intro e
  rw [ByteArray.toList_eq, ByteArray.toList_eq, strOfNums_data, strOfNums_data] at e
  exact h (map_byte_inj hX hY e)

theorem sum_bytes (W P : Nat) (zs : List Int) : Bytes (sumL W P zs) := by
  intro m hm
  unfold sumL sumTo at hm
  obtain ⟨i, _, rfl⟩ := List.mem_map.1 hm
  have := b2i_bd ((crc W P zs).testBit (W - 1 - i))
  omega

set_option maxRecDepth 100000 in
set_option maxHeartbeats 2000000 in
theorem open_diff (zs : List Int) (k : Int) (a : Option Addr) (c : Nat) (w : World) (ha : Rd .u8 w a zs) (hcap : zs.length ≤ c) (hcm : c ≤ maxLen) (hy : Bytes zs) (h : errSum zs k = 0) (n : Nat) (hl : zs.length = n + kW k) (hs : ksum (zs.take n) k ≠ zs.drop n) :
    Calls Tryz.prog 9 #[.slice a zs.length c, .int .i64 k] w fun e w' => e = .returned (.tuple #[.slice none 0 0, .bool false, .int .i64 0]) ∧ Below w.heap.size w w' := by
  obtain ⟨he, hk⟩ := errSum_ok h
  obtain ⟨hD, hW1, hW, hR⟩ := kind_div hk
  have hb : Bits zs := fun j => ⟨(hy.at j).1, (err_zero he).1 j⟩
  have hbt := bits_take hb n
  have hz := (err_zero he).2
  have HE : Hid (errOf zs = 0) := he
  have HK : Hid (isKind k = true) := hk
  have HL : Hid (zs.length = n + kW k) := hl
  have hlt : n < zs.length := by omega
  have hsub : (zs.length : Int) - (kW k : Int) = n := by omega
  have hlt' : (zs.take n).length = n := by rw [List.length_take]; omega
  have HT : Hid ((zs.take n).length = n) := hlt'
  have hld' : (zs.drop n).length = zs.length - n := by rw [List.length_drop]
  have HD : Hid ((zs.drop n).length = zs.length - n) := hld'
  unfold ksum kP at hs
  unfold kP at hD
  have hcmp : ((strOfNums (sumL (kW k) (2 ^ kW k ||| kR k) (zs.take n))).toList == (strOfNums (zs.drop n)).toList) = false := str_ne (sum_bytes _ _ _) (fun m hm => hy m (List.mem_of_mem_drop hm)) hs
  unfold maxLen at hcm
  clear h hy he hk hl hlt' hld' hs
  obtain ⟨b1, o1, rfl, hc1⟩ := ha.at hlt
  go_enter Tryz.func9, Tryz.ntmps9
  go_wp2_with fail
  refine (checksum_ok zs k _ c _ ha (by unfold maxLen; omega) HE.out HK.out).mono ?_
  rintro e w1 ⟨rfl, hb1⟩
  have hbb : Below w.heap.size w (w1.alloc (.cells #[.int .i64 (kW k), .int .u32 (kR k)] 56)) := hb1.alloc hb1.size _
  obtain ⟨p0, p1, -⟩ := box2 (w := w1) (x := .int .i64 (kW k)) (y := .int .u32 (kR k)) (T := 56) (w1 := w1.alloc (.cells #[.int .i64 (kW k), .int .u32 (kR k)] 56)) (Below.refl _ _)
  have hcb : ∀ j, j < zs.length → (w1.alloc (.cells #[.int .i64 (kW k), .int .u32 (kR k)] 56)).cell? ⟨b1, o1 + j, none⟩ = some (.int .u8 (zs.getD j 0)) := fun j hj => keep1 hbb (hc1 j hj)
  have hrt := Rd.take hcb n
  have hrd := Rd.drop hcb n
  clear hc1 hcb
  have hrz := ha.below hbb
  have P0 := hid p0
  have P1 := hid p1
  clear p0 p1
  go_wp2_with fail
  have hA1 : (n : Int) ≤ (c : Int) := by omega
  have hA2 : (n : Int) ≤ (zs.length : Int) := by omega
  have hrd' : Rd .u8 (w1.alloc (.cells #[.int .i64 (kW k), .int .u32 (kR k)] 56)).drew (some ⟨b1, o1 + n, none⟩) (zs.drop n) := hrd
  go_region_held (fun w' => w'.cell? ⟨w1.heap.size, 0, none⟩ = some (.int .i64 (kW k)) ∧ w'.cell? ⟨w1.heap.size, 1, none⟩ = some (.int .u32 (kR k)) ∧ (convert 22 9 (.slice (some ⟨b1, o1 + n, none⟩) (zs.length - n) (c - n))).run Tryz.prog w' = .ok (.string (strOfNums (zs.drop n))) w')
    (first | exact ⟨P0.out, P1.out, conv_rdN hrd' _ _ HD.out⟩ | exact ⟨keep1 hb2 P0.out, keep1 hb2 P1.out, conv_rdN (hrd'.below hb2) _ _ HD.out⟩)
    (first | (go_at_call 27; refine (sum_anyN (kW k) (kR k) (zs.take n) n HT.out _ _ _ ?_ hbt (by omega) hD hW1 hW hR).mono ?_; exact hrt; rintro e w2 ⟨v2, rfl, hown2, hb2⟩; obtain ⟨a2, c2, rfl, -⟩ := hown2.shape; have hcv2 := conv_rd hown2.rd c2))
  all_goals
    have hbw : Below w.heap.size w w2 := bthen hbb.drew hb2
    clear hcv2 hown2 hb2 hrd hrd' hrt hrz
    go_wp2
    go_ret3
    exact ⟨rfl, hbw⟩
end Go.Proofs.YtdndeegpbjlibadGreatDoor
