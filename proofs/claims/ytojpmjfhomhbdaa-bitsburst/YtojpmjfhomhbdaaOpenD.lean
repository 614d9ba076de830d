import Derived.Test.YtojpmjfhomhbdaaOpen
namespace Go.Proofs.Ytojpmjfhomhbdaa
open Go.ChangeShapes Go.WideShapes Go.ChangeAt Go.RowKit

theorem byte_inj {a b : Int} (ha : 0 ≤ a ∧ a ≤ 255) (hb : 0 ≤ b ∧ b ≤ 255) (h : UInt8.ofNat a.toNat = UInt8.ofNat b.toNat) : a = b := by
  have h2 := congrArg UInt8.toNat h
  simp at h2
  omega

theorem map_byte_inj : ∀ {X Y : List Int}, Bytes X → Bytes Y → X.map (fun n => UInt8.ofNat n.toNat) = Y.map (fun n => UInt8.ofNat n.toNat) → X = Y
  | [], [], _, _, _ => rfl
  | [], _ :: _, _, _, h => by simp at h
  | _ :: _, [], _, _, h => by simp at h
  | x :: X, y :: Y, hX, hY, h => by
    simp only [List.map_cons, List.cons.injEq] at h
    rw [byte_inj (hX x (by simp)) (hY y (by simp)) h.1, map_byte_inj (fun n hn => hX n (by simp [hn])) (fun n hn => hY n (by simp [hn])) h.2]

theorem str_inj {X Y : List Int} (hX : Bytes X) (hY : Bytes Y) (h : strOfNums X = strOfNums Y) : X = Y := by
  apply map_byte_inj hX hY
  rw [← strOfNums_data, ← strOfNums_data, h]

theorem str_ne {X Y : List Int} (hX : Bytes X) (hY : Bytes Y) (h : X ≠ Y) : ((strOfNums X).toList == (strOfNums Y).toList) = false := by
  rw [beq_eq_false_iff_ne]
  intro e
  rw [ByteArray.toList_eq, ByteArray.toList_eq, strOfNums_data, strOfNums_data] at e
  exact h (map_byte_inj hX hY e)

theorem sum_bytes (W P : Nat) (zs : List Int) : Bytes (sumL W P zs) := by
  intro m hm
  unfold sumL sumTo at hm
  obtain ⟨i, _, rfl⟩ := List.mem_map.1 hm
  have := b2i_bd ((crc W P zs).testBit (W - 1 - i))
  omega

set_option maxHeartbeats 2000000 in
theorem open_diff (zs : List Int) (k : Int) (a : Option Addr) (c : Nat) (w : World) (ha : Rd .u8 w a zs) (hcap : zs.length ≤ c) (hcm : c ≤ maxLen) (hy : Bytes zs) (h : errSum zs k = 0) (n : Nat) (hl : zs.length = n + kW k) (hs : ksum (zs.take n) k ≠ zs.drop n) :
    Calls Try.prog 18 #[.slice a zs.length c, .int .i64 k] w fun e w' => e = .returned (.tuple #[.slice none 0 0, .bool false, .int .i64 0]) ∧ Below w.heap.size w w' := by
  obtain ⟨he, hk⟩ := errSum_ok h
  obtain ⟨hD, hW1, hW, hR⟩ := kind_div hk
  have hb : Bits zs := fun j => ⟨(hy.at j).1, (err_zero he).1 j⟩
  have hbt := bits_take hb n
  have hz := (err_zero he).2
  have HE : Hid (errOf zs = 0) := he
  have HK : Hid (isKind k = true) := hk
  have HL : Hid (zs.length = n + kW k) := hl
  have hlt : n < zs.length := by omega
  have hsub : (zs.length : Int) - (kW k : Int) = n := by omega
  have hlt' : (zs.take n).length = n := by rw [List.length_take]; omega
  have HT : Hid ((zs.take n).length = n) := hlt'
  have hld' : (zs.drop n).length = zs.length - n := by rw [List.length_drop]
  have HD : Hid ((zs.drop n).length = zs.length - n) := hld'
  unfold ksum kP at hs
  unfold kP at hD
  have hcmp : ((strOfNums (sumL (kW k) (2 ^ kW k ||| kR k) (zs.take n))).toList == (strOfNums (zs.drop n)).toList) = false := str_ne (sum_bytes _ _ _) (fun m hm => hy m (List.mem_of_mem_drop hm)) hs
  unfold maxLen at hcm
  clear h hy he hk hl hlt' hld' hs
  obtain ⟨b1, o1, rfl, hc1⟩ := ha.at hlt
  go_enter Try.func18, Try.ntmps18
  go_wp2_with fail
  refine (checksum_ok zs k _ c _ ha (by unfold maxLen; omega) HE.out HK.out).mono ?_
  rintro e w1 ⟨rfl, hb1⟩
  have hbb : Below w.heap.size w (w1.alloc (.cells #[.int .i64 (kW k), .int .u32 (kR k)] 51)) := hb1.alloc hb1.size _
  obtain ⟨p0, p1, -⟩ := box2 (w := w1) (x := .int .i64 (kW k)) (y := .int .u32 (kR k)) (T := 51) (w1 := w1.alloc (.cells #[.int .i64 (kW k), .int .u32 (kR k)] 51)) (Below.refl _ _)
  have hcb : ∀ j, j < zs.length → (w1.alloc (.cells #[.int .i64 (kW k), .int .u32 (kR k)] 51)).cell? ⟨b1, o1 + j, none⟩ = some (.int .u8 (zs.getD j 0)) := fun j hj => keep1 hbb (hc1 j hj)
  have hrt := Rd.take hcb n
  have hrd := Rd.drop hcb n
  clear hc1 hcb
  have hrz := ha.below hbb
  have P0 := hid p0
  have P1 := hid p1
  clear p0 p1
  go_wp2_with fail
  have hA1 : (n : Int) ≤ (c : Int) := by omega
  have hA2 : (n : Int) ≤ (zs.length : Int) := by omega
  have hrd' : Rd .u8 (w1.alloc (.cells #[.int .i64 (kW k), .int .u32 (kR k)] 51)).drew (some ⟨b1, o1 + n, none⟩) (zs.drop n) := hrd
  go_region_held (fun w' => w'.cell? ⟨w1.heap.size, 0, none⟩ = some (.int .i64 (kW k)) ∧ w'.cell? ⟨w1.heap.size, 1, none⟩ = some (.int .u32 (kR k)) ∧ (convert 27 9 (.slice (some ⟨b1, o1 + n, none⟩) (zs.length - n) (c - n))).run Try.prog w' = .ok (.string (strOfNums (zs.drop n))) w')
    (first | exact ⟨P0.out, P1.out, conv_rdN hrd' _ _ HD.out⟩ | exact ⟨keep1 hb2 P0.out, keep1 hb2 P1.out, conv_rdN (hrd'.below hb2) _ _ HD.out⟩)
    (first | (go_at_call 29; refine (sum_anyN (kW k) (kR k) (zs.take n) n HT.out _ _ _ ?_ hbt (by omega) hD hW1 hW hR).mono ?_; exact hrt; rintro e w2 ⟨v2, rfl, hown2, hb2⟩; obtain ⟨a2, c2, rfl, -⟩ := hown2.shape; have hcv2 := conv_rd hown2.rd c2))
  all_goals
    have hbw : Below w.heap.size w w2 := bthen hbb.drew hb2
    clear hcv2 hown2 hb2 hrd hrd' hrt hrz
    go_wp2
    go_ret3
    exact ⟨rfl, hbw⟩
end Go.Proofs.Ytojpmjfhomhbdaa
