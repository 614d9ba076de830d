import Derived.Test.YtbmdjfolfmgmmagGdA
import Derived.Test.YtbmdjfolfmgmmagPack
import Derived.Test.YtbmdjfolfmgmmagSpA
import Derived.Laws.ResultCell
namespace Go.Proofs.Ytbmdjfolfmgmmag
open Go.ChangeShapes Go.WideShapes Go.ChangeAt Go.RowKit

/-! PACKETS: the program's small functions. -/

theorem bitsOf_any (s : ByteArray) (w : World) (hm : s.size ≤ 503) :
    Calls Try.prog 37 #[.string s] w fun e w' => ∃ v, e = .returned v ∧ Own w' w.heap.size v (unpackTo s (8 * s.size)) ∧ Below w.heap.size w w' := by
  have h1 : unpackErr s (8 * (s.size : Int)) = 0 := by unfold unpackErr; rw [if_neg (by omega), if_neg (by omega)]
  have h2 : unpackL s (8 * (s.size : Int)) = unpackTo s (8 * s.size) := by
    unfold unpackL
    rw [if_pos h1]
    congr 1
  have hc := fun wz => unpack_any s (8 * (s.size : Int)) wz (by omega)
  rw [h1, h2] at hc
  clear h1 h2
  obtain ⟨L, eL⟩ : ∃ L, L = unpackTo s (8 * s.size) := ⟨_, rfl⟩
  rw [← eL] at hc ⊢
  clear eL
  go_enter Try.func37, Try.ntmps37
  go_wp2_with (go_at_call 51; refine (hc _).mono ?_; rintro e w' ⟨v, rfl, hO, hb⟩)
  go_ret
  exact ⟨v, rfl, hO, hb⟩

theorem and_low31 (n : Int) : bits .and .i64 n 2147483647 = n % 2147483648 := by
  have h1 : (BitVec.ofInt 64 2147483647).toNat = 2 ^ 31 - 1 := by decide
  have key : (BitVec.ofInt 64 n &&& BitVec.ofInt 64 2147483647).toNat = (n % ((2 ^ 64 : Nat) : Int)).toNat % 2 ^ 31 := by
    rw [BitVec.toNat_and, BitVec.toNat_ofInt, h1, Nat.and_two_pow_sub_one_eq_mod]
  show IntKind.i64.wrap ((BitVec.ofInt 64 n &&& BitVec.ofInt 64 2147483647).toNat : Nat) = n % 2147483648
  rw [key, IntKind.wrap_i64]
  omega
theorem and_low10 (n : Int) : bits .and .i64 n 1023 = n % 1024 := by
  have h1 : (BitVec.ofInt 64 1023).toNat = 2 ^ 10 - 1 := by decide
  have key : (BitVec.ofInt 64 n &&& BitVec.ofInt 64 1023).toNat = (n % ((2 ^ 64 : Nat) : Int)).toNat % 2 ^ 10 := by
    rw [BitVec.toNat_and, BitVec.toNat_ofInt, h1, Nat.and_two_pow_sub_one_eq_mod]
  show IntKind.i64.wrap ((BitVec.ofInt 64 n &&& BitVec.ofInt 64 1023).toNat : Nat) = n % 1024
  rw [key, IntKind.wrap_i64]
  omega
theorem and_low2 (n : Int) : bits .and .i64 n 3 = n % 4 := by
  have h1 : (BitVec.ofInt 64 3).toNat = 2 ^ 2 - 1 := by decide
  have key : (BitVec.ofInt 64 n &&& BitVec.ofInt 64 3).toNat = (n % ((2 ^ 64 : Nat) : Int)).toNat % 2 ^ 2 := by
    rw [BitVec.toNat_and, BitVec.toNat_ofInt, h1, Nat.and_two_pow_sub_one_eq_mod]
  show IntKind.i64.wrap ((BitVec.ofInt 64 n &&& BitVec.ofInt 64 3).toNat : Nat) = n % 4
  rw [key, IntKind.wrap_i64]
  omega

theorem seedOf_any (k : Int) (c : Nat) (w : World) (hk : 0 ≤ k ∧ k < 2147483648) (hc : c ≤ 33554432) :
    Calls Try.prog 38 #[.int .i64 k, .int .i64 (c : Int)] w fun e w' => e = .returned (.int .i64 (seedG k c : Nat)) ∧ w = w' := by
  have H := hid (show bits .and .i64 (k + 48271 * (c : Int) + 12345) 2147483647 = (seedG k c : Nat) by rw [and_low31, seedG_eq])
  go_enter Try.func38, Try.ntmps38
  go_wp2
  go_ret
  exact ⟨by rw [H.out]; rfl, rfl⟩

theorem gcover_any (d : ByteArray) (k : Int) (c : Nat) (w : World) (hd : d.size ≤ 500) (hk : 0 ≤ k ∧ k < 2147483648) (hc : c ≤ 33554432) :
    Calls Try.prog 27 #[.string d, .int .i64 k, .int .i64 (c : Int)] w fun e w' => e = .returned (.string (hidG d (seedG k c))) ∧ Below w.heap.size w w' := by
  have cB := fun wz => bitsOf_any d wz (by omega)
  have cS := fun wz => seedOf_any k c wz hk hc
  have hs := seedG_lt k c
  have H := hid (show strOfNums (packL (addTo (unpackTo d (8 * d.size)) (noiseTo (seedG k c) (8 * d.size)) (8 * d.size))) = hidG d (seedG k c) from rfl)
  have hl : (unpackTo d (8 * d.size)).length = 8 * d.size := unpackTo_length _ _
  have hbt := unpack_bitsG d (8 * d.size)
  obtain ⟨R, eR⟩ : ∃ R, R = hidG d (seedG k c) := ⟨_, rfl⟩
  obtain ⟨S, eS⟩ : ∃ S, S = seedG k c := ⟨_, rfl⟩
  obtain ⟨L, eL⟩ : ∃ L, L = unpackTo d (8 * d.size) := ⟨_, rfl⟩
  obtain ⟨n, en⟩ : ∃ n, n = 8 * d.size := ⟨_, rfl⟩
  rw [← eL] at cB hl hbt H
  rw [← eS] at cS hs H
  rw [← eS] at eR
  rw [← eR] at H
  have hn : n ≤ 4000 := by omega
  rw [← en] at hl H
  rw [show hidG d (seedG k c) = R by rw [eR, eS]]
  clear eR eS eL en hd hk hc
  have cC := fun a cp wz hr => cover_ok L S a cp wz hr hbt (bits_okG hbt (by omega)) hs
  rw [hl] at cC
  have cP := fun a cp wz hr => pack_ok (addTo L (noiseTo S n) n) a cp wz hr (add_bitsG _ _ _) (by rw [addTo_length]; omega) (bits_okG (add_bitsG _ _ _) (by rw [addTo_length]; omega))
  rw [addTo_length, H.out] at cP
  go_enter Try.func27, Try.ntmps27
  go_wp2_with (first | (go_at_call 37; refine (cB _).mono ?_; rintro e w1 ⟨v1, rfl, hO1, hb1⟩; obtain ⟨a1, c1, rfl, -, -⟩ := hO1.shape; rw [hl]) | (go_at_call 38; refine (cS _).mono ?_; rintro e w2 ⟨rfl, rfl⟩))
  refine (cC a1 c1 _ hO1.rd).mono ?_
  rintro e w2 ⟨v2, rfl, hO2, hb2⟩
  obtain ⟨a2, c2, rfl, -, -⟩ := hO2.shape
  rw [addTo_length]
  go_wp2_with fail
  refine (cP a2 c2 _ hO2.rd).mono ?_
  rintro e w3 ⟨rfl, hb3⟩
  go_wp2
  go_ret
  exact ⟨rfl, bthen hb1 (bthen hb2 hb3)⟩

theorem conv_three (x y z : Int) (wz : World) : (convert 75 9 (.slice (some ⟨wz.heap.size, 0, none⟩) 3 3)).run Try.prog (wz.alloc (.cells #[.int .u8 x, .int .u8 y, .int .u8 z] 5)) = .ok (.string (strOfNums [x, y, z])) (wz.alloc (.cells #[.int .u8 x, .int .u8 y, .int .u8 z] 5)) := by
  refine conv_rd (L := [x, y, z]) ?_ 3
  intro _
  refine ⟨wz.heap.size, 0, rfl, fun j hj => ?_⟩
  have hj3 : j < 3 := hj
  rw [cell_of_row _ _ _ _ _ _ (heap_alloc_new wz _)]
  rcases (show j = 0 ∨ j = 1 ∨ j = 2 by omega) with rfl | rfl | rfl <;> rfl

set_option maxRecDepth 100000 in
theorem sealOf_any (d : ByteArray) (c : Nat) (w : World) (hd : d.size ≤ 500) :
    Calls Try.prog 28 #[.int .i64 (c : Int), .string d] w fun e w' => e = .returned (.string (sealG c d)) ∧ Below w.heap.size w w' := by
  have hsz : (headG c ++ d).size = 3 + d.size := by rw [ByteArray.size_append, headG_size]
  have cB := fun wz => bitsOf_any (headG c ++ d) wz (by omega)
  rw [hsz] at cB
  have H := hid (show strOfNums (packL (ksum (unpackTo (headG c ++ d) (8 * (3 + d.size))) 3)) = sealG c d from rfl)
  have hl : (unpackTo (headG c ++ d) (8 * (3 + d.size))).length = 8 * (3 + d.size) := unpackTo_length _ _
  have hh := headG_size c
  have hbt := unpack_bitsG (headG c ++ d) (8 * (3 + d.size))
  obtain ⟨R, eR⟩ : ∃ R, R = sealG c d := ⟨_, rfl⟩
  obtain ⟨L, eL⟩ : ∃ L, L = unpackTo (headG c ++ d) (8 * (3 + d.size)) := ⟨_, rfl⟩
  obtain ⟨n, en⟩ : ∃ n, n = 8 * (3 + d.size) := ⟨_, rfl⟩
  rw [← eL] at cB hl hbt H
  rw [← eR] at H ⊢
  have hn : n ≤ 4024 := by omega
  rw [← en] at hl
  clear eR eL en
  have cC := fun a cp wz hr => sum_ok L 3 a cp wz hr (bits_bytesG hbt) (by unfold errSum; rw [if_pos (bits_okG hbt (by omega)), if_pos isKind3G])
  rw [hl] at cC
  have cP := fun a cp wz hr => pack_ok (ksum L 3) a cp wz hr (ksum_bitsG _ _) (by rw [ksum3_len]; omega) (bits_okG (ksum_bitsG _ _) (by rw [ksum3_len]; omega))
  rw [ksum3_len, H.out] at cP
  go_enter Try.func28, Try.ntmps28
  have hcv := fun wz => conv_three ((c : Int) / 65536 % 256) ((c : Int) / 256 % 256) ((c : Int) % 256) wz
  rw [show strOfNums [(c : Int) / 65536 % 256, (c : Int) / 256 % 256, (c : Int) % 256] = headG c from rfl] at hcv
  go_wp2_with (go_at_call 37; refine (cB _).mono ?_; rintro e w1 ⟨v1, rfl, hO1, hb1⟩; obtain ⟨a1, c1, rfl, -, -⟩ := hO1.shape; rw [hl])
  refine (cC a1 c1 _ hO1.rd).mono ?_
  rintro e w2 ⟨v2, rfl, hO2, hb2⟩
  obtain ⟨a2, c2, rfl, -, -⟩ := hO2.shape
  rw [ksum3_len]
  go_wp2_with fail
  refine (cP a2 c2 _ hO2.rd).mono ?_
  rintro e w3 ⟨rfl, hb3⟩
  go_wp2
  go_ret
  exact ⟨rfl, bthen ((Below.refl _ _).alloc (Nat.le_refl _) _) (bthen hb1 (bthen hb2 hb3))⟩

theorem At.setCellG {w : World} {b : Nat} {T : TypeId} {cur : List Value} (h : At w b T cur) (o : Nat) (v : Value) : At (w.setCell ⟨b, o, none⟩ v) b T (cur.set o v) := by
  unfold At at h ⊢
  rw [heap_setCell_same w b o _ T v h]
  simp
theorem at_newG (w : World) (T : TypeId) (cur : List Value) : At (w.alloc (.cells cur.toArray T)) w.heap.size T cur := heap_alloc_new w (.cells cur.toArray T)
theorem packetOf_any (d : ByteArray) (k : Int) (c : Nat) (w : World) (hd : d.size ≤ 500) (hk : 0 ≤ k ∧ k < 2147483648) (hc : c ≤ 33554432) :
    Calls Try.prog 23 #[.string d, .int .i64 k, .int .i64 (c : Int)] w fun e w' => e = .returned (pktG k c d).val ∧ Below w.heap.size w w' := by
  have cC := fun wz => gcover_any d k c wz hd hk hc
  have cS := fun wz => sealOf_any d c wz hd
  have H := hid (show Value.agg #[.int .i64 ((c : Int) % 4096), .string (hidG d (seedG k c)), .string (sealG c d)] = (pktG k c d).val by unfold pktG PktM.val; simp)
  obtain ⟨V, eV⟩ : ∃ V, V = (pktG k c d).val := ⟨_, rfl⟩
  rw [← eV] at H ⊢
  obtain ⟨A, eA⟩ : ∃ A, A = hidG d (seedG k c) := ⟨_, rfl⟩
  obtain ⟨B, eB⟩ : ∃ B, B = sealG c d := ⟨_, rfl⟩
  rw [← eA, ← eB] at H
  rw [← eA] at cC
  rw [← eB] at cS
  clear eV eA eB
  have HA := hid (at_newG w 43 [.int .i64 0, .string { data := #[] }, .string { data := #[] }])
  go_enter Try.func23, Try.ntmps23
  go_wp2_with (first | (go_at_call 27; refine (cC _).mono ?_; rintro e w1 ⟨rfl, hb1⟩) | (go_at_call 28; refine (cS _).mono ?_; rintro e w2 ⟨rfl, hb2⟩; have t5 := (HA.out.kept (S := []) (Kept.of_below hb1) (by simp)).kept (S := []) (Kept.of_below hb2) (by simp); have y0 : w2.cell? ⟨w.heap.size, 0, none⟩ = some (.int .i64 0) := t5.cell 0; have y1 : w2.cell? ⟨w.heap.size, 1, none⟩ = some (.string { data := #[] }) := t5.cell 1; have y2 : w2.cell? ⟨w.heap.size, 2, none⟩ = some (.string { data := #[] }) := t5.cell 2; have z0 := t5.free 0; have z1 := t5.free 1; have z2 := t5.free 2))
  have hZ : At (((w2.setCell ⟨w.heap.size, 0, none⟩ (.int .i64 ((c : Int) % 4096))).setCell ⟨w.heap.size, 1, none⟩ (.string A)).setCell ⟨w.heap.size, 2, none⟩ (.string B)) w.heap.size 43 [.int .i64 ((c : Int) % 4096), .string A, .string B] := ((t5.setCellG 0 (.int .i64 ((c : Int) % 4096))).setCellG 1 (.string A)).setCellG 2 (.string B)
  have hB : Below w.heap.size w (((w2.setCell ⟨w.heap.size, 0, none⟩ (.int .i64 ((c : Int) % 4096))).setCell ⟨w.heap.size, 1, none⟩ (.string A)).setCell ⟨w.heap.size, 2, none⟩ (.string B)) := (((bthen ((Below.refl _ _).alloc (Nat.le_refl _) _) (bthen hb1 hb2)).setCell (Nat.le_refl _) _).setCell (Nat.le_refl _) _).setCell (Nat.le_refl _) _
  (try simp only [Exit.inBlock, Exit.then])
  refine bodyPost_ret (results_cell_row (p := 6) (ty := 43) (by kernel_rfl) _ _ w.heap.size 43 _ (0, 0) _ rfl hZ Try.underlying43 rfl (by kernel_rfl)) rfl ?_
  exact ⟨by rw [← H.out], hB⟩

def keyOk (k : Int) : Bool := decide (0 ≤ k) && decide (k ≤ 2147483647)
def keyErr (k : Int) : Int := if keyOk k then 0 else 1
theorem checkKey_any (k : Int) (w : World) : Calls Try.prog 21 #[.int .i64 k] w fun e w' => e = .returned (.int .i64 (keyErr k)) ∧ w = w' := by
  by_cases h1 : k < 0
  · have H := hid (show keyErr k = 1 by unfold keyErr keyOk; simp [show ¬ (0 ≤ k) by omega])
    go_enter Try.func21, Try.ntmps21
    go_wp2
    go_ret
    exact ⟨by rw [H.out]; rfl, rfl⟩
  · by_cases h2 : 2147483647 < k
    · have H := hid (show keyErr k = 1 by unfold keyErr keyOk; simp [show ¬ (k ≤ 2147483647) by omega])
      go_enter Try.func21, Try.ntmps21
      go_wp2
      go_ret
      exact ⟨by rw [H.out]; rfl, rfl⟩
    · have H := hid (show keyErr k = 0 by unfold keyErr keyOk; simp [show 0 ≤ k by omega, show k ≤ 2147483647 by omega])
      go_enter Try.func21, Try.ntmps21
      go_wp2
      go_ret
      exact ⟨by rw [H.out]; rfl, rfl⟩
end Go.Proofs.Ytbmdjfolfmgmmag
