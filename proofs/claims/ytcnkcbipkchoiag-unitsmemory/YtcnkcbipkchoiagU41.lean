import Derived.Test.YtcnkcbipkchoiagU40
import Derived.Test.YtcnkcbipkchoiagU39
import Derived.Test.YtcnkcbipkchoiagU03
import Derived.Test.YtcnkcbipkchoiagU05
import Derived.Laws.ResultCell
namespace Go.Proofs.Ytcnkcbipkchoiag
open Go.ChangeShapes Go.WideShapes Go.ChangeAt Go.RowKit
/-- The width and the divisor (without its highest place) of a kind. -/
def kW (k : Int) : Nat := if k = 0 then 6 else if k = 1 then 11 else if k = 2 then 16 else if k = 3 then 24 else 0
def kR (k : Int) : Nat := if k = 0 then 33 else if k = 1 then 1569 else if k = 2 then 4129 else if k = 3 then 8801531 else 0
def kP (k : Int) : Nat := 2 ^ kW k ||| kR k
def isKind (k : Int) : Bool := decide (0 ≤ k ∧ k ≤ 3)
theorem kind_cases {k : Int} (h : isKind k = true) : k = 0 ∨ k = 1 ∨ k = 2 ∨ k = 3 := by
  simp [isKind] at h; omega
theorem kind_div {k : Int} (h : isKind k = true) : Div (kW k) (kP k) ∧ 1 ≤ kW k ∧ kW k ≤ 24 ∧ kR k < 16777216 := by
  rcases kind_cases h with rfl | rfl | rfl | rfl
  · exact ⟨⟨by decide, by decide, by decide, by decide⟩, by decide, by decide, by decide⟩
  · exact ⟨⟨by decide, by decide, by decide, by decide⟩, by decide, by decide, by decide⟩
  · exact ⟨⟨by decide, by decide, by decide, by decide⟩, by decide, by decide, by decide⟩
  · exact ⟨⟨by decide, by decide, by decide, by decide⟩, by decide, by decide, by decide⟩
set_option maxHeartbeats 1000000 in
theorem divisor_yes (k : Int) (w : World) (h : isKind k = true) :
    Calls Try.prog 146 #[.int .i64 k] w fun e w' => e = .returned (.tuple #[.agg #[.int .i64 (kW k), .int .u32 (kR k)], .int .i64 0]) ∧ Below w.heap.size w w' := by
  rcases kind_cases h with rfl | rfl | rfl | rfl
  all_goals
    clear h
    go_enter Try.func146, Try.ntmps146
    go_wp2
  · exact bodyPost_ret (v := .tuple #[.agg #[.int .i64 6, .int .u32 33], .int .i64 0]) (by simp [results, Try.results146, go_sem]) rfl ⟨rfl, (Below.refl _ _).alloc (Nat.le_refl _) _⟩
  · exact bodyPost_ret (v := .tuple #[.agg #[.int .i64 11, .int .u32 1569], .int .i64 0]) (by simp [results, Try.results146, go_sem]) rfl ⟨rfl, (Below.refl _ _).alloc (Nat.le_refl _) _⟩
  · exact bodyPost_ret (v := .tuple #[.agg #[.int .i64 16, .int .u32 4129], .int .i64 0]) (by simp [results, Try.results146, go_sem]) rfl ⟨rfl, (Below.refl _ _).alloc (Nat.le_refl _) _⟩
  · exact bodyPost_ret (v := .tuple #[.agg #[.int .i64 24, .int .u32 8801531], .int .i64 0]) (by simp [results, Try.results146, go_sem]) rfl ⟨rfl, (Below.refl _ _).alloc (Nat.le_refl _) _⟩
/-- The box of a divisor, behind a call. -/
theorem box2 {w w1 : World} {x y : Value} {T : TypeId} (hb : Below (w.alloc (.cells #[x, y] T)).heap.size (w.alloc (.cells #[x, y] T)) w1) :
    w1.cell? ⟨w.heap.size, 0, none⟩ = some x ∧ w1.cell? ⟨w.heap.size, 1, none⟩ = some y ∧ w1.frozen? ⟨w.heap.size, 0, none⟩ = false ∧ w1.frozen? ⟨w.heap.size, 1, none⟩ = false ∧ w.heap.size < w1.heap.size := by
  have hlt : w.heap.size < (w.alloc (.cells #[x, y] T)).heap.size := by simp
  refine ⟨(hb.cell (p := ⟨w.heap.size, 0, none⟩) hlt).trans ?_, (hb.cell (p := ⟨w.heap.size, 1, none⟩) hlt).trans ?_, (hb.frozen (p := ⟨w.heap.size, 0, none⟩) hlt).trans ?_, (hb.frozen (p := ⟨w.heap.size, 1, none⟩) hlt).trans ?_, Nat.lt_of_lt_of_le hlt hb.size⟩
  · rw [cell_of_row _ _ _ _ _ _ (heap_alloc_new w _)]; rfl
  · rw [cell_of_row _ _ _ _ _ _ (heap_alloc_new w _)]; rfl
  · exact frozen_of_row _ _ _ _ _ (heap_alloc_new w _)
  · exact frozen_of_row _ _ _ _ _ (heap_alloc_new w _)
/-- What is wrong with bits and a kind. -/
def errSum (zs : List Int) (k : Int) : Int := if errOf zs = 0 then (if isKind k then 0 else 1) else errOf zs
set_option maxHeartbeats 1000000 in
theorem checksum_ok (zs : List Int) (k : Int) (a : Option Addr) (c : Nat) (w : World) (ha : Rd .u8 w a zs) (hz : zs.length ≤ maxLen) (he : errOf zs = 0) (h : isKind k = true) :
    Calls Try.prog 136 #[.slice a zs.length c, .int .i64 k] w fun e w' => e = .returned (.tuple #[.agg #[.int .i64 (kW k), .int .u32 (kR k)], .int .i64 0]) ∧ Below w.heap.size w w' := by
  have HE : Hid (errOf zs = 0) := he
  clear he
  go_enter Try.func136, Try.ntmps136
  go_wp2_with fail
  refine (check_any zs a c _ (ha.below ((Below.refl _ _).alloc (Nat.le_refl _) _)) hz).mono ?_
  rintro e w1 ⟨rfl, rfl⟩
  rw [HE.out]
  go_wp2_with fail
  refine (divisor_yes k _ h).mono ?_
  rintro e w1 ⟨rfl, hb⟩
  obtain ⟨q0, q1, q2, q3, q4⟩ := box2 hb
  have hbw : Below w.heap.size w w1 := bthen ((Below.refl _ _).alloc (Nat.le_refl _) _) hb
  clear hb
  go_wp2
  exact bodyPost_ret (v := .tuple #[.agg #[.int .i64 (kW k), .int .u32 (kR k)], .int .i64 0]) (by simp [results, Try.results136, go_sem, q0, q1]) rfl ⟨rfl, (hbw.setCell (Nat.le_refl _) _).setCell (Nat.le_refl _) _⟩
theorem errSum_ok {zs : List Int} {k : Int} (h : errSum zs k = 0) : errOf zs = 0 ∧ isKind k = true := by
  unfold errSum at h
  split at h
  · rename_i he
    refine ⟨he, ?_⟩
    split at h
    · assumption
    · simp at h
  · contradiction
end Go.Proofs.Ytcnkcbipkchoiag
namespace Go.Proofs.Ytcnkcbipkchoiag
open Go.ChangeShapes Go.WideShapes Go.ChangeAt Go.RowKit
/-- The sum of bits, of a kind. -/
def ksum (zs : List Int) (k : Int) : List Int := sumL (kW k) (kP k) zs
set_option maxHeartbeats 1000000 in
theorem sum_ok (zs : List Int) (k : Int) (a : Option Addr) (c : Nat) (w : World) (ha : Rd .u8 w a zs) (hy : Bytes zs) (h : errSum zs k = 0) :
    Calls Try.prog 108 #[.slice a zs.length c, .int .i64 k] w fun e w' => ∃ v, e = .returned (.tuple #[v, .int .i64 0]) ∧ Own w' w.heap.size v (ksum zs k) ∧ Below w.heap.size w w' := by
  obtain ⟨he, hk⟩ := errSum_ok h
  obtain ⟨hD, hW1, hW, hR⟩ := kind_div hk
  have hb : Bits zs := fun j => ⟨(hy.at j).1, (err_zero he).1 j⟩
  have hz := (err_zero he).2
  have HE : Hid (errOf zs = 0) := he
  have HK : Hid (isKind k = true) := hk
  clear h hy he hk
  unfold ksum kP
  unfold kP at hD
  go_enter Try.func108, Try.ntmps108
  go_wp2_with fail
  refine (checksum_ok zs k a c _ ha (by unfold maxLen; omega) HE.out HK.out).mono ?_
  rintro e w1 ⟨rfl, hb1⟩
  have ha1 := ha.below hb1
  go_wp2_with fail
  refine (sum_any (kW k) (kR k) zs a c _ (ha1.below ((Below.refl _ _).alloc (Nat.le_refl _) _)) hb hz hD hW1 hW hR).mono ?_
  rintro e w2 ⟨v, rfl, hown, hb2⟩
  have hb3 := bthen hb1 (bthen ((Below.refl _ _).alloc (Nat.le_refl _) _) hb2)
  go_wp2
  go_ret2
  refine ⟨v, rfl, hown.mono ?_, hb3⟩
  have := hb1.size
  simp
  omega
end Go.Proofs.Ytcnkcbipkchoiag
namespace Go.Proofs.Ytcnkcbipkchoiag
open Go.ChangeShapes Go.WideShapes Go.ChangeAt Go.RowKit
theorem Own.other {w : World} {B g N c : Nat} {L : List Int} (h : Own w B (.slice (some ⟨g, 0, none⟩) N c) L) (g' i : Nat) (u : Value) (hne : g ≠ g') : Own (w.setCell ⟨g', i, none⟩ u) B (.slice (some ⟨g, 0, none⟩) N c) L :=
  ownsRow_setCell_other h (a := ⟨g', i, none⟩) (by simpa [Value.ownBlock] using hne) u
end Go.Proofs.Ytcnkcbipkchoiag
namespace Go.Proofs.Ytcnkcbipkchoiag
open Go.ChangeShapes Go.WideShapes Go.ChangeAt Go.RowKit
theorem unpack_bitsG (s : ByteArray) (n : Nat) : Bits (unpackTo s n) := fun k => by
  by_cases h : k < n
  · have e : (unpackTo s n).getD k 0 = bitAt s k := by simp [unpackTo, List.getD, h]
    rw [e]
    unfold bitAt
    omega
  · have e : (unpackTo s n).getD k 0 = 0 := by simp [unpackTo, List.getD, h]
    rw [e]
    omega
theorem add_bitsG (xs ys : List Int) (n : Nat) : Bits (addTo xs ys n) := fun k => by
  by_cases h : k < n
  · have e : (addTo xs ys n).getD k 0 = (xs.getD k 0 + ys.getD k 0) % 2 := by simp [addTo, List.getD, h]
    rw [e]
    omega
  · have e : (addTo xs ys n).getD k 0 = 0 := by simp [addTo, List.getD, h]
    rw [e]
    omega
theorem ksum_bitsG (zs : List Int) (k : Int) : Bits (ksum zs k) := fun j => by
  unfold ksum sumL
  by_cases h : j < kW k
  · have : (sumTo (kW k) (kP k) zs (kW k)).getD j 0 = b2i ((crc (kW k) (kP k) zs).testBit (kW k - 1 - j)) := by simp [sumTo, List.getD, h]
    rw [this]; exact b2i_bd _
  · have : (sumTo (kW k) (kP k) zs (kW k)).getD j 0 = 0 := by simp [sumTo, List.getD, h]
    rw [this]; omega
theorem bits_okG {zs : List Int} (h : Bits zs) (hz : zs.length ≤ 4096) : errOf zs = 0 := err_none (fun j _ => (h j).2) (by omega)
theorem bits_bytesG {zs : List Int} (h : Bits zs) : Bytes zs := fun x hx => by
  obtain ⟨k, hk, rfl⟩ := List.getElem_of_mem hx
  have := h k
  have e : zs.getD k 0 = zs[k] := by simp [List.getD, hk]
  rw [e] at this
  omega
theorem kW3G : kW 3 = 24 := by unfold kW; simp
theorem isKind3G : isKind 3 = true := by unfold isKind; simp
/-- The seed that covers a packet. -/
def seedG (k : Int) (c : Nat) : Nat := ((k + 48271 * (c : Int) + 12345) % 2147483648).toNat
theorem seedG_lt (k : Int) (c : Nat) : seedG k c < 2147483648 := by unfold seedG; omega
theorem seedG_eq (k : Int) (c : Nat) : ((seedG k c : Nat) : Int) = (k + 48271 * (c : Int) + 12345) % 2147483648 := by unfold seedG; omega
/-- Data, covered. -/
def hidG (d : ByteArray) (s : Nat) : ByteArray := strOfNums (packL (addTo (unpackTo d (8 * d.size)) (noiseTo s (8 * d.size)) (8 * d.size)))
/-- A count's three bytes. -/
def headG (c : Nat) : ByteArray := strOfNums [(c : Int) / 65536 % 256, (c : Int) / 256 % 256, (c : Int) % 256]
theorem headG_size (c : Nat) : (headG c).size = 3 := by unfold headG; rw [strOfNums_size]; rfl
/-- The seal of data that has a count. -/
def sealG (c : Nat) (d : ByteArray) : ByteArray := strOfNums (packL (ksum (unpackTo (headG c ++ d) (8 * (3 + d.size))) 3))
theorem ksum3_len (zs : List Int) : (ksum zs 3).length = 24 := by
  have : (ksum zs 3).length = kW 3 := sumL_length _ _ _
  rw [this, kW3G]
/-- A packet. -/
structure PktM where
  short : Int
  data : ByteArray
  sl : ByteArray
def PktM.val (p : PktM) : Value := .agg #[.int .i64 p.short, .string p.data, .string p.sl]
def PktM.zero : PktM := ⟨0, ByteArray.empty, ByteArray.empty⟩
def pktG (k : Int) (c : Nat) (d : ByteArray) : PktM := ⟨((c % 4096 : Nat) : Int), hidG d (seedG k c), sealG c d⟩
end Go.Proofs.Ytcnkcbipkchoiag
namespace Go.Proofs.Ytcnkcbipkchoiag
open Go.ChangeShapes Go.WideShapes Go.ChangeAt Go.RowKit
set_option maxRecDepth 100000 in
set_option maxHeartbeats 1000000 in
theorem pack_ok (zs : List Int) (a : Option Addr) (c : Nat) (w : World) (ha : Rd .u8 w a zs) (hb : Bits zs) (hz : zs.length ≤ 4096) (he : errOf zs = 0) :
    Calls Try.prog 107 #[.slice a zs.length c] w fun e w' => e = .returned (.tuple #[.string (strOfNums (packL zs)), .int .i64 0]) ∧ Below w.heap.size w w' := by
  have HE : Hid (errOf zs = 0) := he
  clear he
  go_enter Try.func107, Try.ntmps107
  go_wp2_with (first | (go_at_call 133; refine (check_any zs a c _ ha (by unfold maxLen; omega)).mono ?_; rintro e w' ⟨rfl, rfl⟩; rw [HE.out]) | (at_make; refine wpList_makeBytes w.heap.size w ((zs.length + 7) / 8) rfl _ _ rfl _ _ rfl rfl ?_ ?_ (by omega) (Below.refl _ _) (Nat.le_refl _) ?_))
  · omega
  · omega
  intro w1 hown1 hbel1 hsz1
  rw [← packTo_zero zs] at hown1
  obtain ⟨M, hM⟩ : ∃ M, M = (zs.length + 7) / 8 := ⟨_, rfl⟩
  rw [← hM] at hown1 ⊢
  have hM1 : M ≤ 513 := by omega
  have hM2 : zs.length ≤ 8 * M := by omega
  have HM : Hid (M = (zs.length + 7) / 8) := hM
  clear hM
  go_wp2
  go_loopw [20] (fun i wr => ∃ k : Nat, k ≤ zs.length ∧ i = .int .i64 k ∧ Own wr w.heap.size (.slice (some ⟨w.heap.size, 0, none⟩) M M) (packTo zs k) ∧ Below w.heap.size w wr) (fun i _ => zs.length - (intOf i).toNat)
  case atStart => exact ⟨0, Nat.zero_le _, rfl, hown1, hbel1⟩
  case round =>
    clear hown1 hbel1
    obtain ⟨k, hk, rfl, hown, hbel⟩ := hrel
    by_cases hlt : k < zs.length
    · have hll : (packTo zs k).length = M := hown.len
      have hk8 : k / 8 < M := by omega
      have hc := hown.cell (i := k / 8) (by omega)
      rw [packTo_getD zs k (k / 8) (by rw [← HM.out]; exact hk8)] at hc
      have hf := hown.free (k / 8)
      obtain ⟨b1, o1, rfl, hc1⟩ := (ha.below hbel).at hlt
      have g1 := hc1 k hlt
      clear hc1 hll
      have hor := or_step zs k hb _ _ rfl rfl
      obtain ⟨p, hp⟩ : ∃ p, p = byteTo zs k (k / 8) := ⟨_, rfl⟩
      obtain ⟨x, hx⟩ : ∃ x, x = zs.getD k 0 := ⟨_, rfl⟩
      have hx01 := hb k
      rw [← hp] at hc hor
      rw [← hx] at g1 hor hx01
      obtain ⟨hp0, hp1, hq0, hq1, hor'⟩ := hor
      have HOR : Hid (bits .or .u8 p (x * 2 ^ (7 - k % 8)) = byteTo zs (k + 1) (k / 8)) := hor'
      have hk8' : (k : Int) / 8 < M := by omega
      clear hp hx hor'
      go_wp2
      go_region
      go_wp2
      go_roundw
      case rel => exact ⟨k + 1, by omega, by go_num, (packTo_set zs k _ HOR.out ▸ hown.set (k / 8) _).drew, (hbel.setCell (Nat.le_refl _) _).drew⟩
      case measure => simp [intOf]; omega
    · obtain rfl : k = zs.length := by omega
      rw [packTo_all] at hown
      have hcv := conv_rd hown.rd M
      rw [hown.len] at hcv
      go_wp2
      go_ret2
      exact ⟨rfl, hbel⟩
end Go.Proofs.Ytcnkcbipkchoiag
namespace Go.Proofs.Ytcnkcbipkchoiag
open Go.ChangeShapes Go.WideShapes Go.ChangeAt Go.RowKit
theorem bitsOf_any (s : ByteArray) (w : World) (hm : s.size ≤ 503) :
    Calls Try.prog 105 #[.string s] w fun e w' => ∃ v, e = .returned v ∧ Own w' w.heap.size v (unpackTo s (8 * s.size)) ∧ Below w.heap.size w w' := by
  have h1 : unpackErr s (8 * (s.size : Int)) = 0 := by unfold unpackErr; rw [if_neg (by omega), if_neg (by omega)]
  have h2 : unpackL s (8 * (s.size : Int)) = unpackTo s (8 * s.size) := by
    unfold unpackL
    rw [if_pos h1]
    congr 1
  have hc := fun wz => unpack_any s (8 * (s.size : Int)) wz (by omega)
  rw [h1, h2] at hc
  clear h1 h2
  obtain ⟨L, eL⟩ : ∃ L, L = unpackTo s (8 * s.size) := ⟨_, rfl⟩
  rw [← eL] at hc ⊢
  clear eL
  go_enter Try.func105, Try.ntmps105
  go_wp2_with (go_at_call 135; refine (hc _).mono ?_; rintro e w' ⟨v, rfl, hO, hb⟩)
  go_ret
  exact ⟨v, rfl, hO, hb⟩
theorem and_low31 (n : Int) : bits .and .i64 n 2147483647 = n % 2147483648 := by
  have h1 : (BitVec.ofInt 64 2147483647).toNat = 2 ^ 31 - 1 := by decide
  have key : (BitVec.ofInt 64 n &&& BitVec.ofInt 64 2147483647).toNat = (n % ((2 ^ 64 : Nat) : Int)).toNat % 2 ^ 31 := by
    rw [BitVec.toNat_and, BitVec.toNat_ofInt, h1, Nat.and_two_pow_sub_one_eq_mod]
  show IntKind.i64.wrap ((BitVec.ofInt 64 n &&& BitVec.ofInt 64 2147483647).toNat : Nat) = n % 2147483648
  rw [key, IntKind.wrap_i64]
  omega
theorem seedOf_any (k : Int) (c : Nat) (w : World) (hk : 0 ≤ k ∧ k < 2147483648) (hc : c ≤ 33554432) :
    Calls Try.prog 106 #[.int .i64 k, .int .i64 (c : Int)] w fun e w' => e = .returned (.int .i64 (seedG k c : Nat)) ∧ w = w' := by
  have H := hid (show bits .and .i64 (k + 48271 * (c : Int) + 12345) 2147483647 = (seedG k c : Nat) by rw [and_low31, seedG_eq])
  go_enter Try.func106, Try.ntmps106
  go_wp2
  go_ret
  exact ⟨by rw [H.out]; rfl, rfl⟩
theorem gcover_any (d : ByteArray) (k : Int) (c : Nat) (w : World) (hd : d.size ≤ 500) (hk : 0 ≤ k ∧ k < 2147483648) (hc : c ≤ 33554432) :
    Calls Try.prog 56 #[.string d, .int .i64 k, .int .i64 (c : Int)] w fun e w' => e = .returned (.string (hidG d (seedG k c))) ∧ Below w.heap.size w w' := by
  have cB := fun wz => bitsOf_any d wz (by omega)
  have cS := fun wz => seedOf_any k c wz hk hc
  have hs := seedG_lt k c
  have H := hid (show strOfNums (packL (addTo (unpackTo d (8 * d.size)) (noiseTo (seedG k c) (8 * d.size)) (8 * d.size))) = hidG d (seedG k c) from rfl)
  have hl : (unpackTo d (8 * d.size)).length = 8 * d.size := unpackTo_length _ _
  have hbt := unpack_bitsG d (8 * d.size)
  obtain ⟨R, eR⟩ : ∃ R, R = hidG d (seedG k c) := ⟨_, rfl⟩
  obtain ⟨S, eS⟩ : ∃ S, S = seedG k c := ⟨_, rfl⟩
  obtain ⟨L, eL⟩ : ∃ L, L = unpackTo d (8 * d.size) := ⟨_, rfl⟩
  obtain ⟨n, en⟩ : ∃ n, n = 8 * d.size := ⟨_, rfl⟩
  rw [← eL] at cB hl hbt H
  rw [← eS] at cS hs H
  rw [← eS] at eR
  rw [← eR] at H
  have hn : n ≤ 4000 := by omega
  rw [← en] at hl H
  rw [show hidG d (seedG k c) = R by rw [eR, eS]]
  clear eR eS eL en hd hk hc
  have cC := fun a cp wz hr => cover_ok L S a cp wz hr hbt (bits_okG hbt (by omega)) hs
  rw [hl] at cC
  have cP := fun a cp wz hr => pack_ok (addTo L (noiseTo S n) n) a cp wz hr (add_bitsG _ _ _) (by rw [addTo_length]; omega) (bits_okG (add_bitsG _ _ _) (by rw [addTo_length]; omega))
  rw [addTo_length, H.out] at cP
  go_enter Try.func56, Try.ntmps56
  go_wp2_with (first | (go_at_call 105; refine (cB _).mono ?_; rintro e w1 ⟨v1, rfl, hO1, hb1⟩; obtain ⟨a1, c1, rfl, -, -⟩ := hO1.shape; rw [hl]) | (go_at_call 106; refine (cS _).mono ?_; rintro e w2 ⟨rfl, rfl⟩))
  refine (cC a1 c1 _ hO1.rd).mono ?_
  rintro e w2 ⟨v2, rfl, hO2, hb2⟩
  obtain ⟨a2, c2, rfl, -, -⟩ := hO2.shape
  rw [addTo_length]
  go_wp2_with fail
  refine (cP a2 c2 _ hO2.rd).mono ?_
  rintro e w3 ⟨rfl, hb3⟩
  go_wp2
  go_ret
  exact ⟨rfl, bthen hb1 (bthen hb2 hb3)⟩
theorem conv_three (x y z : Int) (wz : World) : (convert 178 9 (.slice (some ⟨wz.heap.size, 0, none⟩) 3 3)).run Try.prog (wz.alloc (.cells #[.int .u8 x, .int .u8 y, .int .u8 z] 5)) = .ok (.string (strOfNums [x, y, z])) (wz.alloc (.cells #[.int .u8 x, .int .u8 y, .int .u8 z] 5)) := by
  refine conv_rd (L := [x, y, z]) ?_ 3
  intro _
  refine ⟨wz.heap.size, 0, rfl, fun j hj => ?_⟩
  have hj3 : j < 3 := hj
  rw [cell_of_row _ _ _ _ _ _ (heap_alloc_new wz _)]
  rcases (show j = 0 ∨ j = 1 ∨ j = 2 by omega) with rfl | rfl | rfl <;> rfl
set_option maxRecDepth 100000 in
theorem sealOf_any (d : ByteArray) (c : Nat) (w : World) (hd : d.size ≤ 500) :
    Calls Try.prog 57 #[.int .i64 (c : Int), .string d] w fun e w' => e = .returned (.string (sealG c d)) ∧ Below w.heap.size w w' := by
  have hsz : (headG c ++ d).size = 3 + d.size := by rw [ByteArray.size_append, headG_size]
  have cB := fun wz => bitsOf_any (headG c ++ d) wz (by omega)
  rw [hsz] at cB
  have H := hid (show strOfNums (packL (ksum (unpackTo (headG c ++ d) (8 * (3 + d.size))) 3)) = sealG c d from rfl)
  have hl : (unpackTo (headG c ++ d) (8 * (3 + d.size))).length = 8 * (3 + d.size) := unpackTo_length _ _
  have hh := headG_size c
  have hbt := unpack_bitsG (headG c ++ d) (8 * (3 + d.size))
  obtain ⟨R, eR⟩ : ∃ R, R = sealG c d := ⟨_, rfl⟩
  obtain ⟨L, eL⟩ : ∃ L, L = unpackTo (headG c ++ d) (8 * (3 + d.size)) := ⟨_, rfl⟩
  obtain ⟨n, en⟩ : ∃ n, n = 8 * (3 + d.size) := ⟨_, rfl⟩
  rw [← eL] at cB hl hbt H
  rw [← eR] at H ⊢
  have hn : n ≤ 4024 := by omega
  rw [← en] at hl
  clear eR eL en
  have cC := fun a cp wz hr => sum_ok L 3 a cp wz hr (bits_bytesG hbt) (by unfold errSum; rw [if_pos (bits_okG hbt (by omega)), if_pos isKind3G])
  rw [hl] at cC
  have cP := fun a cp wz hr => pack_ok (ksum L 3) a cp wz hr (ksum_bitsG _ _) (by rw [ksum3_len]; omega) (bits_okG (ksum_bitsG _ _) (by rw [ksum3_len]; omega))
  rw [ksum3_len, H.out] at cP
  go_enter Try.func57, Try.ntmps57
  have hcv := fun wz => conv_three ((c : Int) / 65536 % 256) ((c : Int) / 256 % 256) ((c : Int) % 256) wz
  rw [show strOfNums [(c : Int) / 65536 % 256, (c : Int) / 256 % 256, (c : Int) % 256] = headG c from rfl] at hcv
  go_wp2_with (go_at_call 105; refine (cB _).mono ?_; rintro e w1 ⟨v1, rfl, hO1, hb1⟩; obtain ⟨a1, c1, rfl, -, -⟩ := hO1.shape; rw [hl])
  refine (cC a1 c1 _ hO1.rd).mono ?_
  rintro e w2 ⟨v2, rfl, hO2, hb2⟩
  obtain ⟨a2, c2, rfl, -, -⟩ := hO2.shape
  rw [ksum3_len]
  go_wp2_with fail
  refine (cP a2 c2 _ hO2.rd).mono ?_
  rintro e w3 ⟨rfl, hb3⟩
  go_wp2
  go_ret
  exact ⟨rfl, bthen ((Below.refl _ _).alloc (Nat.le_refl _) _) (bthen hb1 (bthen hb2 hb3))⟩
theorem At.setCellG {w : World} {b : Nat} {T : TypeId} {cur : List Value} (h : At w b T cur) (o : Nat) (v : Value) : At (w.setCell ⟨b, o, none⟩ v) b T (cur.set o v) := by
  unfold At at h ⊢
  rw [heap_setCell_same w b o _ T v h]
  simp
theorem at_newG (w : World) (T : TypeId) (cur : List Value) : At (w.alloc (.cells cur.toArray T)) w.heap.size T cur := heap_alloc_new w (.cells cur.toArray T)
theorem packetOf_any (d : ByteArray) (k : Int) (c : Nat) (w : World) (hd : d.size ≤ 500) (hk : 0 ≤ k ∧ k < 2147483648) (hc : c ≤ 33554432) :
    Calls Try.prog 52 #[.string d, .int .i64 k, .int .i64 (c : Int)] w fun e w' => e = .returned (pktG k c d).val ∧ Below w.heap.size w w' := by
  have cC := fun wz => gcover_any d k c wz hd hk hc
  have cS := fun wz => sealOf_any d c wz hd
  have H := hid (show Value.agg #[.int .i64 ((c : Int) % 4096), .string (hidG d (seedG k c)), .string (sealG c d)] = (pktG k c d).val by unfold pktG PktM.val; simp)
  obtain ⟨V, eV⟩ : ∃ V, V = (pktG k c d).val := ⟨_, rfl⟩
  rw [← eV] at H ⊢
  obtain ⟨A, eA⟩ : ∃ A, A = hidG d (seedG k c) := ⟨_, rfl⟩
  obtain ⟨B, eB⟩ : ∃ B, B = sealG c d := ⟨_, rfl⟩
  rw [← eA, ← eB] at H
  rw [← eA] at cC
  rw [← eB] at cS
  clear eV eA eB
  have HA := hid (at_newG w 43 [.int .i64 0, .string { data := #[] }, .string { data := #[] }])
  go_enter Try.func52, Try.ntmps52
  go_wp2_with (first | (go_at_call 56; refine (cC _).mono ?_; rintro e w1 ⟨rfl, hb1⟩) | (go_at_call 57; refine (cS _).mono ?_; rintro e w2 ⟨rfl, hb2⟩; have t5 := (HA.out.kept (S := []) (Kept.of_below hb1) (by simp)).kept (S := []) (Kept.of_below hb2) (by simp); have y0 : w2.cell? ⟨w.heap.size, 0, none⟩ = some (.int .i64 0) := t5.cell 0; have y1 : w2.cell? ⟨w.heap.size, 1, none⟩ = some (.string { data := #[] }) := t5.cell 1; have y2 : w2.cell? ⟨w.heap.size, 2, none⟩ = some (.string { data := #[] }) := t5.cell 2; have z0 := t5.free 0; have z1 := t5.free 1; have z2 := t5.free 2))
  have hZ : At (((w2.setCell ⟨w.heap.size, 0, none⟩ (.int .i64 ((c : Int) % 4096))).setCell ⟨w.heap.size, 1, none⟩ (.string A)).setCell ⟨w.heap.size, 2, none⟩ (.string B)) w.heap.size 43 [.int .i64 ((c : Int) % 4096), .string A, .string B] := ((t5.setCellG 0 (.int .i64 ((c : Int) % 4096))).setCellG 1 (.string A)).setCellG 2 (.string B)
  have hB : Below w.heap.size w (((w2.setCell ⟨w.heap.size, 0, none⟩ (.int .i64 ((c : Int) % 4096))).setCell ⟨w.heap.size, 1, none⟩ (.string A)).setCell ⟨w.heap.size, 2, none⟩ (.string B)) := (((bthen ((Below.refl _ _).alloc (Nat.le_refl _) _) (bthen hb1 hb2)).setCell (Nat.le_refl _) _).setCell (Nat.le_refl _) _).setCell (Nat.le_refl _) _
  (try simp only [Exit.inBlock, Exit.then])
  refine bodyPost_ret (results_cell_row (p := 6) (ty := 43) (by kernel_rfl) _ _ w.heap.size 43 _ (0, 0) _ rfl hZ Try.underlying43 rfl (by kernel_rfl)) rfl ?_
  exact ⟨by rw [← H.out], hB⟩
def keyOk (k : Int) : Bool := decide (0 ≤ k) && decide (k ≤ 2147483647)
def keyErr (k : Int) : Int := if keyOk k then 0 else 1
theorem checkKey_any (k : Int) (w : World) : Calls Try.prog 50 #[.int .i64 k] w fun e w' => e = .returned (.int .i64 (keyErr k)) ∧ w = w' := by
  by_cases h1 : k < 0
  · have H := hid (show keyErr k = 1 by unfold keyErr keyOk; simp [show ¬ (0 ≤ k) by omega])
    go_enter Try.func50, Try.ntmps50
    go_wp2
    go_ret
    exact ⟨by rw [H.out]; rfl, rfl⟩
  · by_cases h2 : 2147483647 < k
    · have H := hid (show keyErr k = 1 by unfold keyErr keyOk; simp [show ¬ (k ≤ 2147483647) by omega])
      go_enter Try.func50, Try.ntmps50
      go_wp2
      go_ret
      exact ⟨by rw [H.out]; rfl, rfl⟩
    · have H := hid (show keyErr k = 0 by unfold keyErr keyOk; simp [show 0 ≤ k by omega, show k ≤ 2147483647 by omega])
      go_enter Try.func50, Try.ntmps50
      go_wp2
      go_ret
      exact ⟨by rw [H.out]; rfl, rfl⟩
end Go.Proofs.Ytcnkcbipkchoiag
