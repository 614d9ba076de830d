import Derived.Test.YtbmdjfolfmgmmagK04
import Derived.Test.YtbmdjfolfmgmmagK02
import Derived.Test.YtbmdjfolfmgmmagK01
import Derived.Test.YtbmdjfolfmgmmagK03
namespace Go.Proofs.Ytbmdjfolfmgmmag
open Go.ChangeShapes Go.WideShapes Go.ChangeAt Go.RowKit
theorem pow_le_2_24 {W : Nat} (h : W ≤ 24) : (2 : Nat) ^ W ≤ 16777216 := by
  have := Nat.pow_le_pow_right (n := 2) (by decide) h
  simpa using this
theorem fed_lt {W r x : Nat} (hW : W ≤ 24) (hr : r < 16777216) (hx : x ≤ 1) : fed W r x < 4294967296 := by
  have h1 : r * 2 < 2 ^ 32 := by omega
  have h2 : x * 2 ^ W < 2 ^ 32 := by
    have := pow_le_2_24 hW
    have : x * 2 ^ W ≤ 1 * 2 ^ W := Nat.mul_le_mul_right _ hx
    omega
  exact Nat.xor_lt_two_pow h1 h2
theorem fed_int {W r x : Nat} {q y : Int} (hW : W ≤ 24) (hr : r < 16777216) (hx : x ≤ 1) (hq : q = r) (hy : y = x) : bits .xor .u32 (q * 2) (y * 2 ^ W % 4294967296) = ((fed W r x : Nat) : Int) := by
  have h2 : x * 2 ^ W < 4294967296 := by
    have := pow_le_2_24 hW
    have : x * 2 ^ W ≤ 1 * 2 ^ W := Nat.mul_le_mul_right _ hx
    omega
  have e1 : q * 2 = ((r * 2 : Nat) : Int) := by rw [hq]; omega
  have e2 : y * 2 ^ W % 4294967296 = ((x * 2 ^ W : Nat) : Int) := by
    have : y * 2 ^ W = ((x * 2 ^ W : Nat) : Int) := by rw [hy]; simp
    rw [this]
    omega
  rw [e1, e2, u32_xor_nat _ _ (by omega) h2]
  rfl
theorem top_int (F W : Nat) (hF : F < 4294967296) : (bits .and .u32 ((F : Int) / 2 ^ W) 1 == 1) = decide (F / 2 ^ W % 2 = 1) := by
  have e : ((F : Int) / 2 ^ W) = ((F / 2 ^ W : Nat) : Int) := by simp
  have hl : F / 2 ^ W < 4294967296 := Nat.lt_of_le_of_lt (Nat.div_le_self _ _) hF
  rw [e, show (1 : Int) = ((1 : Nat) : Int) from rfl, u32_and_nat _ _ hl (by decide), Nat.and_one_is_mod]
  rw [Bool.eq_iff_iff]
  simp
  omega
theorem div_int {W R F : Nat} (hW : W ≤ 24) (hR : R < 16777216) (hF : F < 4294967296) : bits .xor .u32 (F : Int) (bits .or .u32 (2 ^ W % 4294967296) R) = ((F ^^^ (2 ^ W ||| R) : Nat) : Int) := by
  have hp := pow_le_2_24 hW
  have e : (2 : Int) ^ W % 4294967296 = ((2 ^ W : Nat) : Int) := by
    have : (2 : Int) ^ W = ((2 ^ W : Nat) : Int) := by simp
    rw [this]
    exact Int.emod_eq_of_lt (Int.natCast_nonneg _) (by omega)
  have hor : 2 ^ W ||| R < 2 ^ 32 := Nat.or_lt_two_pow (by omega) (by omega)
  rw [e, u32_or_nat _ _ (by omega) (by omega), u32_xor_nat _ _ hF (by omega)]
theorem sbit_int (r e : Nat) (hr : r < 16777216) : bits .and .u32 ((r : Int) / 2 ^ e) 1 = b2i (r.testBit e) := by
  have e1 : ((r : Int) / 2 ^ e) = ((r / 2 ^ e : Nat) : Int) := by simp
  have hl : r / 2 ^ e < 4294967296 := Nat.lt_of_le_of_lt (Nat.div_le_self _ _) (by omega)
  rw [e1, show (1 : Int) = ((1 : Nat) : Int) from rfl, u32_and_nat _ _ hl (by decide), Nat.and_one_is_mod, Nat.testBit_eq_decide_div_mod_eq]
  have : r / 2 ^ e % 2 = 0 ∨ r / 2 ^ e % 2 = 1 := by omega
  rcases this with h | h <;> simp [h, b2i]
theorem sum_set (W R : Nat) (zs : List Int) (k : Nat) (q : Int) (hk : k < W) (hq : q = (crc W (2 ^ W ||| R) zs : Nat)) (hq1 : q < 16777216) :
    (sumTo W (2 ^ W ||| R) zs k ++ List.replicate (W - k) 0).set k (bits .and .u32 (q / 2 ^ (W - 1 - k)) 1 % 256) = sumTo W (2 ^ W ||| R) zs (k + 1) ++ List.replicate (W - (k + 1)) 0 := by
  have hb := b2i_bd ((crc W (2 ^ W ||| R) zs).testBit (W - 1 - k))
  rw [show W - k = (W - (k + 1)) + 1 from by omega, set_fill _ _ _ _ (sumTo_length _ _ _ k), sumTo_succ, hq, sbit_int _ _ (by omega)]
  rw [show b2i ((crc W (2 ^ W ||| R) zs).testBit (W - 1 - k)) % 256 = b2i ((crc W (2 ^ W ||| R) zs).testBit (W - 1 - k)) from by omega]
set_option maxHeartbeats 2000000 in
theorem sum_any (W : Nat) (R : Nat) (zs : List Int) (a : Option Addr) (c : Nat) (w : World) (ha : Rd .u8 w a zs) (hb : Bits zs) (hz : zs.length ≤ 4096) (hD : Div W (2 ^ W ||| R)) (hW1 : 1 ≤ W) (hW : W ≤ 24) (hR : R < 16777216) :
    Calls Try.prog 53 #[.agg #[.int .i64 W, .int .u32 R], .slice a zs.length c] w fun e w' => ∃ v, e = .returned v ∧ Own w' w.heap.size v (sumL W (2 ^ W ||| R) zs) ∧ Below w.heap.size w w' := by
  have hp := pow_le_2_24 hW
  have HP : Hid (2 ^ W ≤ 16777216) := hp
  clear hp
  go_enter Try.func53, Try.ntmps53
  go_wp2
  go_loopw [5, 12] (fun l i wr => ∃ k : Nat, ∃ q : Int, k ≤ zs.length ∧ i = .int .i64 k ∧ 0 ≤ q ∧ q < 16777216 ∧ l = .int .u32 q ∧ Hid (q = (crc W (2 ^ W ||| R) (zs.take k) : Nat)) ∧ wr.cell? ⟨w.heap.size, 0, none⟩ = some (.int .i64 W) ∧ wr.cell? ⟨w.heap.size, 1, none⟩ = some (.int .u32 R) ∧ w.heap.size < wr.heap.size ∧ Below w.heap.size w wr) (fun _ i _ => zs.length - (intOf i).toNat)
  case atStart => exact ⟨0, 0, Nat.zero_le _, rfl, by omega, by omega, rfl, by unfold Hid; simp [crc], by simp, by simp, by simp, (Below.refl _ _).alloc (Nat.le_refl _) _⟩
  case round =>
    obtain ⟨k, q, hk, rfl, hq0, hq1, rfl, HQ, hcW, hcR, hsz, hbel⟩ := hrel
    by_cases hlt : k < zs.length
    · obtain ⟨b1, o1, rfl, hc1⟩ := (ha.below hbel).at hlt
      have g1 := hc1 k hlt
      have hx := hb k
      clear hc1
      obtain ⟨x, hx'⟩ : ∃ x, x = zs.getD k 0 := ⟨_, rfl⟩
      rw [← hx'] at g1 hx
      obtain ⟨r, hr⟩ : ∃ r, r = crc W (2 ^ W ||| R) (zs.take k) := ⟨_, rfl⟩
      have hqr : q = (r : Int) := by rw [hr]; exact HQ.out
      have hr1 : r < 16777216 := by omega
      have hfi := fed_int (W := W) (r := r) (x := x.toNat) (q := q) (y := x) hW hr1 (by omega) hqr (by omega)
      have hfl := fed_lt (W := W) (r := r) (x := x.toNat) hW hr1 (by omega)
      have hti := top_int _ W hfl
      have hdi := div_int (W := W) (R := R) hW hR hfl
      have hst : crc W (2 ^ W ||| R) (zs.take (k + 1)) = step W (2 ^ W ||| R) r x.toNat := by rw [crc_take _ _ zs k hlt, ← hr, hx']
      have hlt2 : step W (2 ^ W ||| R) r x.toNat < 2 ^ W := hst ▸ crc_lt hD hb (k + 1)
      rw [← hfi] at hti hdi
      unfold step at hst hlt2
      by_cases hT : fed W r x.toNat / 2 ^ W % 2 = 1
      · rw [if_pos hT] at hst hlt2
        rw [decide_eq_true hT] at hti
        have HF : Hid (crc W (2 ^ W ||| R) (zs.take (k + 1)) < 16777216 ∧ bits .xor .u32 (bits .xor .u32 (q * 2) (x * 2 ^ W % 4294967296)) (bits .or .u32 (2 ^ W % 4294967296) R) = (crc W (2 ^ W ||| R) (zs.take (k + 1)) : Nat)) := ⟨by rw [hst]; have := HP.out; omega, by rw [hdi, hst]⟩
        clear hdi hst hlt2 hT hfl hfi hqr hx' hr HQ hr1
        go_wp2
        go_quiet (fail)
        go_wp2
        go_roundw
        case rel => exact ⟨k + 1, _, by omega, by go_num, Int.natCast_nonneg _, by have := HF.out.1; omega, val_int HF.out.2, rfl, hcW, hcR, hsz, below_drewN hbel _⟩
        case measure => simp [intOf]; omega
      · rw [if_neg hT] at hst hlt2
        rw [decide_eq_false hT] at hti
        have HF : Hid (crc W (2 ^ W ||| R) (zs.take (k + 1)) < 16777216 ∧ bits .xor .u32 (q * 2) (x * 2 ^ W % 4294967296) = (crc W (2 ^ W ||| R) (zs.take (k + 1)) : Nat)) := ⟨by rw [hst]; have := HP.out; omega, by rw [hfi, hst]⟩
        clear hdi hst hlt2 hT hfl hfi hqr hx' hr HQ hr1
        go_wp2
        go_roundw
        case rel => exact ⟨k + 1, _, by omega, by go_num, Int.natCast_nonneg _, by have := HF.out.1; omega, val_int HF.out.2, rfl, hcW, hcR, hsz, hbel⟩
        case measure => simp [intOf]; omega
    · obtain rfl : k = zs.length := by omega
      rw [List.take_length] at HQ
      obtain ⟨wo, rfl⟩ : ∃ wo : World, wo = wr := ⟨_, rfl⟩
      go_wp2_with (at_make; refine wpList_makeBytes wo.heap.size wo W rfl _ _ rfl _ _ rfl rfl rfl rfl (by omega) (Below.refl _ _) (Nat.le_refl _) ?_)
      intro w1 hown1 hbel1 hsz1
      go_wp2
      go_loopw [44] (fun i wr => ∃ k : Nat, k ≤ W ∧ i = .int .i64 k ∧ Own wr wo.heap.size (.slice (some ⟨wo.heap.size, 0, none⟩) W W) (sumTo W (2 ^ W ||| R) zs k ++ List.replicate (W - k) 0) ∧ Below wo.heap.size wo wr) (fun i _ => W - (intOf i).toNat)
      case atStart => exact ⟨0, Nat.zero_le _, rfl, hown1, hbel1⟩
      case round =>
        clear hown1 hbel1
        obtain ⟨k, hk, rfl, hown, hbel2⟩ := hrel
        have hcW2 := (hbel2.cell (p := ⟨w.heap.size, 0, none⟩) hsz).trans hcW
        by_cases hltk : k < W
        · have hll : (sumTo W (2 ^ W ||| R) zs k ++ List.replicate (W - k) 0).length = W := hown.len
          have hc := hown.cell (i := k) (by omega)
          have hf := hown.free k
          clear hll hcW hcR
          go_wp2
          go_roundw
          case rel => exact ⟨k + 1, by omega, by go_num, sum_set W R zs k q hltk HQ.out hq1 ▸ hown.set k _, hbel2.setCell (Nat.le_refl _) _⟩
          case measure => simp [intOf]; omega
        · go_wp2
          go_ret
          obtain rfl : k = W := by omega
          rw [Nat.sub_self, List.replicate_zero, List.append_nil] at hown
          exact ⟨_, rfl, hown.mono hbel.size, bthen hbel hbel2⟩
end Go.Proofs.Ytbmdjfolfmgmmag
namespace Go.Proofs.Ytbmdjfolfmgmmag
open Go.ChangeShapes Go.WideShapes Go.ChangeAt Go.RowKit
/-- The width and the divisor (without its highest place) of a kind. -/
def kW (k : Int) : Nat := if k = 0 then 6 else if k = 1 then 11 else if k = 2 then 16 else if k = 3 then 24 else 0
def kR (k : Int) : Nat := if k = 0 then 33 else if k = 1 then 1569 else if k = 2 then 4129 else if k = 3 then 8801531 else 0
def kP (k : Int) : Nat := 2 ^ kW k ||| kR k
def isKind (k : Int) : Bool := decide (0 ≤ k ∧ k ≤ 3)
/-- The places of the divisor, the width first. -/
def kD (k : Int) : List Int := if k = 0 then [6, 5, 0] else if k = 1 then [11, 10, 9, 5, 0] else if k = 2 then [16, 12, 5, 0] else if k = 3 then [24, 23, 18, 17, 14, 11, 10, 7, 6, 5, 4, 3, 1, 0] else []
theorem kind_cases {k : Int} (h : isKind k = true) : k = 0 ∨ k = 1 ∨ k = 2 ∨ k = 3 := by
  simp [isKind] at h; omega
theorem kind_div {k : Int} (h : isKind k = true) : Div (kW k) (kP k) ∧ 1 ≤ kW k ∧ kW k ≤ 24 ∧ kR k < 16777216 := by
  rcases kind_cases h with rfl | rfl | rfl | rfl
  · exact ⟨⟨by decide, by decide, by decide, by decide⟩, by decide, by decide, by decide⟩
  · exact ⟨⟨by decide, by decide, by decide, by decide⟩, by decide, by decide, by decide⟩
  · exact ⟨⟨by decide, by decide, by decide, by decide⟩, by decide, by decide, by decide⟩
  · exact ⟨⟨by decide, by decide, by decide, by decide⟩, by decide, by decide, by decide⟩
set_option maxHeartbeats 1000000 in
theorem divisor_yes (k : Int) (w : World) (h : isKind k = true) :
    Calls Try.prog 60 #[.int .i64 k] w fun e w' => e = .returned (.tuple #[.agg #[.int .i64 (kW k), .int .u32 (kR k)], .int .i64 0]) ∧ Below w.heap.size w w' := by
  rcases kind_cases h with rfl | rfl | rfl | rfl
  all_goals
    clear h
    go_enter Try.func60, Try.ntmps60
    go_wp2
  · exact bodyPost_ret (v := .tuple #[.agg #[.int .i64 6, .int .u32 33], .int .i64 0]) (by simp [results, Try.results60, go_sem]) rfl ⟨rfl, (Below.refl _ _).alloc (Nat.le_refl _) _⟩
  · exact bodyPost_ret (v := .tuple #[.agg #[.int .i64 11, .int .u32 1569], .int .i64 0]) (by simp [results, Try.results60, go_sem]) rfl ⟨rfl, (Below.refl _ _).alloc (Nat.le_refl _) _⟩
  · exact bodyPost_ret (v := .tuple #[.agg #[.int .i64 16, .int .u32 4129], .int .i64 0]) (by simp [results, Try.results60, go_sem]) rfl ⟨rfl, (Below.refl _ _).alloc (Nat.le_refl _) _⟩
  · exact bodyPost_ret (v := .tuple #[.agg #[.int .i64 24, .int .u32 8801531], .int .i64 0]) (by simp [results, Try.results60, go_sem]) rfl ⟨rfl, (Below.refl _ _).alloc (Nat.le_refl _) _⟩
/-- The box of a divisor, behind a call. -/
theorem box2 {w w1 : World} {x y : Value} {T : TypeId} (hb : Below (w.alloc (.cells #[x, y] T)).heap.size (w.alloc (.cells #[x, y] T)) w1) :
    w1.cell? ⟨w.heap.size, 0, none⟩ = some x ∧ w1.cell? ⟨w.heap.size, 1, none⟩ = some y ∧ w1.frozen? ⟨w.heap.size, 0, none⟩ = false ∧ w1.frozen? ⟨w.heap.size, 1, none⟩ = false ∧ w.heap.size < w1.heap.size := by
  have hlt : w.heap.size < (w.alloc (.cells #[x, y] T)).heap.size := by simp
  refine ⟨(hb.cell (p := ⟨w.heap.size, 0, none⟩) hlt).trans ?_, (hb.cell (p := ⟨w.heap.size, 1, none⟩) hlt).trans ?_, (hb.frozen (p := ⟨w.heap.size, 0, none⟩) hlt).trans ?_, (hb.frozen (p := ⟨w.heap.size, 1, none⟩) hlt).trans ?_, Nat.lt_of_lt_of_le hlt hb.size⟩
  · rw [cell_of_row _ _ _ _ _ _ (heap_alloc_new w _)]; rfl
  · rw [cell_of_row _ _ _ _ _ _ (heap_alloc_new w _)]; rfl
  · exact frozen_of_row _ _ _ _ _ (heap_alloc_new w _)
  · exact frozen_of_row _ _ _ _ _ (heap_alloc_new w _)
/-- What is wrong with bits and a kind. -/
def errSum (zs : List Int) (k : Int) : Int := if errOf zs = 0 then (if isKind k then 0 else 1) else errOf zs
set_option maxHeartbeats 1000000 in
theorem checksum_ok (zs : List Int) (k : Int) (a : Option Addr) (c : Nat) (w : World) (ha : Rd .u8 w a zs) (hz : zs.length ≤ maxLen) (he : errOf zs = 0) (h : isKind k = true) :
    Calls Try.prog 52 #[.slice a zs.length c, .int .i64 k] w fun e w' => e = .returned (.tuple #[.agg #[.int .i64 (kW k), .int .u32 (kR k)], .int .i64 0]) ∧ Below w.heap.size w w' := by
  have HE : Hid (errOf zs = 0) := he
  clear he
  go_enter Try.func52, Try.ntmps52
  go_wp2_with fail
  refine (check_any zs a c _ (ha.below ((Below.refl _ _).alloc (Nat.le_refl _) _)) hz).mono ?_
  rintro e w1 ⟨rfl, rfl⟩
  rw [HE.out]
  go_wp2_with fail
  refine (divisor_yes k _ h).mono ?_
  rintro e w1 ⟨rfl, hb⟩
  obtain ⟨q0, q1, q2, q3, q4⟩ := box2 hb
  have hbw : Below w.heap.size w w1 := bthen ((Below.refl _ _).alloc (Nat.le_refl _) _) hb
  clear hb
  go_wp2
  exact bodyPost_ret (v := .tuple #[.agg #[.int .i64 (kW k), .int .u32 (kR k)], .int .i64 0]) (by simp [results, Try.results52, go_sem, q0, q1]) rfl ⟨rfl, (hbw.setCell (Nat.le_refl _) _).setCell (Nat.le_refl _) _⟩
theorem errSum_ok {zs : List Int} {k : Int} (h : errSum zs k = 0) : errOf zs = 0 ∧ isKind k = true := by
  unfold errSum at h
  split at h
  · rename_i he
    refine ⟨he, ?_⟩
    split at h
    · assumption
    · simp at h
  · contradiction
end Go.Proofs.Ytbmdjfolfmgmmag
namespace Go.Proofs.Ytbmdjfolfmgmmag
open Go.ChangeShapes Go.WideShapes Go.ChangeAt Go.RowKit
set_option maxHeartbeats 1000000 in
theorem rdivisor_yes (k : Int) (w : World) (h : isKind k = true) :
    Calls Try.prog 55 #[.int .i64 k] w fun e w' => e = .returned (.slice (some ⟨w.heap.size, 0, none⟩) (kD k).length (kD k).length) ∧ w'.heap[w.heap.size]? = some (.cells ((kD k).map (Value.int .i64)).toArray 3 (0, 0)) ∧ Below w.heap.size w w' := by
  rcases kind_cases h with rfl | rfl | rfl | rfl
  all_goals
    clear h
    go_enter Try.func55, Try.ntmps55
    go_wp2
    go_ret
    exact ⟨rfl, heap_alloc_new w _, (Below.refl _ _).alloc (Nat.le_refl _) _⟩
end Go.Proofs.Ytbmdjfolfmgmmag
namespace Go.Proofs.Ytbmdjfolfmgmmag
open Go.ChangeShapes Go.WideShapes Go.ChangeAt Go.RowKit
/-- The sum of bits, of a kind. -/
def ksum (zs : List Int) (k : Int) : List Int := sumL (kW k) (kP k) zs
set_option maxHeartbeats 1000000 in
theorem sum_ok (zs : List Int) (k : Int) (a : Option Addr) (c : Nat) (w : World) (ha : Rd .u8 w a zs) (hy : Bytes zs) (h : errSum zs k = 0) :
    Calls Try.prog 40 #[.slice a zs.length c, .int .i64 k] w fun e w' => ∃ v, e = .returned (.tuple #[v, .int .i64 0]) ∧ Own w' w.heap.size v (ksum zs k) ∧ Below w.heap.size w w' := by
  obtain ⟨he, hk⟩ := errSum_ok h
  obtain ⟨hD, hW1, hW, hR⟩ := kind_div hk
  have hb : Bits zs := fun j => ⟨(hy.at j).1, (err_zero he).1 j⟩
  have hz := (err_zero he).2
  have HE : Hid (errOf zs = 0) := he
  have HK : Hid (isKind k = true) := hk
  clear h hy he hk
  unfold ksum kP
  unfold kP at hD
  go_enter Try.func40, Try.ntmps40
  go_wp2_with fail
  refine (checksum_ok zs k a c _ ha (by unfold maxLen; omega) HE.out HK.out).mono ?_
  rintro e w1 ⟨rfl, hb1⟩
  have ha1 := ha.below hb1
  go_wp2_with fail
  refine (sum_any (kW k) (kR k) zs a c _ (ha1.below ((Below.refl _ _).alloc (Nat.le_refl _) _)) hb hz hD hW1 hW hR).mono ?_
  rintro e w2 ⟨v, rfl, hown, hb2⟩
  have hb3 := bthen hb1 (bthen ((Below.refl _ _).alloc (Nat.le_refl _) _) hb2)
  go_wp2
  go_ret2
  refine ⟨v, rfl, hown.mono ?_, hb3⟩
  have := hb1.size
  simp
  omega
end Go.Proofs.Ytbmdjfolfmgmmag
namespace Go.Proofs.Ytbmdjfolfmgmmag
open Go.ChangeShapes Go.WideShapes Go.ChangeAt Go.RowKit
theorem kind_places {k : Int} (h : isKind k = true) : Places' (kW k) (kP k) (kD k) ∧ (kD k).getD 0 0 = (kW k : Int) ∧ 0 < (kD k).length ∧ (kD k).length ≤ 14 := by
  rcases kind_cases h with rfl | rfl | rfl | rfl
  all_goals refine ⟨⟨by decide, by decide, ?_⟩, by decide, by decide, by decide⟩
  all_goals (intro p hp; revert p; decide)
theorem getD_mem {L : List Int} {m : Nat} (h : m < L.length) : L.getD m 0 ∈ L := by
  have : L.getD m 0 = L[m] := by simp [List.getD, h]
  rw [this]; exact List.getElem_mem h
theorem ret_slice {a : Option Addr} {n m c : Nat} (h : n = m) : Ending.returned (.slice a n c) = .returned (.slice a m c) := by rw [h]
theorem xor_one (b : Bool) : bits .xor .u8 (b2i b) 1 = 1 - b2i b := by cases b <;> decide
set_option maxHeartbeats 2000000 in
theorem rsum_any (zs : List Int) (k : Int) (a : Option Addr) (c : Nat) (w : World) (ha : Rd .u8 w a zs) (hb : Bits zs) (hz : zs.length ≤ 4096) (hk : isKind k = true) :
    Calls Try.prog 45 #[.slice a zs.length c, .int .i64 k] w fun e w' => ∃ b off cp, e = .returned (.slice (some ⟨b, off, none⟩) (kW k) cp) ∧ Rd .u8 w' (some ⟨b, off, none⟩) (ksum zs k) ∧ Below w.heap.size w w' := by
  obtain ⟨hD, hW1, hW, hR⟩ := kind_div hk
  obtain ⟨hP, hD0, hDl, hDu⟩ := kind_places hk
  have HK : Hid (isKind k = true) := hk
  clear hk hR
  go_enter Try.func45, Try.ntmps45
  go_wp2_with fail
  refine (rdivisor_yes k _ HK.out).mono ?_
  rintro e w1 ⟨rfl, hg1, hb1⟩
  have hrd1 : Rd .i64 w1 (some ⟨w.heap.size, 0, none⟩) (kD k) := rd_block hg1
  have hsz1 : w.heap.size < w1.heap.size := lt_of_block hg1
  obtain ⟨b0, o0, he0, hcD⟩ := hrd1.at hDl
  simp only [Option.some.injEq, Addr.mk.injEq, and_true] at he0
  obtain ⟨rfl, rfl⟩ := he0
  have hc0 := hcD 0 hDl
  rw [hD0] at hc0
  have ha1 := ha.below hb1
  have HD0 := hid hD0
  clear hg1 hD0 hrd1
  go_wp2_with (first | (at_builtin; refine wpList_cat w1.heap.size w1 (Own.nil w1 w1.heap.size) ha1 rfl (.const (.slice none 0 0)) (.tmp 15) rfl rfl c rfl (by simp; omega) (Below.refl _ _) (Nat.le_refl _) ?_))
  intro v2 w2 hown2 hbel2
  go_wp2_with (first | (at_builtin; refine wpList_zeros w1.heap.size w1 (kW k) hown2 rfl (.tmp 16) (.tmp 17) rfl rfl rfl (by omega) (by omega) hbel2 hbel2.size ?_))
  intro v3 w3 hown3 hbel3
  clear hown2 hbel2
  rw [← lrow_zero (P := kP k) hb] at hown3
  have hl3 := lrow_length (kW k) (kP k) zs 0
  obtain ⟨a3, c3, rfl, hne3, hlc3, hcm3⟩ := hown3.shape
  obtain ⟨g, rfl⟩ := hne3 (by intro e; rw [e] at hl3; simp at hl3; omega)
  obtain ⟨N, hN⟩ : ∃ N, N = (lrow (kW k) (kP k) zs 0).length := ⟨_, rfl⟩
  rw [← hN] at hown3 hlc3 ⊢
  have hNW : N = zs.length + kW k := by omega
  have HN := hid hNW
  have hN1 : zs.length + kW k ≤ N := by omega
  have hN2 : N ≤ zs.length + kW k := by omega
  clear hN hl3 hNW hne3
  unfold maxLen at hcm3
  go_wp2
  go_loopw [8] (fun i wr => ∃ q : Nat, q ≤ zs.length ∧ i = .int .i64 q ∧ Own wr w1.heap.size (.slice (some ⟨g, 0, none⟩) N c3) (lrow (kW k) (kP k) zs q) ∧ Below w1.heap.size w1 wr) (fun i _ => zs.length - (intOf i).toNat)
  case atStart => exact ⟨0, Nat.zero_le _, rfl, hown3, hbel3⟩
  case round =>
    clear hown3 hbel3
    obtain ⟨q, hq, rfl, hown, hbel⟩ := hrel
    by_cases hlt : q < zs.length
    · have hc := hown.cell (i := q) (by rw [hown.len]; omega)
      rw [lrow_getD _ _ _ _ _ (by omega)] at hc
      cases ht : cellB (kW k) (kP k) zs q q with
      | false =>
        rw [ht] at hc
        rw [lrow_same hD hb hlt ht] at hown
        have hb0 : b2i false = 0 := rfl
        rw [hb0] at hc
        clear hb0 ht
        go_wp2
        go_roundw
        case rel => exact ⟨q + 1, by omega, by go_num, hown, hbel⟩
        case measure => simp [intOf]; omega
      | true =>
        rw [ht] at hc
        have hb0 : b2i true = 1 := rfl
        rw [hb0] at hc
        have HT := hid ht
        rw [← mrow_zero (kW k) (kP k) (kD k) zs q] at hown
        clear hb0 ht
        obtain ⟨wo, rfl⟩ : ∃ wo : World, wo = wr := ⟨_, rfl⟩
        go_wp2
        go_loopw [9] (fun i wr => ∃ m : Nat, m ≤ (kD k).length ∧ i = .int .i64 m ∧ Own wr w1.heap.size (.slice (some ⟨g, 0, none⟩) N c3) (mrow (kW k) (kP k) (kD k) zs q m) ∧ Below w1.heap.size w1 wr) (fun i _ => (kD k).length - (intOf i).toNat)
        case atStart => exact ⟨0, Nat.zero_le _, rfl, hown, hbel⟩
        case round =>
          clear hown hbel hc
          obtain ⟨m, hm, rfl, hown, hbel⟩ := hrel
          by_cases hmlt : m < (kD k).length
          · have hcd := (hbel.cell (p := ⟨w.heap.size, 0 + m, none⟩) hsz1).trans (hcD m hmlt)
            rw [Nat.zero_add] at hcd
            obtain ⟨x, hx⟩ : ∃ x, x = (kD k).getD m 0 := ⟨_, rfl⟩
            have hxb : 0 ≤ x ∧ x ≤ (kW k : Int) := by rw [hx]; exact hP.bd _ (getD_mem hmlt)
            rw [← hx] at hcd
            have HX := hid hx
            clear hx
            have hj0 : 0 ≤ (q : Int) + (kW k : Int) - x := by omega
            have hj1 : (q : Int) + (kW k : Int) - x < (N : Int) := by omega
            have hcl := hown.cell (i := ((q : Int) + (kW k : Int) - x).toNat) (by rw [hown.len]; omega)
            have hfr := hown.free ((q : Int) + (kW k : Int) - x).toNat
            rw [mrow_getD _ _ _ _ _ _ _ (by omega)] at hcl
            obtain ⟨y, hy⟩ : ∃ y, y = (cellB (kW k) (kP k) zs q ((q : Int) + (kW k : Int) - x).toNat ^^ turned (kW k) (kD k) q m ((q : Int) + (kW k : Int) - x).toNat) := ⟨_, rfl⟩
            rw [← hy] at hcl
            have hyb := b2i_bd y
            have HY := hid hy
            clear hy
            go_wp2
            have hset := mrow_set hP zs q m ((q : Int) + (kW k : Int) - x).toNat hmlt (by rw [← HX.out]; omega) (bits .xor .u8 (b2i y) 1) (by rw [xor_one, HY.out, mrow_getD _ _ _ _ _ _ _ (by omega)]) (by omega)
            go_roundw
            case rel => exact ⟨m + 1, by omega, by go_num, hset ▸ hown.set _ _, hbel.setCell hown.block.1 _⟩
            case measure => simp [intOf]; omega
          · obtain rfl : m = (kD k).length := by omega
            rw [mrow_all hD hP hb hlt HT.out] at hown
            go_wp2
            go_roundw
            case rel => exact ⟨q + 1, by omega, by go_num, hown, hbel⟩
            case measure => simp [intOf]; omega
    · obtain rfl : q = zs.length := by omega
      have hcs : ∀ j, j < (lrow (kW k) (kP k) zs zs.length).length → wr.cell? ⟨g, 0 + j, none⟩ = some (.int .u8 ((lrow (kW k) (kP k) zs zs.length).getD j 0)) := fun j hj => by rw [Nat.zero_add]; exact hown.cell hj
      have hrd := Rd.drop hcs zs.length
      rw [lrow_end, Nat.zero_add] at hrd
      have hA : (zs.length : Int) < (c3 : Int) := by omega
      go_wp2
      go_ret
      exact ⟨g, zs.length, _, ret_slice (by have := HN.out; omega), hrd, bthen hb1 hbel⟩
end Go.Proofs.Ytbmdjfolfmgmmag
