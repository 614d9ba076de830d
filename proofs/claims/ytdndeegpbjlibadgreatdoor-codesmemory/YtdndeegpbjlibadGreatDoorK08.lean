import Derived.Test.YtdndeegpbjlibadGreatDoorK05
import Derived.Test.YtdndeegpbjlibadGreatDoorK07
import Derived.Test.YtdndeegpbjlibadGreatDoorK02
namespace Go.Proofs.YtdndeegpbjlibadGreatDoor
open Go.ChangeShapes Go.WideShapes Go.ChangeAt Go.RowKit

theorem pow_le_2_24 {W : Nat} (h : W ≤ 24) : (2 : Nat) ^ W ≤ 16777216 := by
  have := Nat.pow_le_pow_right (n := 2) (by decide) h
  simpa using this

theorem fed_lt {W r x : Nat} (hW : W ≤ 24) (hr : r < 16777216) (hx : x ≤ 1) : fed W r x < 4294967296 := by
  have h1 : r * 2 < 2 ^ 32 := by omega
  have h2 : x * 2 ^ W < 2 ^ 32 := by
    have := pow_le_2_24 hW
    have : x * 2 ^ W ≤ 1 * 2 ^ W := Nat.mul_le_mul_right _ hx
    omega
  exact Nat.xor_lt_two_pow h1 h2

theorem fed_int {W r x : Nat} {q y : Int} (hW : W ≤ 24) (hr : r < 16777216) (hx : x ≤ 1) (hq : q = r) (hy : y = x) : bits .xor .u32 (q * 2) (y * 2 ^ W % 4294967296) = ((fed W r x : Nat) : Int) := by
  have h2 : x * 2 ^ W < 4294967296 := by
    have := pow_le_2_24 hW
    have : x * 2 ^ W ≤ 1 * 2 ^ W := Nat.mul_le_mul_right _ hx
    omega
  have e1 : q * 2 = ((r * 2 : Nat) : Int) := by rw [hq]; omega
  have e2 : y * 2 ^ W % 4294967296 = ((x * 2 ^ W : Nat) : Int) := by
    have : y * 2 ^ W = ((x * 2 ^ W : Nat) : Int) := by rw [hy]; simp
    rw [this]
    omega
  rw [e1, e2, u32_xor_nat _ _ (by omega) h2]
  rfl

theorem top_int (F W : Nat) (hF : F < 4294967296) : (bits .and .u32 ((F : Int) / 2 ^ W) 1 == 1) = decide (F / 2 ^ W % 2 = 1) := by
  have e : ((F : Int) / 2 ^ W) = ((F / 2 ^ W : Nat) : Int) := by simp
  have hl : F / 2 ^ W < 4294967296 := Nat.lt_of_le_of_lt (Nat.div_le_self _ _) hF
  rw [e, show (1 : Int) = ((1 : Nat) : Int) from rfl, u32_and_nat _ _ hl (by decide), Nat.and_one_is_mod]
  rw [Bool.eq_iff_iff]
  simp
  omega

theorem div_int {W R F : Nat} (hW : W ≤ 24) (hR : R < 16777216) (hF : F < 4294967296) : bits .xor .u32 (F : Int) (bits .or .u32 (2 ^ W % 4294967296) R) = ((F ^^^ (2 ^ W ||| R) : Nat) : Int) := by
  have hp := pow_le_2_24 hW
  have e : (2 : Int) ^ W % 4294967296 = ((2 ^ W : Nat) : Int) := by
    have : (2 : Int) ^ W = ((2 ^ W : Nat) : Int) := by simp
    rw [this]
    exact Int.emod_eq_of_lt (Int.natCast_nonneg _) (by omega)
  have hor : 2 ^ W ||| R < 2 ^ 32 := Nat.or_lt_two_pow (by omega) (by omega)
  rw [e, u32_or_nat _ _ (by omega) (by omega), u32_xor_nat _ _ hF (by omega)]

theorem sbit_int (r e : Nat) (hr : r < 16777216) : bits .and .u32 ((r : Int) / 2 ^ e) 1 = b2i (r.testBit e) := by
  have e1 : ((r : Int) / 2 ^ e) = ((r / 2 ^ e : Nat) : Int) := by simp
  have hl : r / 2 ^ e < 4294967296 := Nat.lt_of_le_of_lt (Nat.div_le_self _ _) (by omega)
  rw [e1, show (1 : Int) = ((1 : Nat) : Int) from rfl, u32_and_nat _ _ hl (by decide), Nat.and_one_is_mod, Nat.testBit_eq_decide_div_mod_eq]
  have : r / 2 ^ e % 2 = 0 ∨ r / 2 ^ e % 2 = 1 := by omega
  rcases this with h | h <;> simp [h, b2i]

theorem sum_set (W R : Nat) (zs : List Int) (k : Nat) (q : Int) (hk : k < W) (hq : q = (crc W (2 ^ W ||| R) zs : Nat)) (hq1 : q < 16777216) :
    (sumTo W (2 ^ W ||| R) zs k ++ List.replicate (W - k) 0).set k (bits .and .u32 (q / 2 ^ (W - 1 - k)) 1 % 256) = sumTo W (2 ^ W ||| R) zs (k + 1) ++ List.replicate (W - (k + 1)) 0 := by
  have hb := b2i_bd ((crc W (2 ^ W ||| R) zs).testBit (W - 1 - k))
  rw [show W - k = (W - (k + 1)) + 1 from by omega, set_fill _ _ _ _ (sumTo_length _ _ _ k), sumTo_succ, hq, sbit_int _ _ (by omega)]
  rw [show b2i ((crc W (2 ^ W ||| R) zs).testBit (W - 1 - k)) % 256 = b2i ((crc W (2 ^ W ||| R) zs).testBit (W - 1 - k)) from by omega]

set_option maxHeartbeats 2000000 in
theorem sum_any (W : Nat) (R : Nat) (zs : List Int) (a : Option Addr) (c : Nat) (w : World) (ha : Rd .u8 w a zs) (hb : Bits zs) (hz : zs.length ≤ 4096) (hD : Div W (2 ^ W ||| R)) (hW1 : 1 ≤ W) (hW : W ≤ 24) (hR : R < 16777216) :
    Calls Tryz.prog 27 #[.agg #[.int .i64 W, .int .u32 R], .slice a zs.length c] w fun e w' => ∃ v, e = .returned v ∧ Own w' w.heap.size v (sumL W (2 ^ W ||| R) zs) ∧ Below w.heap.size w w' := by
  have hp := pow_le_2_24 hW
  have HP : Hid (2 ^ W ≤ 16777216) := hp
  clear hp
  go_enter Tryz.func27, Tryz.ntmps27
  go_wp2
  go_loopw [5, 12] (fun l i wr => ∃ k : Nat, ∃ q : Int, k ≤ zs.length ∧ i = .int .i64 k ∧ 0 ≤ q ∧ q < 16777216 ∧ l = .int .u32 q ∧ Hid (q = (crc W (2 ^ W ||| R) (zs.take k) : Nat)) ∧ wr.cell? ⟨w.heap.size, 0, none⟩ = some (.int .i64 W) ∧ wr.cell? ⟨w.heap.size, 1, none⟩ = some (.int .u32 R) ∧ w.heap.size < wr.heap.size ∧ Below w.heap.size w wr) (fun _ i _ => zs.length - (intOf i).toNat)
  case atStart => exact ⟨0, 0, Nat.zero_le _, rfl, by omega, by omega, rfl, by unfold Hid; simp [crc], by simp, by simp, by simp, (Below.refl _ _).alloc (Nat.le_refl _) _⟩
  case round =>
    obtain ⟨k, q, hk, rfl, hq0, hq1, rfl, HQ, hcW, hcR, hsz, hbel⟩ := hrel
    by_cases hlt : k < zs.length
    · obtain ⟨b1, o1, rfl, hc1⟩ := (ha.below hbel).at hlt
      have g1 := hc1 k hlt
      have hx := hb k
      clear hc1
      obtain ⟨x, hx'⟩ : ∃ x, x = zs.getD k 0 := ⟨_, rfl⟩
      rw [← hx'] at g1 hx
      obtain ⟨r, hr⟩ : ∃ r, r = crc W (2 ^ W ||| R) (zs.take k) := ⟨_, rfl⟩
      have hqr : q = (r : Int) := by rw [hr]; exact HQ.out
      have hr1 : r < 16777216 := by omega
      have hfi := fed_int (W := W) (r := r) (x := x.toNat) (q := q) (y := x) hW hr1 (by omega) hqr (by omega)
      have hfl := fed_lt (W := W) (r := r) (x := x.toNat) hW hr1 (by omega)
      have hti := top_int _ W hfl
      have hdi := div_int (W := W) (R := R) hW hR hfl
      have hst : crc W (2 ^ W ||| R) (zs.take (k + 1)) = step W (2 ^ W ||| R) r x.toNat := by rw [crc_take _ _ zs k hlt, ← hr, hx']
      have hlt2 : step W (2 ^ W ||| R) r x.toNat < 2 ^ W := hst ▸ crc_lt hD hb (k + 1)
      rw [← hfi] at hti hdi
      unfold step at hst hlt2
      by_cases hT : fed W r x.toNat / 2 ^ W % 2 = 1
      · rw [if_pos hT] at hst hlt2
        rw [decide_eq_true hT] at hti
        have HF : Hid (crc W (2 ^ W ||| R) (zs.take (k + 1)) < 16777216 ∧ bits .xor .u32 (bits .xor .u32 (q * 2) (x * 2 ^ W % 4294967296)) (bits .or .u32 (2 ^ W % 4294967296) R) = (crc W (2 ^ W ||| R) (zs.take (k + 1)) : Nat)) := ⟨by rw [hst]; have := HP.out; omega, by rw [hdi, hst]⟩
        clear hdi hst hlt2 hT hfl hfi hqr hx' hr HQ hr1
        go_wp2
        go_quiet (fail)
        go_wp2
        go_roundw
        case rel => exact ⟨k + 1, _, by omega, by go_num, Int.natCast_nonneg _, by have := HF.out.1; omega, val_int HF.out.2, rfl, hcW, hcR, hsz, below_drewN hbel _⟩
        case measure => simp [intOf]; omega
      · rw [if_neg hT] at hst hlt2
        rw [decide_eq_false hT] at hti
        have HF : Hid (crc W (2 ^ W ||| R) (zs.take (k + 1)) < 16777216 ∧ bits .xor .u32 (q * 2) (x * 2 ^ W % 4294967296) = (crc W (2 ^ W ||| R) (zs.take (k + 1)) : Nat)) := ⟨by rw [hst]; have := HP.out; omega, by rw [hfi, hst]⟩
        clear hdi hst hlt2 hT hfl hfi hqr hx' hr HQ hr1
        go_wp2
        go_roundw
        case rel => exact ⟨k + 1, _, by omega, by go_num, Int.natCast_nonneg _, by have := HF.out.1; omega, val_int HF.out.2, rfl, hcW, hcR, hsz, hbel⟩
        case measure => simp [intOf]; omega
    · obtain rfl : k = zs.length := by omega
      rw [List.take_length] at HQ
      obtain ⟨wo, rfl⟩ : ∃ wo : World, wo = wr := ⟨_, rfl⟩
      go_wp2_with (at_make; refine wpList_makeBytes wo.heap.size wo W rfl _ _ rfl _ _ rfl rfl rfl rfl (by omega) (Below.refl _ _) (Nat.le_refl _) ?_)
      intro w1 hown1 hbel1 hsz1
      go_wp2
      go_loopw [44] (fun i wr => ∃ k : Nat, k ≤ W ∧ i = .int .i64 k ∧ Own wr wo.heap.size (.slice (some ⟨wo.heap.size, 0, none⟩) W W) (sumTo W (2 ^ W ||| R) zs k ++ List.replicate (W - k) 0) ∧ Below wo.heap.size wo wr) (fun i _ => W - (intOf i).toNat)
      case atStart => exact ⟨0, Nat.zero_le _, rfl, hown1, hbel1⟩
      case round =>
        clear hown1 hbel1
        obtain ⟨k, hk, rfl, hown, hbel2⟩ := hrel
        have hcW2 := (hbel2.cell (p := ⟨w.heap.size, 0, none⟩) hsz).trans hcW
        by_cases hltk : k < W
        · have hll : (sumTo W (2 ^ W ||| R) zs k ++ List.replicate (W - k) 0).length = W := hown.len
          have hc := hown.cell (i := k) (by omega)
          have hf := hown.free k
          clear hll hcW hcR
          go_wp2
          go_roundw
          case rel => exact ⟨k + 1, by omega, by go_num, sum_set W R zs k q hltk HQ.out hq1 ▸ hown.set k _, hbel2.setCell (Nat.le_refl _) _⟩
          case measure => simp [intOf]; omega
        · go_wp2
          go_ret
          obtain rfl : k = W := by omega
          rw [Nat.sub_self, List.replicate_zero, List.append_nil] at hown
          exact ⟨_, rfl, hown.mono hbel.size, bthen hbel hbel2⟩
end Go.Proofs.YtdndeegpbjlibadGreatDoor

namespace Go.Proofs.YtdndeegpbjlibadGreatDoor
open Go.ChangeShapes Go.WideShapes Go.ChangeAt Go.RowKit

/-- The width and the divisor (without its highest place) of a kind. -/
def kW (k : Int) : Nat := if k = 0 then 6 else if k = 1 then 11 else if k = 2 then 16 else if k = 3 then 24 else 0
def kR (k : Int) : Nat := if k = 0 then 33 else if k = 1 then 1569 else if k = 2 then 4129 else if k = 3 then 8801531 else 0
def kP (k : Int) : Nat := 2 ^ kW k ||| kR k
def isKind (k : Int) : Bool := decide (0 ≤ k ∧ k ≤ 3)
/-- The places of the divisor, the width first. -/
def kD (k : Int) : List Int := if k = 0 then [6, 5, 0] else if k = 1 then [11, 10, 9, 5, 0] else if k = 2 then [16, 12, 5, 0] else if k = 3 then [24, 23, 18, 17, 14, 11, 10, 7, 6, 5, 4, 3, 1, 0] else []

theorem kind_cases {k : Int} (h : isKind k = true) : k = 0 ∨ k = 1 ∨ k = 2 ∨ k = 3 := by
  simp [isKind] at h; omega

theorem kind_div {k : Int} (h : isKind k = true) : Div (kW k) (kP k) ∧ 1 ≤ kW k ∧ kW k ≤ 24 ∧ kR k < 16777216 := by
  rcases kind_cases h with rfl | rfl | rfl | rfl
  · exact ⟨⟨by decide, by decide, by decide, by decide⟩, by decide, by decide, by decide⟩
  · exact ⟨⟨by decide, by decide, by decide, by decide⟩, by decide, by decide, by decide⟩
  · exact ⟨⟨by decide, by decide, by decide, by decide⟩, by decide, by decide, by decide⟩
  · exact ⟨⟨by decide, by decide, by decide, by decide⟩, by decide, by decide, by decide⟩

set_option maxHeartbeats 1000000 in
theorem divisor_yes (k : Int) (w : World) (h : isKind k = true) :
    Calls Tryz.prog 47 #[.int .i64 k] w fun e w' => e = .returned (.tuple #[.agg #[.int .i64 (kW k), .int .u32 (kR k)], .int .i64 0]) ∧ Below w.heap.size w w' := by
  rcases kind_cases h with rfl | rfl | rfl | rfl
  all_goals
    clear h
    go_enter Tryz.func47, Tryz.ntmps47
    go_wp2
  · exact bodyPost_ret (v := .tuple #[.agg #[.int .i64 6, .int .u32 33], .int .i64 0]) (by simp [results, Tryz.results47, go_sem]) rfl ⟨rfl, (Below.refl _ _).alloc (Nat.le_refl _) _⟩
  · exact bodyPost_ret (v := .tuple #[.agg #[.int .i64 11, .int .u32 1569], .int .i64 0]) (by simp [results, Tryz.results47, go_sem]) rfl ⟨rfl, (Below.refl _ _).alloc (Nat.le_refl _) _⟩
  · exact bodyPost_ret (v := .tuple #[.agg #[.int .i64 16, .int .u32 4129], .int .i64 0]) (by simp [results, Tryz.results47, go_sem]) rfl ⟨rfl, (Below.refl _ _).alloc (Nat.le_refl _) _⟩
  · exact bodyPost_ret (v := .tuple #[.agg #[.int .i64 24, .int .u32 8801531], .int .i64 0]) (by simp [results, Tryz.results47, go_sem]) rfl ⟨rfl, (Below.refl _ _).alloc (Nat.le_refl _) _⟩

set_option maxHeartbeats 1000000 in
theorem divisor_no (k : Int) (w : World) (h : isKind k = false) :
    Calls Tryz.prog 47 #[.int .i64 k] w fun e w' => e = .returned (.tuple #[.agg #[.int .i64 0, .int .u32 0], .int .i64 1]) ∧ Below w.heap.size w w' := by
  have h' : ¬ (0 ≤ k ∧ k ≤ 3) := by simpa [isKind] using h
  have h0 : (k == 0) = false := by simp; omega
  have h1 : (k == 1) = false := by simp; omega
  have h2 : (k == 2) = false := by simp; omega
  have h3 : (k == 3) = false := by simp; omega
  clear h h'
  go_enter Tryz.func47, Tryz.ntmps47
  go_wp2
  exact bodyPost_ret (v := .tuple #[.agg #[.int .i64 0, .int .u32 0], .int .i64 1]) (by simp [results, Tryz.results47, go_sem]) rfl ⟨rfl, (Below.refl _ _).alloc (Nat.le_refl _) _⟩

/-- The box of a divisor, behind a call. -/
theorem box2 {w w1 : World} {x y : Value} {T : TypeId} (hb : Below (w.alloc (.cells #[x, y] T)).heap.size (w.alloc (.cells #[x, y] T)) w1) :
    w1.cell? ⟨w.heap.size, 0, none⟩ = some x ∧ w1.cell? ⟨w.heap.size, 1, none⟩ = some y ∧ w1.frozen? ⟨w.heap.size, 0, none⟩ = false ∧ w1.frozen? ⟨w.heap.size, 1, none⟩ = false ∧ w.heap.size < w1.heap.size := by
  have hlt : w.heap.size < (w.alloc (.cells #[x, y] T)).heap.size := by simp
  refine ⟨(hb.cell (p := ⟨w.heap.size, 0, none⟩) hlt).trans ?_, (hb.cell (p := ⟨w.heap.size, 1, none⟩) hlt).trans ?_, (hb.frozen (p := ⟨w.heap.size, 0, none⟩) hlt).trans ?_, (hb.frozen (p := ⟨w.heap.size, 1, none⟩) hlt).trans ?_, Nat.lt_of_lt_of_le hlt hb.size⟩
  · rw [cell_of_row _ _ _ _ _ _ (heap_alloc_new w _)]; rfl
  · rw [cell_of_row _ _ _ _ _ _ (heap_alloc_new w _)]; rfl
  · exact frozen_of_row _ _ _ _ _ (heap_alloc_new w _)
  · exact frozen_of_row _ _ _ _ _ (heap_alloc_new w _)

/-- What is wrong with bits and a kind. -/
def errSum (zs : List Int) (k : Int) : Int := if errOf zs = 0 then (if isKind k then 0 else 1) else errOf zs

set_option maxHeartbeats 1000000 in
theorem checksum_ok (zs : List Int) (k : Int) (a : Option Addr) (c : Nat) (w : World) (ha : Rd .u8 w a zs) (hz : zs.length ≤ maxLen) (he : errOf zs = 0) (h : isKind k = true) :
    Calls Tryz.prog 26 #[.slice a zs.length c, .int .i64 k] w fun e w' => e = .returned (.tuple #[.agg #[.int .i64 (kW k), .int .u32 (kR k)], .int .i64 0]) ∧ Below w.heap.size w w' := by
  have HE : Hid (errOf zs = 0) := he
  clear he
  go_enter Tryz.func26, Tryz.ntmps26
  go_wp2_with fail
  refine (check_any zs a c _ (ha.below ((Below.refl _ _).alloc (Nat.le_refl _) _)) hz).mono ?_
  rintro e w1 ⟨rfl, rfl⟩
  rw [HE.out]
  go_wp2_with fail
  refine (divisor_yes k _ h).mono ?_
  rintro e w1 ⟨rfl, hb⟩
  obtain ⟨q0, q1, q2, q3, q4⟩ := box2 hb
  have hbw : Below w.heap.size w w1 := bthen ((Below.refl _ _).alloc (Nat.le_refl _) _) hb
  clear hb
  go_wp2
  exact bodyPost_ret (v := .tuple #[.agg #[.int .i64 (kW k), .int .u32 (kR k)], .int .i64 0]) (by simp [results, Tryz.results26, go_sem, q0, q1]) rfl ⟨rfl, (hbw.setCell (Nat.le_refl _) _).setCell (Nat.le_refl _) _⟩

set_option maxHeartbeats 1000000 in
theorem checksum_kind (zs : List Int) (k : Int) (a : Option Addr) (c : Nat) (w : World) (ha : Rd .u8 w a zs) (hz : zs.length ≤ maxLen) (he : errOf zs = 0) (h : isKind k = false) :
    Calls Tryz.prog 26 #[.slice a zs.length c, .int .i64 k] w fun e w' => e = .returned (.tuple #[.agg #[.int .i64 0, .int .u32 0], .int .i64 1]) ∧ Below w.heap.size w w' := by
  have HE : Hid (errOf zs = 0) := he
  clear he
  go_enter Tryz.func26, Tryz.ntmps26
  go_wp2_with fail
  refine (check_any zs a c _ (ha.below ((Below.refl _ _).alloc (Nat.le_refl _) _)) hz).mono ?_
  rintro e w1 ⟨rfl, rfl⟩
  rw [HE.out]
  go_wp2_with fail
  refine (divisor_no k _ h).mono ?_
  rintro e w1 ⟨rfl, hb⟩
  obtain ⟨q0, q1, q2, q3, q4⟩ := box2 hb
  have hbw : Below w.heap.size w w1 := bthen ((Below.refl _ _).alloc (Nat.le_refl _) _) hb
  clear hb
  go_wp2
  exact bodyPost_ret (v := .tuple #[.agg #[.int .i64 0, .int .u32 0], .int .i64 1]) (by simp [results, Tryz.results26, go_sem, q0, q1]) rfl ⟨rfl, (hbw.setCell (Nat.le_refl _) _).setCell (Nat.le_refl _) _⟩

set_option maxHeartbeats 1000000 in
theorem checksum_bad (zs : List Int) (k : Int) (a : Option Addr) (c : Nat) (w : World) (ha : Rd .u8 w a zs) (hz : zs.length ≤ maxLen) (he : errOf zs ≠ 0) :
    Calls Tryz.prog 26 #[.slice a zs.length c, .int .i64 k] w fun e w' => e = .returned (.tuple #[.agg #[.int .i64 0, .int .u32 0], .int .i64 (errOf zs)]) ∧ Below w.heap.size w w' := by
  have hne : (errOf zs != 0) = true := by simpa using he
  clear he
  go_enter Tryz.func26, Tryz.ntmps26
  go_wp2_with fail
  refine (check_any zs a c _ (ha.below ((Below.refl _ _).alloc (Nat.le_refl _) _)) hz).mono ?_
  rintro e w1 ⟨rfl, rfl⟩
  go_wp2
  exact bodyPost_ret (v := .tuple #[.agg #[.int .i64 0, .int .u32 0], .int .i64 (errOf zs)]) (by simp [results, Tryz.results26, go_sem]) rfl ⟨rfl, (Below.refl _ _).alloc (Nat.le_refl _) _⟩
theorem errSum_ok {zs : List Int} {k : Int} (h : errSum zs k = 0) : errOf zs = 0 ∧ isKind k = true := by
  unfold errSum at h
  split at h
  · rename_i he
    refine ⟨he, ?_⟩
    split at h
    · assumption
    · simp at h
  · contradiction

theorem checksum_err (zs : List Int) (k : Int) (a : Option Addr) (c : Nat) (w : World) (ha : Rd .u8 w a zs) (hz : zs.length ≤ maxLen) (h : errSum zs k ≠ 0) :
    Calls Tryz.prog 26 #[.slice a zs.length c, .int .i64 k] w fun e w' => e = .returned (.tuple #[.agg #[.int .i64 0, .int .u32 0], .int .i64 (errSum zs k)]) ∧ Below w.heap.size w w' := by
  by_cases he : errOf zs = 0
  · cases hk : isKind k with
    | true => exact absurd (by unfold errSum; rw [if_pos he, hk]; rfl) h
    | false =>
      have : errSum zs k = 1 := by unfold errSum; rw [if_pos he, hk]; rfl
      rw [this]
      exact checksum_kind zs k a c w ha hz he hk
  · have : errSum zs k = errOf zs := by unfold errSum; rw [if_neg he]
    rw [this]
    exact checksum_bad zs k a c w ha hz he

end Go.Proofs.YtdndeegpbjlibadGreatDoor

namespace Go.Proofs.YtdndeegpbjlibadGreatDoor
open Go.ChangeShapes Go.WideShapes Go.ChangeAt Go.RowKit

/-- The sum of bits, of a kind. -/
def ksum (zs : List Int) (k : Int) : List Int := sumL (kW k) (kP k) zs

end Go.Proofs.YtdndeegpbjlibadGreatDoor
