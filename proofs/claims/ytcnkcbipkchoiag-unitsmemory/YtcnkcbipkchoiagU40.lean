import Derived.Test.YtcnkcbipkchoiagU39
import Derived.Test.YtcnkcbipkchoiagU03
namespace Go.Proofs.Ytcnkcbipkchoiag
open Go.ChangeShapes Go.WideShapes Go.ChangeAt Go.RowKit
theorem and1_int (a : Nat) (ha : a < 4294967296) : bits .and .u32 (a : Int) 1 = ((a % 2 : Nat) : Int) := by
  rw [show (1 : Int) = ((1 : Nat) : Int) from rfl, u32_and_nat _ _ ha (by decide), Nat.and_one_is_mod]
theorem or_int (a b : Nat) (ha : a < 2147483648) (hb : b ≤ 1) : bits .or .u32 (a : Int) ((b : Int) * 1073741824 % 4294967296) = ((a ||| b * 2 ^ 30 : Nat) : Int) := by
  have e : (b : Int) * 1073741824 % 4294967296 = ((b * 2 ^ 30 : Nat) : Int) := by omega
  rw [e, u32_or_nat _ _ (by omega) (by omega)]
theorem stepX_int (x : Nat) (hx : x < 2147483648) : bits .or .u32 ((x : Int) / 2) (bits .and .u32 (bits .xor .u32 ((x : Int) / 8) x) 1 * 1073741824 % 4294967296) = ((stepX x : Nat) : Int) := by
  have h1 : x / 8 ^^^ x < 2 ^ 32 := Nat.xor_lt_two_pow (by omega) (by omega)
  rw [show (x : Int) / 8 = ((x / 8 : Nat) : Int) from by omega, show (x : Int) / 2 = ((x / 2 : Nat) : Int) from by omega, u32_xor_nat _ _ (by omega) (by omega), and1_int _ h1, or_int _ _ (by omega) (by omega)]
  rfl
theorem stepY_int (y : Nat) (hy : y < 2147483648) : bits .or .u32 ((y : Int) / 2) (bits .and .u32 (bits .xor .u32 (bits .xor .u32 (bits .xor .u32 ((y : Int) / 8) ((y : Int) / 4)) ((y : Int) / 2)) y) 1 * 1073741824 % 4294967296) = ((stepY y : Nat) : Int) := by
  have h1 : y / 8 ^^^ y / 4 < 2 ^ 32 := Nat.xor_lt_two_pow (by omega) (by omega)
  have h2 : y / 8 ^^^ y / 4 ^^^ y / 2 < 2 ^ 32 := Nat.xor_lt_two_pow h1 (by omega)
  have h3 : y / 8 ^^^ y / 4 ^^^ y / 2 ^^^ y < 2 ^ 32 := Nat.xor_lt_two_pow h2 (by omega)
  rw [show (y : Int) / 8 = ((y / 8 : Nat) : Int) from by omega, show (y : Int) / 4 = ((y / 4 : Nat) : Int) from by omega, show (y : Int) / 2 = ((y / 2 : Nat) : Int) from by omega, u32_xor_nat _ _ (by omega) (by omega), u32_xor_nat _ _ h1 (by omega), u32_xor_nat _ _ h2 (by omega), and1_int _ h3, or_int _ _ (by omega) (by omega)]
  rfl
theorem ret_two {k : IntKind} {a b c d : Int} (h : a = c) (h' : b = d) : Ending.returned (.tuple #[.int k a, .int k b]) = .returned (.tuple #[.int k c, .int k d]) := by rw [h, h']
set_option maxHeartbeats 400000 in
theorem step_any (x y : Nat) (w : World) (hx : x < 2147483648) (hy : y < 2147483648) :
    Calls Try.prog 145 #[.int .u32 x, .int .u32 y] w fun e w' => e = .returned (.tuple #[.int .u32 (stepX x : Nat), .int .u32 (stepY y : Nat)]) ∧ w = w' := by
  go_enter Try.func145, Try.ntmps145
  go_wp2
  go_ret2
  exact ⟨ret_two (stepX_int x hx) (stepY_int y hy), rfl⟩
theorem noise_int (x y : Nat) (hx : x < 2147483648) (hy : y < 2147483648) : bits .and .u32 (bits .xor .u32 (x : Int) y) 1 % 256 = b2i (x.testBit 0 ^^ y.testBit 0) := by
  have h1 : x ^^^ y < 2 ^ 32 := Nat.xor_lt_two_pow (by omega) (by omega)
  rw [u32_xor_nat _ _ (by omega) (by omega), and1_int _ h1, ← Nat.testBit_xor, testBit_zero']
  have : (x ^^^ y) % 2 = 0 ∨ (x ^^^ y) % 2 = 1 := by omega
  rcases this with h | h <;> simp [h, b2i]
theorem noise_set (s n k rx ry : Nat) (hk : k < n) (hrx : rx < 2147483648) (hry : ry < 2147483648) (h : rx = regX (1600 + k) ∧ ry = regY s (1600 + k)) :
    (noiseTo s k ++ List.replicate (n - k) 0).set k (bits .and .u32 (bits .xor .u32 (rx : Int) ry) 1 % 256) = noiseTo s (k + 1) ++ List.replicate (n - (k + 1)) 0 := by
  rw [show n - k = (n - (k + 1)) + 1 from by omega, set_fill _ _ _ _ (noiseTo_length s k), noiseTo_succ, noise_int rx ry hrx hry, h.1, h.2]
  rfl
set_option maxRecDepth 100000 in
set_option maxHeartbeats 1000000 in
theorem noise_ok (s n : Nat) (w : World) (hs : s < 2147483648) (hn : n ≤ 4096) :
    Calls Try.prog 134 #[.int .i64 s, .int .i64 n] w fun e w' => ∃ v, e = .returned (.tuple #[v, .int .i64 0]) ∧ Own w' w.heap.size v (noiseTo s n) ∧ Below w.heap.size w w' := by
  have d1 : decide ((s : Int) < 0) = false := by simp
  have d2 : decide (2147483647 < (s : Int)) = false := by simp; omega
  have d3 : decide ((n : Int) < 0) = false := by simp
  have d4 : decide (4096 < (n : Int)) = false := by simp; omega
  go_enter Try.func134, Try.ntmps134
  go_wp2
  go_loop [6, 7, 26] (fun x y i => ∃ t rx ry : Nat, t ≤ 1600 ∧ i = .int .i64 t ∧ x = .int .u32 rx ∧ y = .int .u32 ry ∧ rx < 2147483648 ∧ ry < 2147483648 ∧ Hid (rx = regX t ∧ ry = regY s t)) (fun _ _ i => 1600 - (intOf i).toNat)
  case atStart => exact ⟨0, 1, s, by omega, rfl, rfl, by go_num, by omega, hs, rfl, rfl⟩
  case round =>
    obtain ⟨t, rx, ry, ht, rfl, rfl, rfl, hrx, hry, HR⟩ := hrel
    by_cases hlt : t < 1600
    · go_wp2_with (go_at_call 145; refine (step_any rx ry _ hrx hry).mono ?_; rintro e w' ⟨rfl, rfl⟩)
      go_round
      case rel => exact ⟨t + 1, _, _, by omega, by go_num, rfl, rfl, by have := regX_lt (t + 1); rw [HR.out.1]; exact this, by have := regY_lt s hs (t + 1); rw [HR.out.2]; exact this, by rw [HR.out.1, HR.out.2]; exact ⟨rfl, rfl⟩⟩
      case measure => simp [intOf]; omega
    · have HR0 : Hid (rx = regX (1600 + 0) ∧ ry = regY s (1600 + 0)) := by
        have e : t = 1600 + 0 := by omega
        rw [← e]; exact HR
      clear HR
      go_wp2_with (at_make; refine wpList_makeBytes w.heap.size w n rfl _ _ rfl _ _ rfl rfl rfl rfl (by omega) (Below.refl _ _) (Nat.le_refl _) ?_)
      intro w1 hown1 hbel1 hsz1
      go_wp2
      go_loopw [6, 7, 39] (fun x y i wr => ∃ k rx ry : Nat, k ≤ n ∧ i = .int .i64 k ∧ x = .int .u32 rx ∧ y = .int .u32 ry ∧ rx < 2147483648 ∧ ry < 2147483648 ∧ Hid (rx = regX (1600 + k) ∧ ry = regY s (1600 + k)) ∧ Own wr w.heap.size (.slice (some ⟨w.heap.size, 0, none⟩) n n) (noiseTo s k ++ List.replicate (n - k) 0) ∧ Below w.heap.size w wr) (fun _ _ i _ => n - (intOf i).toNat)
      case atStart => exact ⟨0, rx, ry, by omega, rfl, rfl, rfl, hrx, hry, HR0, hown1, hbel1⟩
      case round =>
        clear hown1 hbel1 HR0 hrx hry
        obtain ⟨k, rx, ry, hk, rfl, rfl, rfl, hrx, hry, HR, hown, hbel⟩ := hrel
        by_cases hlt : k < n
        · have hll : (noiseTo s k ++ List.replicate (n - k) 0).length = n := hown.len
          have hc := hown.cell (i := k) (by omega)
          have hf := hown.free k
          clear hll
          go_wp2_with (go_at_call 145; refine (step_any rx ry _ hrx hry).mono ?_; rintro e w' ⟨rfl, rfl⟩)
          go_roundw
          case rel => exact ⟨k + 1, _, _, by omega, by go_num, rfl, rfl, by have := regX_lt (1600 + k + 1); rw [HR.out.1]; exact this, by have := regY_lt s hs (1600 + k + 1); rw [HR.out.2]; exact this, by rw [HR.out.1, HR.out.2]; exact ⟨rfl, rfl⟩, noise_set s n k rx ry hlt hrx hry HR.out ▸ hown.set k _, hbel.setCell (Nat.le_refl _) _⟩
          case measure => simp [intOf]; omega
        · go_wp2
          go_ret2
          obtain rfl : k = n := by omega
          rw [Nat.sub_self, List.replicate_zero, List.append_nil] at hown
          exact ⟨_, rfl, hown, hbel⟩
end Go.Proofs.Ytcnkcbipkchoiag
namespace Go.Proofs.Ytcnkcbipkchoiag
open Go.ChangeShapes Go.WideShapes Go.ChangeAt Go.RowKit
/-- A row of noise, its first k places covered. -/
def coverTo (zs ns : List Int) (k : Nat) : List Int := (List.range ns.length).map fun j => if j < k then (zs.getD j 0 + ns.getD j 0) % 2 else ns.getD j 0
theorem coverTo_zero (zs ns : List Int) : coverTo zs ns 0 = ns := by
  refine List.ext_getElem (by simp [coverTo]) fun j h1 h2 => ?_
  simp [coverTo, List.getD, h2]
theorem coverTo_all (zs ns : List Int) : coverTo zs ns ns.length = addTo zs ns ns.length := by
  unfold coverTo addTo
  refine List.map_congr_left fun j hj => ?_
  rw [if_pos (List.mem_range.1 hj)]
theorem coverTo_getD (zs ns : List Int) (k : Nat) (h : k < ns.length) : (coverTo zs ns k).getD k 0 = ns.getD k 0 := by simp [coverTo, List.getD, h]
theorem coverTo_set (zs ns : List Int) (k : Nat) (x : Int) (hx : x = (zs.getD k 0 + ns.getD k 0) % 2) : (coverTo zs ns k).set k x = coverTo zs ns (k + 1) := by
  refine List.ext_getElem (by simp [coverTo]) fun j h1 h2 => ?_
  rw [List.getElem_set]
  split
  · rename_i e
    subst e
    simp only [coverTo, List.getElem_map, List.getElem_range]
    rw [if_pos (by omega), hx]
  · rename_i e
    simp only [coverTo, List.getElem_map, List.getElem_range]
    by_cases hj : j < k
    · rw [if_pos hj, if_pos (by omega)]
    · rw [if_neg hj, if_neg (by omega)]
theorem xor_bits (a b : Int) (ha : 0 ≤ a ∧ a ≤ 1) (hb : 0 ≤ b ∧ b ≤ 1) : bits .xor .u8 a b = (b + a) % 2 := by
  rcases (show a = 0 ∨ a = 1 by omega) with rfl | rfl <;> rcases (show b = 0 ∨ b = 1 by omega) with rfl | rfl <;> decide
theorem noise_bits (s n : Nat) : Bits (noiseTo s n) := fun k => by
  by_cases h : k < n
  · have : (noiseTo s n).getD k 0 = noiseAt s k := by simp [noiseTo, List.getD, h]
    rw [this]; exact b2i_bd _
  · have : (noiseTo s n).getD k 0 = 0 := by simp [noiseTo, List.getD, h]
    rw [this]; omega
set_option maxRecDepth 100000 in
set_option maxHeartbeats 1000000 in
theorem cover_ok (zs : List Int) (s : Nat) (a : Option Addr) (c : Nat) (w : World) (ha : Rd .u8 w a zs) (hb : Bits zs) (he : errOf zs = 0) (hs : s < 2147483648) :
    Calls Try.prog 104 #[.slice a zs.length c, .int .i64 s] w fun e w' => ∃ v, e = .returned (.tuple #[v, .int .i64 0]) ∧ Own w' w.heap.size v (addTo zs (noiseTo s zs.length) zs.length) ∧ Below w.heap.size w w' := by
  have hz := (err_zero he).2
  have HE := hid he
  have hnb := noise_bits s zs.length
  have HNL := hid (noiseTo_length s zs.length)
  clear he
  go_enter Try.func104, Try.ntmps104
  go_wp2_with fail
  refine (check_any zs a c _ ha (by unfold maxLen; omega)).mono ?_
  rintro e w1 ⟨rfl, rfl⟩
  rw [HE.out]
  go_wp2_with fail
  refine (noise_ok s zs.length _ hs hz).mono ?_
  rintro e w1 ⟨v1, rfl, hown1, hb1⟩
  obtain ⟨a1, c1, rfl, hne1, -⟩ := hown1.shape
  rw [HNL.out]
  rw [HNL.out, ← coverTo_zero zs (noiseTo s zs.length)] at hown1
  have ha1 := ha.below hb1
  generalize hns : noiseTo s zs.length = ns at *
  have HNS := hid hns
  clear hns
  go_wp2
  go_loopw [28] (fun i wr => ∃ k : Nat, k ≤ zs.length ∧ i = .int .i64 k ∧ Own wr w.heap.size (.slice a1 zs.length c1) (coverTo zs ns k) ∧ Below w.heap.size w wr) (fun i _ => zs.length - (intOf i).toNat)
  case atStart => exact ⟨0, Nat.zero_le _, rfl, hown1, hb1⟩
  case round =>
    clear hown1
    obtain ⟨k, hk, rfl, hown, hbel⟩ := hrel
    by_cases hlt : k < zs.length
    · obtain ⟨g, rfl⟩ := hne1 (by intro e; have := HNL.out; rw [e] at this; simp at this; omega)
      obtain ⟨b2, o2, rfl, hc2⟩ := (ha.below hbel).at hlt
      have g2 := hc2 k hlt
      have hll : (coverTo zs ns k).length = zs.length := hown.len
      have hc := hown.cell (i := k) (by omega)
      rw [coverTo_getD zs ns k (by rw [HNL.out]; exact hlt)] at hc
      have hf := hown.free k
      have bx := hb k
      have bn := hnb k
      clear hll hc2
      obtain ⟨x, ex⟩ : ∃ x, x = zs.getD k 0 := ⟨_, rfl⟩
      obtain ⟨y, ey⟩ : ∃ y, y = ns.getD k 0 := ⟨_, rfl⟩
      rw [← ex] at g2 bx
      rw [← ey] at hc bn
      have EX := hid ex
      have EY := hid ey
      clear ex ey
      go_wp2
      have hset := coverTo_set zs ns k (bits .xor .u8 y x) (by rw [xor_bits y x bn bx, ← EX.out, ← EY.out])
      go_roundw
      case rel => exact ⟨k + 1, by omega, by go_num, hset ▸ hown.set k _, hbel.setCell hown.block.1 _⟩
      case measure => simp [intOf]; omega
    · go_wp2
      go_ret2
      obtain rfl : k = zs.length := by omega
      refine ⟨_, rfl, ?_, hbel⟩
      have e1 : ns.length = zs.length := HNL.out
      have e2 := coverTo_all zs ns
      rw [e1] at e2
      rw [e2] at hown
      rw [HNS.out]
      exact hown
end Go.Proofs.Ytcnkcbipkchoiag
namespace Go.Proofs.Ytcnkcbipkchoiag
/-- Is place j among those that the first m places of the divisor turn? -/
def turned (W : Nat) (D : List Int) (i m j : Nat) : Bool := (D.take m).any fun d => decide ((i : Int) + W - d = j)
end Go.Proofs.Ytcnkcbipkchoiag
namespace Go.Proofs.Ytcnkcbipkchoiag
open Go.ChangeShapes Go.WideShapes Go.ChangeAt Go.RowKit
theorem pow_le_2_24 {W : Nat} (h : W ≤ 24) : (2 : Nat) ^ W ≤ 16777216 := by
  have := Nat.pow_le_pow_right (n := 2) (by decide) h
  simpa using this
theorem fed_lt {W r x : Nat} (hW : W ≤ 24) (hr : r < 16777216) (hx : x ≤ 1) : fed W r x < 4294967296 := by
  have h1 : r * 2 < 2 ^ 32 := by omega
  have h2 : x * 2 ^ W < 2 ^ 32 := by
    have := pow_le_2_24 hW
    have : x * 2 ^ W ≤ 1 * 2 ^ W := Nat.mul_le_mul_right _ hx
    omega
  exact Nat.xor_lt_two_pow h1 h2
theorem fed_int {W r x : Nat} {q y : Int} (hW : W ≤ 24) (hr : r < 16777216) (hx : x ≤ 1) (hq : q = r) (hy : y = x) : bits .xor .u32 (q * 2) (y * 2 ^ W % 4294967296) = ((fed W r x : Nat) : Int) := by
  have h2 : x * 2 ^ W < 4294967296 := by
    have := pow_le_2_24 hW
    have : x * 2 ^ W ≤ 1 * 2 ^ W := Nat.mul_le_mul_right _ hx
    omega
  have e1 : q * 2 = ((r * 2 : Nat) : Int) := by rw [hq]; omega
  have e2 : y * 2 ^ W % 4294967296 = ((x * 2 ^ W : Nat) : Int) := by
    have : y * 2 ^ W = ((x * 2 ^ W : Nat) : Int) := by rw [hy]; simp
    rw [this]
    omega
  rw [e1, e2, u32_xor_nat _ _ (by omega) h2]
  rfl
theorem top_int (F W : Nat) (hF : F < 4294967296) : (bits .and .u32 ((F : Int) / 2 ^ W) 1 == 1) = decide (F / 2 ^ W % 2 = 1) := by
  have e : ((F : Int) / 2 ^ W) = ((F / 2 ^ W : Nat) : Int) := by simp
  have hl : F / 2 ^ W < 4294967296 := Nat.lt_of_le_of_lt (Nat.div_le_self _ _) hF
  rw [e, show (1 : Int) = ((1 : Nat) : Int) from rfl, u32_and_nat _ _ hl (by decide), Nat.and_one_is_mod]
  rw [Bool.eq_iff_iff]
  simp
  omega
theorem div_int {W R F : Nat} (hW : W ≤ 24) (hR : R < 16777216) (hF : F < 4294967296) : bits .xor .u32 (F : Int) (bits .or .u32 (2 ^ W % 4294967296) R) = ((F ^^^ (2 ^ W ||| R) : Nat) : Int) := by
  have hp := pow_le_2_24 hW
  have e : (2 : Int) ^ W % 4294967296 = ((2 ^ W : Nat) : Int) := by
    have : (2 : Int) ^ W = ((2 ^ W : Nat) : Int) := by simp
    rw [this]
    exact Int.emod_eq_of_lt (Int.natCast_nonneg _) (by omega)
  have hor : 2 ^ W ||| R < 2 ^ 32 := Nat.or_lt_two_pow (by omega) (by omega)
  rw [e, u32_or_nat _ _ (by omega) (by omega), u32_xor_nat _ _ hF (by omega)]
theorem sbit_int (r e : Nat) (hr : r < 16777216) : bits .and .u32 ((r : Int) / 2 ^ e) 1 = b2i (r.testBit e) := by
  have e1 : ((r : Int) / 2 ^ e) = ((r / 2 ^ e : Nat) : Int) := by simp
  have hl : r / 2 ^ e < 4294967296 := Nat.lt_of_le_of_lt (Nat.div_le_self _ _) (by omega)
  rw [e1, show (1 : Int) = ((1 : Nat) : Int) from rfl, u32_and_nat _ _ hl (by decide), Nat.and_one_is_mod, Nat.testBit_eq_decide_div_mod_eq]
  have : r / 2 ^ e % 2 = 0 ∨ r / 2 ^ e % 2 = 1 := by omega
  rcases this with h | h <;> simp [h, b2i]
theorem sum_set (W R : Nat) (zs : List Int) (k : Nat) (q : Int) (hk : k < W) (hq : q = (crc W (2 ^ W ||| R) zs : Nat)) (hq1 : q < 16777216) :
    (sumTo W (2 ^ W ||| R) zs k ++ List.replicate (W - k) 0).set k (bits .and .u32 (q / 2 ^ (W - 1 - k)) 1 % 256) = sumTo W (2 ^ W ||| R) zs (k + 1) ++ List.replicate (W - (k + 1)) 0 := by
  have hb := b2i_bd ((crc W (2 ^ W ||| R) zs).testBit (W - 1 - k))
  rw [show W - k = (W - (k + 1)) + 1 from by omega, set_fill _ _ _ _ (sumTo_length _ _ _ k), sumTo_succ, hq, sbit_int _ _ (by omega)]
  rw [show b2i ((crc W (2 ^ W ||| R) zs).testBit (W - 1 - k)) % 256 = b2i ((crc W (2 ^ W ||| R) zs).testBit (W - 1 - k)) from by omega]
set_option maxHeartbeats 2000000 in
theorem sum_any (W : Nat) (R : Nat) (zs : List Int) (a : Option Addr) (c : Nat) (w : World) (ha : Rd .u8 w a zs) (hb : Bits zs) (hz : zs.length ≤ 4096) (hD : Div W (2 ^ W ||| R)) (hW1 : 1 ≤ W) (hW : W ≤ 24) (hR : R < 16777216) :
    Calls Try.prog 137 #[.agg #[.int .i64 W, .int .u32 R], .slice a zs.length c] w fun e w' => ∃ v, e = .returned v ∧ Own w' w.heap.size v (sumL W (2 ^ W ||| R) zs) ∧ Below w.heap.size w w' := by
  have hp := pow_le_2_24 hW
  have HP : Hid (2 ^ W ≤ 16777216) := hp
  clear hp
  go_enter Try.func137, Try.ntmps137
  go_wp2
  go_loopw [5, 12] (fun l i wr => ∃ k : Nat, ∃ q : Int, k ≤ zs.length ∧ i = .int .i64 k ∧ 0 ≤ q ∧ q < 16777216 ∧ l = .int .u32 q ∧ Hid (q = (crc W (2 ^ W ||| R) (zs.take k) : Nat)) ∧ wr.cell? ⟨w.heap.size, 0, none⟩ = some (.int .i64 W) ∧ wr.cell? ⟨w.heap.size, 1, none⟩ = some (.int .u32 R) ∧ w.heap.size < wr.heap.size ∧ Below w.heap.size w wr) (fun _ i _ => zs.length - (intOf i).toNat)
  case atStart => exact ⟨0, 0, Nat.zero_le _, rfl, by omega, by omega, rfl, by unfold Hid; simp [crc], by simp, by simp, by simp, (Below.refl _ _).alloc (Nat.le_refl _) _⟩
  case round =>
    obtain ⟨k, q, hk, rfl, hq0, hq1, rfl, HQ, hcW, hcR, hsz, hbel⟩ := hrel
    by_cases hlt : k < zs.length
    · obtain ⟨b1, o1, rfl, hc1⟩ := (ha.below hbel).at hlt
      have g1 := hc1 k hlt
      have hx := hb k
      clear hc1
      obtain ⟨x, hx'⟩ : ∃ x, x = zs.getD k 0 := ⟨_, rfl⟩
      rw [← hx'] at g1 hx
      obtain ⟨r, hr⟩ : ∃ r, r = crc W (2 ^ W ||| R) (zs.take k) := ⟨_, rfl⟩
      have hqr : q = (r : Int) := by rw [hr]; exact HQ.out
      have hr1 : r < 16777216 := by omega
      have hfi := fed_int (W := W) (r := r) (x := x.toNat) (q := q) (y := x) hW hr1 (by omega) hqr (by omega)
      have hfl := fed_lt (W := W) (r := r) (x := x.toNat) hW hr1 (by omega)
      have hti := top_int _ W hfl
      have hdi := div_int (W := W) (R := R) hW hR hfl
      have hst : crc W (2 ^ W ||| R) (zs.take (k + 1)) = step W (2 ^ W ||| R) r x.toNat := by rw [crc_take _ _ zs k hlt, ← hr, hx']
      have hlt2 : step W (2 ^ W ||| R) r x.toNat < 2 ^ W := hst ▸ crc_lt hD hb (k + 1)
      rw [← hfi] at hti hdi
      unfold step at hst hlt2
      by_cases hT : fed W r x.toNat / 2 ^ W % 2 = 1
      · rw [if_pos hT] at hst hlt2
        rw [decide_eq_true hT] at hti
        have HF : Hid (crc W (2 ^ W ||| R) (zs.take (k + 1)) < 16777216 ∧ bits .xor .u32 (bits .xor .u32 (q * 2) (x * 2 ^ W % 4294967296)) (bits .or .u32 (2 ^ W % 4294967296) R) = (crc W (2 ^ W ||| R) (zs.take (k + 1)) : Nat)) := ⟨by rw [hst]; have := HP.out; omega, by rw [hdi, hst]⟩
        clear hdi hst hlt2 hT hfl hfi hqr hx' hr HQ hr1
        go_wp2
        go_quiet (fail)
        go_wp2
        go_roundw
        case rel => exact ⟨k + 1, _, by omega, by go_num, Int.natCast_nonneg _, by have := HF.out.1; omega, val_int HF.out.2, rfl, hcW, hcR, hsz, below_drewN hbel _⟩
        case measure => simp [intOf]; omega
      · rw [if_neg hT] at hst hlt2
        rw [decide_eq_false hT] at hti
        have HF : Hid (crc W (2 ^ W ||| R) (zs.take (k + 1)) < 16777216 ∧ bits .xor .u32 (q * 2) (x * 2 ^ W % 4294967296) = (crc W (2 ^ W ||| R) (zs.take (k + 1)) : Nat)) := ⟨by rw [hst]; have := HP.out; omega, by rw [hfi, hst]⟩
        clear hdi hst hlt2 hT hfl hfi hqr hx' hr HQ hr1
        go_wp2
        go_roundw
        case rel => exact ⟨k + 1, _, by omega, by go_num, Int.natCast_nonneg _, by have := HF.out.1; omega, val_int HF.out.2, rfl, hcW, hcR, hsz, hbel⟩
        case measure => simp [intOf]; omega
    · obtain rfl : k = zs.length := by omega
      rw [List.take_length] at HQ
      obtain ⟨wo, rfl⟩ : ∃ wo : World, wo = wr := ⟨_, rfl⟩
      go_wp2_with (at_make; refine wpList_makeBytes wo.heap.size wo W rfl _ _ rfl _ _ rfl rfl rfl rfl (by omega) (Below.refl _ _) (Nat.le_refl _) ?_)
      intro w1 hown1 hbel1 hsz1
      go_wp2
      go_loopw [44] (fun i wr => ∃ k : Nat, k ≤ W ∧ i = .int .i64 k ∧ Own wr wo.heap.size (.slice (some ⟨wo.heap.size, 0, none⟩) W W) (sumTo W (2 ^ W ||| R) zs k ++ List.replicate (W - k) 0) ∧ Below wo.heap.size wo wr) (fun i _ => W - (intOf i).toNat)
      case atStart => exact ⟨0, Nat.zero_le _, rfl, hown1, hbel1⟩
      case round =>
        clear hown1 hbel1
        obtain ⟨k, hk, rfl, hown, hbel2⟩ := hrel
        have hcW2 := (hbel2.cell (p := ⟨w.heap.size, 0, none⟩) hsz).trans hcW
        by_cases hltk : k < W
        · have hll : (sumTo W (2 ^ W ||| R) zs k ++ List.replicate (W - k) 0).length = W := hown.len
          have hc := hown.cell (i := k) (by omega)
          have hf := hown.free k
          clear hll hcW hcR
          go_wp2
          go_roundw
          case rel => exact ⟨k + 1, by omega, by go_num, sum_set W R zs k q hltk HQ.out hq1 ▸ hown.set k _, hbel2.setCell (Nat.le_refl _) _⟩
          case measure => simp [intOf]; omega
        · go_wp2
          go_ret
          obtain rfl : k = W := by omega
          rw [Nat.sub_self, List.replicate_zero, List.append_nil] at hown
          exact ⟨_, rfl, hown.mono hbel.size, bthen hbel hbel2⟩
end Go.Proofs.Ytcnkcbipkchoiag
