import Derived.Test.YtdndeegpbjlibadGreatDoorK07
import Derived.Test.YtdndeegpbjlibadGreatDoorK01
import Derived.Test.YtdndeegpbjlibadGreatDoorK02
namespace Go.Proofs.YtdndeegpbjlibadGreatDoor
open Go.ChangeShapes Go.WideShapes Go.ChangeAt Go.RowKit

theorem and1_int (a : Nat) (ha : a < 4294967296) : bits .and .u32 (a : Int) 1 = ((a % 2 : Nat) : Int) := by
  rw [show (1 : Int) = ((1 : Nat) : Int) from rfl, u32_and_nat _ _ ha (by decide), Nat.and_one_is_mod]

theorem or_int (a b : Nat) (ha : a < 2147483648) (hb : b ≤ 1) : bits .or .u32 (a : Int) ((b : Int) * 1073741824 % 4294967296) = ((a ||| b * 2 ^ 30 : Nat) : Int) := by
  have e : (b : Int) * 1073741824 % 4294967296 = ((b * 2 ^ 30 : Nat) : Int) := by omega
  rw [e, u32_or_nat _ _ (by omega) (by omega)]

theorem stepX_int (x : Nat) (hx : x < 2147483648) : bits .or .u32 ((x : Int) / 2) (bits .and .u32 (bits .xor .u32 ((x : Int) / 8) x) 1 * 1073741824 % 4294967296) = ((stepX x : Nat) : Int) := by
  have h1 : x / 8 ^^^ x < 2 ^ 32 := Nat.xor_lt_two_pow (by omega) (by omega)
  rw [show (x : Int) / 8 = ((x / 8 : Nat) : Int) from by omega, show (x : Int) / 2 = ((x / 2 : Nat) : Int) from by omega, u32_xor_nat _ _ (by omega) (by omega), and1_int _ h1, or_int _ _ (by omega) (by omega)]
  rfl

theorem stepY_int (y : Nat) (hy : y < 2147483648) : bits .or .u32 ((y : Int) / 2) (bits .and .u32 (bits .xor .u32 (bits .xor .u32 (bits .xor .u32 ((y : Int) / 8) ((y : Int) / 4)) ((y : Int) / 2)) y) 1 * 1073741824 % 4294967296) = ((stepY y : Nat) : Int) := by
  have h1 : y / 8 ^^^ y / 4 < 2 ^ 32 := Nat.xor_lt_two_pow (by omega) (by omega)
  have h2 : y / 8 ^^^ y / 4 ^^^ y / 2 < 2 ^ 32 := Nat.xor_lt_two_pow h1 (by omega)
  have h3 : y / 8 ^^^ y / 4 ^^^ y / 2 ^^^ y < 2 ^ 32 := Nat.xor_lt_two_pow h2 (by omega)
  rw [show (y : Int) / 8 = ((y / 8 : Nat) : Int) from by omega, show (y : Int) / 4 = ((y / 4 : Nat) : Int) from by omega, show (y : Int) / 2 = ((y / 2 : Nat) : Int) from by omega, u32_xor_nat _ _ (by omega) (by omega), u32_xor_nat _ _ h1 (by omega), u32_xor_nat _ _ h2 (by omega), and1_int _ h3, or_int _ _ (by omega) (by omega)]
  rfl

theorem ret_two {k : IntKind} {a b c d : Int} (h : a = c) (h' : b = d) : Ending.returned (.tuple #[.int k a, .int k b]) = .returned (.tuple #[.int k c, .int k d]) := by rw [h, h']

set_option maxHeartbeats 400000 in
theorem step_any (x y : Nat) (w : World) (hx : x < 2147483648) (hy : y < 2147483648) :
    Calls Tryz.prog 48 #[.int .u32 x, .int .u32 y] w fun e w' => e = .returned (.tuple #[.int .u32 (stepX x : Nat), .int .u32 (stepY y : Nat)]) ∧ w = w' := by
  go_enter Tryz.func48, Tryz.ntmps48
  go_wp2
  go_ret2
  exact ⟨ret_two (stepX_int x hx) (stepY_int y hy), rfl⟩

theorem noise_int (x y : Nat) (hx : x < 2147483648) (hy : y < 2147483648) : bits .and .u32 (bits .xor .u32 (x : Int) y) 1 % 256 = b2i (x.testBit 0 ^^ y.testBit 0) := by
  have h1 : x ^^^ y < 2 ^ 32 := Nat.xor_lt_two_pow (by omega) (by omega)
  rw [u32_xor_nat _ _ (by omega) (by omega), and1_int _ h1, ← Nat.testBit_xor, testBit_zero']
  have : (x ^^^ y) % 2 = 0 ∨ (x ^^^ y) % 2 = 1 := by omega
  rcases this with h | h <;> simp [h, b2i]

/-- Is a seed right, and a length? -/
def seedOk (s : Int) : Bool := decide (0 ≤ s ∧ s ≤ 2147483647)
def noiseOk (s n : Int) : Bool := seedOk s && decide (0 ≤ n ∧ n ≤ 4096)

set_option maxHeartbeats 1000000 in
theorem noise_bad (s n : Int) (w : World) (h : noiseOk s n = false) :
    Calls Tryz.prog 29 #[.int .i64 s, .int .i64 n] w fun e w' => e = .returned (.tuple #[.slice none 0 0, .int .i64 1]) ∧ w = w' := by
  have h' : s < 0 ∨ 2147483647 < s ∨ n < 0 ∨ 4096 < n := by
    simp [noiseOk, seedOk] at h
    omega
  clear h
  by_cases h1 : s < 0
  · go_enter Tryz.func29, Tryz.ntmps29
    go_wp2
    go_ret2
    exact ⟨rfl, rfl⟩
  · have d1 : decide (s < 0) = false := by simpa using h1
    by_cases h2 : 2147483647 < s
    · go_enter Tryz.func29, Tryz.ntmps29
      go_wp2
      go_ret2
      exact ⟨rfl, rfl⟩
    · have d2 : decide (2147483647 < s) = false := by simpa using h2
      by_cases h3 : n < 0
      · go_enter Tryz.func29, Tryz.ntmps29
        go_wp2
        go_ret2
        exact ⟨rfl, rfl⟩
      · have d3 : decide (n < 0) = false := by simpa using h3
        have h4 : 4096 < n := by omega
        go_enter Tryz.func29, Tryz.ntmps29
        go_wp2
        go_ret2
        exact ⟨rfl, rfl⟩

theorem noise_set (s n k rx ry : Nat) (hk : k < n) (hrx : rx < 2147483648) (hry : ry < 2147483648) (h : rx = regX (1600 + k) ∧ ry = regY s (1600 + k)) :
    (noiseTo s k ++ List.replicate (n - k) 0).set k (bits .and .u32 (bits .xor .u32 (rx : Int) ry) 1 % 256) = noiseTo s (k + 1) ++ List.replicate (n - (k + 1)) 0 := by
  rw [show n - k = (n - (k + 1)) + 1 from by omega, set_fill _ _ _ _ (noiseTo_length s k), noiseTo_succ, noise_int rx ry hrx hry, h.1, h.2]
  rfl

set_option maxRecDepth 100000 in
set_option maxHeartbeats 1000000 in
theorem noise_ok (s n : Nat) (w : World) (hs : s < 2147483648) (hn : n ≤ 4096) :
    Calls Tryz.prog 29 #[.int .i64 s, .int .i64 n] w fun e w' => ∃ v, e = .returned (.tuple #[v, .int .i64 0]) ∧ Own w' w.heap.size v (noiseTo s n) ∧ Below w.heap.size w w' := by
  have d1 : decide ((s : Int) < 0) = false := by simp
  have d2 : decide (2147483647 < (s : Int)) = false := by simp; omega
  have d3 : decide ((n : Int) < 0) = false := by simp
  have d4 : decide (4096 < (n : Int)) = false := by simp; omega
  go_enter Tryz.func29, Tryz.ntmps29
  go_wp2
  go_loop [6, 7, 26] (fun x y i => ∃ t rx ry : Nat, t ≤ 1600 ∧ i = .int .i64 t ∧ x = .int .u32 rx ∧ y = .int .u32 ry ∧ rx < 2147483648 ∧ ry < 2147483648 ∧ Hid (rx = regX t ∧ ry = regY s t)) (fun _ _ i => 1600 - (intOf i).toNat)
  case atStart => exact ⟨0, 1, s, by omega, rfl, rfl, by go_num, by omega, hs, rfl, rfl⟩
  case round =>
    obtain ⟨t, rx, ry, ht, rfl, rfl, rfl, hrx, hry, HR⟩ := hrel
    by_cases hlt : t < 1600
    · go_wp2_with (go_at_call 48; refine (step_any rx ry _ hrx hry).mono ?_; rintro e w' ⟨rfl, rfl⟩)
      go_round
      case rel => exact ⟨t + 1, _, _, by omega, by go_num, rfl, rfl, by have := regX_lt (t + 1); rw [HR.out.1]; exact this, by have := regY_lt s hs (t + 1); rw [HR.out.2]; exact this, by rw [HR.out.1, HR.out.2]; exact ⟨rfl, rfl⟩⟩
      case measure => simp [intOf]; omega
    · have HR0 : Hid (rx = regX (1600 + 0) ∧ ry = regY s (1600 + 0)) := by
        have e : t = 1600 + 0 := by omega
        rw [← e]; exact HR
      clear HR
      go_wp2_with (at_make; refine wpList_makeBytes w.heap.size w n rfl _ _ rfl _ _ rfl rfl rfl rfl (by omega) (Below.refl _ _) (Nat.le_refl _) ?_)
      intro w1 hown1 hbel1 hsz1
      go_wp2
      go_loopw [6, 7, 39] (fun x y i wr => ∃ k rx ry : Nat, k ≤ n ∧ i = .int .i64 k ∧ x = .int .u32 rx ∧ y = .int .u32 ry ∧ rx < 2147483648 ∧ ry < 2147483648 ∧ Hid (rx = regX (1600 + k) ∧ ry = regY s (1600 + k)) ∧ Own wr w.heap.size (.slice (some ⟨w.heap.size, 0, none⟩) n n) (noiseTo s k ++ List.replicate (n - k) 0) ∧ Below w.heap.size w wr) (fun _ _ i _ => n - (intOf i).toNat)
      case atStart => exact ⟨0, rx, ry, by omega, rfl, rfl, rfl, hrx, hry, HR0, hown1, hbel1⟩
      case round =>
        clear hown1 hbel1 HR0 hrx hry
        obtain ⟨k, rx, ry, hk, rfl, rfl, rfl, hrx, hry, HR, hown, hbel⟩ := hrel
        by_cases hlt : k < n
        · have hll : (noiseTo s k ++ List.replicate (n - k) 0).length = n := hown.len
          have hc := hown.cell (i := k) (by omega)
          have hf := hown.free k
          clear hll
          go_wp2_with (go_at_call 48; refine (step_any rx ry _ hrx hry).mono ?_; rintro e w' ⟨rfl, rfl⟩)
          go_roundw
          case rel => exact ⟨k + 1, _, _, by omega, by go_num, rfl, rfl, by have := regX_lt (1600 + k + 1); rw [HR.out.1]; exact this, by have := regY_lt s hs (1600 + k + 1); rw [HR.out.2]; exact this, by rw [HR.out.1, HR.out.2]; exact ⟨rfl, rfl⟩, noise_set s n k rx ry hlt hrx hry HR.out ▸ hown.set k _, hbel.setCell (Nat.le_refl _) _⟩
          case measure => simp [intOf]; omega
        · go_wp2
          go_ret2
          obtain rfl : k = n := by omega
          rw [Nat.sub_self, List.replicate_zero, List.append_nil] at hown
          exact ⟨_, rfl, hown, hbel⟩
end Go.Proofs.YtdndeegpbjlibadGreatDoor

namespace Go.Proofs.YtdndeegpbjlibadGreatDoor
open Go.ChangeShapes Go.WideShapes Go.ChangeAt Go.RowKit

/-- A row of noise, its first k places covered. -/
def coverTo (zs ns : List Int) (k : Nat) : List Int := (List.range ns.length).map fun j => if j < k then (zs.getD j 0 + ns.getD j 0) % 2 else ns.getD j 0
theorem coverTo_length (zs ns : List Int) (k : Nat) : (coverTo zs ns k).length = ns.length := by simp [coverTo]
theorem coverTo_zero (zs ns : List Int) : coverTo zs ns 0 = ns := by
  refine List.ext_getElem (by simp [coverTo]) fun j h1 h2 => ?_
  simp [coverTo, List.getD, h2]
theorem coverTo_all (zs ns : List Int) : coverTo zs ns ns.length = addTo zs ns ns.length := by
  unfold coverTo addTo
  refine List.map_congr_left fun j hj => ?_
  rw [if_pos (List.mem_range.1 hj)]
theorem coverTo_getD (zs ns : List Int) (k : Nat) (h : k < ns.length) : (coverTo zs ns k).getD k 0 = ns.getD k 0 := by simp [coverTo, List.getD, h]
theorem coverTo_set (zs ns : List Int) (k : Nat) (x : Int) (hx : x = (zs.getD k 0 + ns.getD k 0) % 2) : (coverTo zs ns k).set k x = coverTo zs ns (k + 1) := by
  refine List.ext_getElem (by simp [coverTo]) fun j h1 h2 => ?_
  rw [List.getElem_set]
  split
  · rename_i e
    subst e
    simp only [coverTo, List.getElem_map, List.getElem_range]
    rw [if_pos (by omega), hx]
  · rename_i e
    simp only [coverTo, List.getElem_map, List.getElem_range]
    by_cases hj : j < k
    · rw [if_pos hj, if_pos (by omega)]
    · rw [if_neg hj, if_neg (by omega)]

theorem xor_bits (a b : Int) (ha : 0 ≤ a ∧ a ≤ 1) (hb : 0 ≤ b ∧ b ≤ 1) : bits .xor .u8 a b = (b + a) % 2 := by
  rcases (show a = 0 ∨ a = 1 by omega) with rfl | rfl <;> rcases (show b = 0 ∨ b = 1 by omega) with rfl | rfl <;> decide

theorem noise_bits (s n : Nat) : Bits (noiseTo s n) := fun k => by
  by_cases h : k < n
  · have : (noiseTo s n).getD k 0 = noiseAt s k := by simp [noiseTo, List.getD, h]
    rw [this]; exact b2i_bd _
  · have : (noiseTo s n).getD k 0 = 0 := by simp [noiseTo, List.getD, h]
    rw [this]; omega

/-- What is wrong with bits and a seed. -/
def errCover (zs : List Int) (s : Int) : Int := if errOf zs = 0 then (if seedOk s then 0 else 1) else errOf zs

set_option maxRecDepth 100000 in
set_option maxHeartbeats 1000000 in
theorem cover_bits (zs : List Int) (s : Int) (a : Option Addr) (c : Nat) (w : World) (ha : Rd .u8 w a zs) (hz : zs.length ≤ maxLen) (he : errOf zs ≠ 0) :
    Calls Tryz.prog 10 #[.slice a zs.length c, .int .i64 s] w fun e w' => e = .returned (.tuple #[.slice none 0 0, .int .i64 (errOf zs)]) ∧ w = w' := by
  have hne : (errOf zs != 0) = true := by simpa using he
  clear he
  go_enter Tryz.func10, Tryz.ntmps10
  go_wp2_with fail
  refine (check_any zs a c _ ha hz).mono ?_
  rintro e w1 ⟨rfl, rfl⟩
  go_wp2
  go_ret2
  exact ⟨rfl, rfl⟩

set_option maxRecDepth 100000 in
set_option maxHeartbeats 1000000 in
theorem cover_seed (zs : List Int) (s : Int) (a : Option Addr) (c : Nat) (w : World) (ha : Rd .u8 w a zs) (hz : zs.length ≤ maxLen) (he : errOf zs = 0) (hs : seedOk s = false) :
    Calls Tryz.prog 10 #[.slice a zs.length c, .int .i64 s] w fun e w' => e = .returned (.tuple #[.slice none 0 0, .int .i64 1]) ∧ w = w' := by
  have HE := hid he
  have hn : noiseOk s zs.length = false := by unfold noiseOk; rw [hs]; rfl
  have HN := hid hn
  clear he hn hs
  go_enter Tryz.func10, Tryz.ntmps10
  go_wp2_with fail
  refine (check_any zs a c _ ha hz).mono ?_
  rintro e w1 ⟨rfl, rfl⟩
  rw [HE.out]
  go_wp2_with fail
  refine (noise_bad s zs.length _ HN.out).mono ?_
  rintro e w1 ⟨rfl, rfl⟩
  go_wp2
  go_ret2
  exact ⟨rfl, rfl⟩

set_option maxRecDepth 100000 in
set_option maxHeartbeats 1000000 in
theorem cover_ok (zs : List Int) (s : Nat) (a : Option Addr) (c : Nat) (w : World) (ha : Rd .u8 w a zs) (hb : Bits zs) (he : errOf zs = 0) (hs : s < 2147483648) :
    Calls Tryz.prog 10 #[.slice a zs.length c, .int .i64 s] w fun e w' => ∃ v, e = .returned (.tuple #[v, .int .i64 0]) ∧ Own w' w.heap.size v (addTo zs (noiseTo s zs.length) zs.length) ∧ Below w.heap.size w w' := by
  have hz := (err_zero he).2
  have HE := hid he
  have hnb := noise_bits s zs.length
  have HNL := hid (noiseTo_length s zs.length)
  clear he
  go_enter Tryz.func10, Tryz.ntmps10
  go_wp2_with fail
  refine (check_any zs a c _ ha (by unfold maxLen; omega)).mono ?_
  rintro e w1 ⟨rfl, rfl⟩
  rw [HE.out]
  go_wp2_with fail
  refine (noise_ok s zs.length _ hs hz).mono ?_
  rintro e w1 ⟨v1, rfl, hown1, hb1⟩
  obtain ⟨a1, c1, rfl, hne1, -⟩ := hown1.shape
  rw [HNL.out]
  rw [HNL.out, ← coverTo_zero zs (noiseTo s zs.length)] at hown1
  have ha1 := ha.below hb1
  generalize hns : noiseTo s zs.length = ns at *
  have HNS := hid hns
  clear hns
  go_wp2
  go_loopw [28] (fun i wr => ∃ k : Nat, k ≤ zs.length ∧ i = .int .i64 k ∧ Own wr w.heap.size (.slice a1 zs.length c1) (coverTo zs ns k) ∧ Below w.heap.size w wr) (fun i _ => zs.length - (intOf i).toNat)
  case atStart => exact ⟨0, Nat.zero_le _, rfl, hown1, hb1⟩
  case round =>
    clear hown1
    obtain ⟨k, hk, rfl, hown, hbel⟩ := hrel
    by_cases hlt : k < zs.length
    · obtain ⟨g, rfl⟩ := hne1 (by intro e; have := HNL.out; rw [e] at this; simp at this; omega)
      obtain ⟨b2, o2, rfl, hc2⟩ := (ha.below hbel).at hlt
      have g2 := hc2 k hlt
      have hll : (coverTo zs ns k).length = zs.length := hown.len
      have hc := hown.cell (i := k) (by omega)
      rw [coverTo_getD zs ns k (by rw [HNL.out]; exact hlt)] at hc
      have hf := hown.free k
      have bx := hb k
      have bn := hnb k
      clear hll hc2
      obtain ⟨x, ex⟩ : ∃ x, x = zs.getD k 0 := ⟨_, rfl⟩
      obtain ⟨y, ey⟩ : ∃ y, y = ns.getD k 0 := ⟨_, rfl⟩
      rw [← ex] at g2 bx
      rw [← ey] at hc bn
      have EX := hid ex
      have EY := hid ey
      clear ex ey
      go_wp2
      have hset := coverTo_set zs ns k (bits .xor .u8 y x) (by rw [xor_bits y x bn bx, ← EX.out, ← EY.out])
      go_roundw
      case rel => exact ⟨k + 1, by omega, by go_num, hset ▸ hown.set k _, hbel.setCell hown.block.1 _⟩
      case measure => simp [intOf]; omega
    · go_wp2
      go_ret2
      obtain rfl : k = zs.length := by omega
      refine ⟨_, rfl, ?_, hbel⟩
      have e1 : ns.length = zs.length := HNL.out
      have e2 := coverTo_all zs ns
      rw [e1] at e2
      rw [e2] at hown
      rw [HNS.out]
      exact hown
end Go.Proofs.YtdndeegpbjlibadGreatDoor

namespace Go.Proofs.YtdndeegpbjlibadGreatDoor
open Go.ChangeShapes Go.WideShapes Go.ChangeAt Go.RowKit

set_option maxRecDepth 100000 in
set_option maxHeartbeats 1000000 in
theorem pack_bad (zs : List Int) (a : Option Addr) (c : Nat) (w : World) (ha : Rd .u8 w a zs) (hz : zs.length ≤ maxLen) (he : errOf zs ≠ 0) :
    Calls Tryz.prog 46 #[.slice a zs.length c] w fun e w' => e = .returned (.tuple #[.string ByteArray.empty, .int .i64 (errOf zs)]) ∧ w = w' := by
  have hne : (errOf zs != 0) = true := by simpa using he
  clear he
  go_enter Tryz.func46, Tryz.ntmps46
  go_wp2_with (go_at_call 28; refine (check_any zs a c _ ha hz).mono ?_; rintro e w' ⟨rfl, rfl⟩)
  go_ret2
  exact ⟨rfl, rfl⟩

set_option maxRecDepth 100000 in
set_option maxHeartbeats 1000000 in
theorem pack_ok (zs : List Int) (a : Option Addr) (c : Nat) (w : World) (ha : Rd .u8 w a zs) (hb : Bits zs) (hz : zs.length ≤ 4096) (he : errOf zs = 0) :
    Calls Tryz.prog 46 #[.slice a zs.length c] w fun e w' => e = .returned (.tuple #[.string (strOfNums (packL zs)), .int .i64 0]) ∧ Below w.heap.size w w' := by
  have HE : Hid (errOf zs = 0) := he
  clear he
  go_enter Tryz.func46, Tryz.ntmps46
  go_wp2_with (first | (go_at_call 28; refine (check_any zs a c _ ha (by unfold maxLen; omega)).mono ?_; rintro e w' ⟨rfl, rfl⟩; rw [HE.out]) | (at_make; refine wpList_makeBytes w.heap.size w ((zs.length + 7) / 8) rfl _ _ rfl _ _ rfl rfl ?_ ?_ (by omega) (Below.refl _ _) (Nat.le_refl _) ?_))
  · omega
  · omega
  intro w1 hown1 hbel1 hsz1
  rw [← packTo_zero zs] at hown1
  obtain ⟨M, hM⟩ : ∃ M, M = (zs.length + 7) / 8 := ⟨_, rfl⟩
  rw [← hM] at hown1 ⊢
  have hM1 : M ≤ 513 := by omega
  have hM2 : zs.length ≤ 8 * M := by omega
  have HM : Hid (M = (zs.length + 7) / 8) := hM
  clear hM
  go_wp2
  go_loopw [20] (fun i wr => ∃ k : Nat, k ≤ zs.length ∧ i = .int .i64 k ∧ Own wr w.heap.size (.slice (some ⟨w.heap.size, 0, none⟩) M M) (packTo zs k) ∧ Below w.heap.size w wr) (fun i _ => zs.length - (intOf i).toNat)
  case atStart => exact ⟨0, Nat.zero_le _, rfl, hown1, hbel1⟩
  case round =>
    clear hown1 hbel1
    obtain ⟨k, hk, rfl, hown, hbel⟩ := hrel
    by_cases hlt : k < zs.length
    · have hll : (packTo zs k).length = M := hown.len
      have hk8 : k / 8 < M := by omega
      have hc := hown.cell (i := k / 8) (by omega)
      rw [packTo_getD zs k (k / 8) (by rw [← HM.out]; exact hk8)] at hc
      have hf := hown.free (k / 8)
      obtain ⟨b1, o1, rfl, hc1⟩ := (ha.below hbel).at hlt
      have g1 := hc1 k hlt
      clear hc1 hll
      have hor := or_step zs k hb _ _ rfl rfl
      obtain ⟨p, hp⟩ : ∃ p, p = byteTo zs k (k / 8) := ⟨_, rfl⟩
      obtain ⟨x, hx⟩ : ∃ x, x = zs.getD k 0 := ⟨_, rfl⟩
      have hx01 := hb k
      rw [← hp] at hc hor
      rw [← hx] at g1 hor hx01
      obtain ⟨hp0, hp1, hq0, hq1, hor'⟩ := hor
      have HOR : Hid (bits .or .u8 p (x * 2 ^ (7 - k % 8)) = byteTo zs (k + 1) (k / 8)) := hor'
      have hk8' : (k : Int) / 8 < M := by omega
      clear hp hx hor'
      go_wp2
      go_region
      go_wp2
      go_roundw
      case rel => exact ⟨k + 1, by omega, by go_num, (packTo_set zs k _ HOR.out ▸ hown.set (k / 8) _).drew, (hbel.setCell (Nat.le_refl _) _).drew⟩
      case measure => simp [intOf]; omega
    · obtain rfl : k = zs.length := by omega
      rw [packTo_all] at hown
      have hcv := conv_rd hown.rd M
      rw [hown.len] at hcv
      go_wp2
      go_ret2
      exact ⟨rfl, hbel⟩
end Go.Proofs.YtdndeegpbjlibadGreatDoor
