import Derived.Test.YtbmdjfolfmgmmagK02
import Derived.Test.YtbmdjfolfmgmmagK01
namespace Go.Proofs.Ytbmdjfolfmgmmag
def newX (r : Nat) : Nat := (r / 8 ^^^ r) % 2
def newY (r : Nat) : Nat := (r / 8 ^^^ r / 4 ^^^ r / 2 ^^^ r) % 2
def stepX (r : Nat) : Nat := r / 2 ||| newX r * 2 ^ 30
def stepY (r : Nat) : Nat := r / 2 ||| newY r * 2 ^ 30
def regX : Nat → Nat
  | 0 => 1
  | t + 1 => stepX (regX t)
def regY (s : Nat) : Nat → Nat
  | 0 => s
  | t + 1 => stepY (regY s t)
theorem testBit_zero' (x : Nat) : x.testBit 0 = decide (x % 2 = 1) := by simp [Nat.testBit_zero]
theorem mod_two_bit (x : Nat) : decide (x % 2 = 1) = x.testBit 0 := (testBit_zero' x).symm
theorem div_bit (r e j : Nat) : (r / 2 ^ e).testBit j = r.testBit (e + j) := by
  rw [Nat.testBit_div_two_pow, Nat.add_comm]
theorem newX_bit (r : Nat) : decide (newX r = 1) = (r.testBit 3 ^^ r.testBit 0) := by
  unfold newX
  rw [mod_two_bit, Nat.testBit_xor, show (8 : Nat) = 2 ^ 3 from rfl, div_bit]
theorem newY_bit (r : Nat) : decide (newY r = 1) = (((r.testBit 3 ^^ r.testBit 2) ^^ r.testBit 1) ^^ r.testBit 0) := by
  unfold newY
  rw [mod_two_bit, Nat.testBit_xor, Nat.testBit_xor, Nat.testBit_xor, show (8 : Nat) = 2 ^ 3 from rfl, show (4 : Nat) = 2 ^ 2 from rfl, div_bit, div_bit]
  have : (r / 2).testBit 0 = r.testBit 1 := by
    have := div_bit r 1 0
    simpa using this
  rw [this]
theorem push_bit (r x : Nat) (hr : r < 2 ^ 31) (hx : x ≤ 1) (j : Nat) : (r / 2 ||| x * 2 ^ 30).testBit j = if j < 30 then r.testBit (j + 1) else (decide (j = 30) && decide (x = 1)) := by
  rw [Nat.testBit_or, testBit_up x 30 j hx]
  have h1 : (r / 2).testBit j = r.testBit (j + 1) := by
    have := div_bit r 1 j
    rw [Nat.add_comm] at this
    simpa using this
  rw [h1]
  by_cases hj : j < 30
  · rw [if_pos hj]
    have : decide (j = 30) = false := by simp; omega
    rw [this]; simp
  · rw [if_neg hj]
    have : r.testBit (j + 1) = false := Nat.testBit_lt_two_pow (Nat.lt_of_lt_of_le hr (Nat.pow_le_pow_right (by decide) (by omega)))
    rw [this]; simp
theorem push_lt (r x : Nat) (hr : r < 2 ^ 31) (hx : x ≤ 1) : (r / 2 ||| x * 2 ^ 30) < 2 ^ 31 := by
  apply Nat.or_lt_two_pow
  · omega
  · rcases (show x = 0 ∨ x = 1 by omega) with rfl | rfl <;> decide
theorem regX_lt : ∀ t, regX t < 2 ^ 31
  | 0 => by decide
  | t + 1 => push_lt _ _ (regX_lt t) (by unfold newX; omega)
theorem regY_lt (s : Nat) (hs : s < 2 ^ 31) : ∀ t, regY s t < 2 ^ 31
  | 0 => hs
  | t + 1 => push_lt _ _ (regY_lt s hs t) (by unfold newY; omega)
def bitX (t : Nat) : Bool := (regX t).testBit 0
def bitY (s t : Nat) : Bool := (regY s t).testBit 0
theorem regX_bit : ∀ j t, j ≤ 30 → (regX t).testBit j = bitX (t + j)
  | 0, t, _ => rfl
  | j + 1, t, h => by
    have := regX_bit j (t + 1) (by omega)
    rw [show t + (j + 1) = t + 1 + j from by omega, ← this]
    show _ = (stepX (regX t)).testBit j
    unfold stepX
    rw [push_bit _ _ (regX_lt t) (by unfold newX; omega), if_pos (by omega)]
theorem regY_bit (s : Nat) (hs : s < 2 ^ 31) : ∀ j t, j ≤ 30 → (regY s t).testBit j = bitY s (t + j)
  | 0, t, _ => rfl
  | j + 1, t, h => by
    have := regY_bit s hs j (t + 1) (by omega)
    rw [show t + (j + 1) = t + 1 + j from by omega, ← this]
    show _ = (stepY (regY s t)).testBit j
    unfold stepY
    rw [push_bit _ _ (regY_lt s hs t) (by unfold newY; omega), if_pos (by omega)]
theorem bitX_rec (t : Nat) : bitX (t + 31) = (bitX (t + 3) ^^ bitX t) := by
  have h := regX_bit 30 (t + 1) (by omega)
  rw [show t + 1 + 30 = t + 31 from by omega] at h
  rw [← h]
  show (stepX (regX t)).testBit 30 = _
  unfold stepX
  rw [push_bit _ _ (regX_lt t) (by unfold newX; omega), if_neg (by omega), newX_bit, regX_bit 3 t (by omega), regX_bit 0 t (by omega)]
  simp
theorem bitY_rec (s : Nat) (hs : s < 2 ^ 31) (t : Nat) : bitY s (t + 31) = (((bitY s (t + 3) ^^ bitY s (t + 2)) ^^ bitY s (t + 1)) ^^ bitY s t) := by
  have h := regY_bit s hs 30 (t + 1) (by omega)
  rw [show t + 1 + 30 = t + 31 from by omega] at h
  rw [← h]
  show (stepY (regY s t)).testBit 30 = _
  unfold stepY
  rw [push_bit _ _ (regY_lt s hs t) (by unfold newY; omega), if_neg (by omega), newY_bit, regY_bit s hs 3 t (by omega), regY_bit s hs 2 t (by omega), regY_bit s hs 1 t (by omega), regY_bit s hs 0 t (by omega)]
  simp
theorem bitX_first (j : Nat) (h : j ≤ 30) : bitX j = decide (j = 0) := by
  have := regX_bit j 0 h
  rw [Nat.zero_add] at this
  rw [← this]
  show (1 : Nat).testBit j = _
  cases j with
  | zero => rfl
  | succ j => simp [Nat.testBit_succ]
theorem bitY_first (s : Nat) (hs : s < 2 ^ 31) (j : Nat) (h : j ≤ 30) : bitY s j = s.testBit j := by
  have := regY_bit s hs j 0 h
  rw [Nat.zero_add] at this
  exact this.symm
/-- The noise. -/
def noiseAt (s i : Nat) : Int := b2i (bitX (1600 + i) ^^ bitY s (1600 + i))
def noiseTo (s n : Nat) : List Int := (List.range n).map (noiseAt s)
theorem noiseTo_length (s n : Nat) : (noiseTo s n).length = n := by simp [noiseTo]
theorem noiseTo_succ (s n : Nat) : noiseTo s (n + 1) = noiseTo s n ++ [noiseAt s n] := by simp [noiseTo, List.range_succ]
/-- A row that is filled up to place k. -/
def fillTo (f : Nat → Bool) (k N : Nat) : List Int := (List.range N).map fun j => if j < k then b2i (f j) else 0
theorem fillTo_length (f : Nat → Bool) (k N : Nat) : (fillTo f k N).length = N := by simp [fillTo]
theorem fillTo_getD (f : Nat → Bool) (k N j : Nat) (h : j < N) (hk : j < k) : (fillTo f k N).getD j 0 = b2i (f j) := by simp [fillTo, List.getD, h, hk]
theorem fillTo_set (f : Nat → Bool) (k N : Nat) (x : Int) (hx : x = b2i (f k)) : (fillTo f k N).set k x = fillTo f (k + 1) N := by
  refine List.ext_getElem (by simp [fillTo]) fun j h1 h2 => ?_
  rw [List.getElem_set]
  split
  · rename_i e
    subst e
    simp [fillTo, hx]
  · rename_i e
    simp only [fillTo, List.getElem_map, List.getElem_range]
    by_cases hj : j < k
    · rw [if_pos hj, if_pos (by omega)]
    · rw [if_neg hj, if_neg (by omega)]
theorem fillTo_zero (f : Nat → Bool) (N : Nat) : fillTo f 0 N = List.replicate N 0 := by
  rw [List.eq_replicate_iff]
  refine ⟨fillTo_length _ _ _, fun x hx => ?_⟩
  obtain ⟨j, _, rfl⟩ := List.mem_map.1 hx
  simp
theorem fillTo_first (N : Nat) : (List.replicate N (0 : Int)).set 0 1 = fillTo bitX 31 N := by
  refine List.ext_getElem (by simp [fillTo]) fun j h1 h2 => ?_
  simp only [fillTo, List.getElem_map, List.getElem_range]
  rw [List.getElem_set, List.getElem_replicate]
  by_cases hj : j < 31
  · rw [if_pos hj, bitX_first j (by omega)]
    by_cases h0 : j = 0
    · subst h0; rfl
    · rw [if_neg (by omega)]; simp [b2i, h0]
  · rw [if_neg hj, if_neg (by omega)]
theorem add_mod (a b : Bool) : (b2i a + b2i b) % 2 = b2i (a ^^ b) := by cases a <;> cases b <;> rfl
theorem add_mod4 (a b c d : Bool) : (b2i a + b2i b + b2i c + b2i d) % 2 = b2i (((a ^^ b) ^^ c) ^^ d) := by cases a <;> cases b <;> cases c <;> cases d <;> rfl
end Go.Proofs.Ytbmdjfolfmgmmag
namespace Go.Proofs.Ytbmdjfolfmgmmag
open Go.ChangeShapes Go.WideShapes Go.ChangeAt Go.RowKit
set_option maxHeartbeats 400000 in
theorem check_any (zs : List Int) (a : Option Addr) (c : Nat) (w : World) (ha : Rd .u8 w a zs) (hz : zs.length ≤ maxLen) :
    Calls Try.prog 49 #[.slice a zs.length c] w fun e w' => e = .returned (.int .i64 (errOf zs)) ∧ w = w' := by
  unfold maxLen at hz
  go_enter Try.func49, Try.ntmps49
  go_wp2
  go_loop [7] (fun i => ∃ k : Nat, k ≤ zs.length ∧ i = .int .i64 k ∧ Hid (Okay zs k)) (fun i => zs.length - (intOf i).toNat)
  case atStart => exact ⟨0, Nat.zero_le _, rfl, fun j hj => by omega⟩
  case round =>
    obtain ⟨k, hk, rfl, hok⟩ := hrel
    by_cases hlt : k < zs.length
    · obtain ⟨b1, o1, rfl, hc1⟩ := ha.at hlt
      have g1 := hc1 k hlt
      clear hc1
      obtain ⟨x, hx⟩ : ∃ x, x = zs.getD k 0 := ⟨_, rfl⟩
      rw [← hx] at g1
      have HX : Hid (x = zs.getD k 0) := hx
      clear hx
      by_cases h1 : x ≤ 1
      · go_wp2
        go_round
        case rel => exact ⟨k + 1, by omega, by go_num, hok.out.succ (HX.out ▸ h1)⟩
        case measure => simp [intOf]; omega
      · go_wp2
        go_ret
        exact ⟨ret_int (err_bad (k := k) (by rw [← HX.out]; omega)).symm, rfl⟩
    · have hkl : k = zs.length := by omega
      subst hkl
      by_cases hl : 4096 < zs.length
      · go_wp2
        go_ret
        exact ⟨ret_int (err_long hok.out hl).symm, rfl⟩
      · go_wp2
        go_ret
        exact ⟨ret_int (err_none hok.out hl).symm, rfl⟩
end Go.Proofs.Ytbmdjfolfmgmmag
namespace Go.Proofs.Ytbmdjfolfmgmmag
open Go.ChangeShapes Go.WideShapes Go.ChangeAt Go.RowKit
theorem and1_int (a : Nat) (ha : a < 4294967296) : bits .and .u32 (a : Int) 1 = ((a % 2 : Nat) : Int) := by
  rw [show (1 : Int) = ((1 : Nat) : Int) from rfl, u32_and_nat _ _ ha (by decide), Nat.and_one_is_mod]
theorem or_int (a b : Nat) (ha : a < 2147483648) (hb : b ≤ 1) : bits .or .u32 (a : Int) ((b : Int) * 1073741824 % 4294967296) = ((a ||| b * 2 ^ 30 : Nat) : Int) := by
  have e : (b : Int) * 1073741824 % 4294967296 = ((b * 2 ^ 30 : Nat) : Int) := by omega
  rw [e, u32_or_nat _ _ (by omega) (by omega)]
theorem stepX_int (x : Nat) (hx : x < 2147483648) : bits .or .u32 ((x : Int) / 2) (bits .and .u32 (bits .xor .u32 ((x : Int) / 8) x) 1 * 1073741824 % 4294967296) = ((stepX x : Nat) : Int) := by
  have h1 : x / 8 ^^^ x < 2 ^ 32 := Nat.xor_lt_two_pow (by omega) (by omega)
  rw [show (x : Int) / 8 = ((x / 8 : Nat) : Int) from by omega, show (x : Int) / 2 = ((x / 2 : Nat) : Int) from by omega, u32_xor_nat _ _ (by omega) (by omega), and1_int _ h1, or_int _ _ (by omega) (by omega)]
  rfl
theorem stepY_int (y : Nat) (hy : y < 2147483648) : bits .or .u32 ((y : Int) / 2) (bits .and .u32 (bits .xor .u32 (bits .xor .u32 (bits .xor .u32 ((y : Int) / 8) ((y : Int) / 4)) ((y : Int) / 2)) y) 1 * 1073741824 % 4294967296) = ((stepY y : Nat) : Int) := by
  have h1 : y / 8 ^^^ y / 4 < 2 ^ 32 := Nat.xor_lt_two_pow (by omega) (by omega)
  have h2 : y / 8 ^^^ y / 4 ^^^ y / 2 < 2 ^ 32 := Nat.xor_lt_two_pow h1 (by omega)
  have h3 : y / 8 ^^^ y / 4 ^^^ y / 2 ^^^ y < 2 ^ 32 := Nat.xor_lt_two_pow h2 (by omega)
  rw [show (y : Int) / 8 = ((y / 8 : Nat) : Int) from by omega, show (y : Int) / 4 = ((y / 4 : Nat) : Int) from by omega, show (y : Int) / 2 = ((y / 2 : Nat) : Int) from by omega, u32_xor_nat _ _ (by omega) (by omega), u32_xor_nat _ _ h1 (by omega), u32_xor_nat _ _ h2 (by omega), and1_int _ h3, or_int _ _ (by omega) (by omega)]
  rfl
theorem ret_two {k : IntKind} {a b c d : Int} (h : a = c) (h' : b = d) : Ending.returned (.tuple #[.int k a, .int k b]) = .returned (.tuple #[.int k c, .int k d]) := by rw [h, h']
set_option maxHeartbeats 400000 in
theorem step_any (x y : Nat) (w : World) (hx : x < 2147483648) (hy : y < 2147483648) :
    Calls Try.prog 59 #[.int .u32 x, .int .u32 y] w fun e w' => e = .returned (.tuple #[.int .u32 (stepX x : Nat), .int .u32 (stepY y : Nat)]) ∧ w = w' := by
  go_enter Try.func59, Try.ntmps59
  go_wp2
  go_ret2
  exact ⟨ret_two (stepX_int x hx) (stepY_int y hy), rfl⟩
theorem noise_int (x y : Nat) (hx : x < 2147483648) (hy : y < 2147483648) : bits .and .u32 (bits .xor .u32 (x : Int) y) 1 % 256 = b2i (x.testBit 0 ^^ y.testBit 0) := by
  have h1 : x ^^^ y < 2 ^ 32 := Nat.xor_lt_two_pow (by omega) (by omega)
  rw [u32_xor_nat _ _ (by omega) (by omega), and1_int _ h1, ← Nat.testBit_xor, testBit_zero']
  have : (x ^^^ y) % 2 = 0 ∨ (x ^^^ y) % 2 = 1 := by omega
  rcases this with h | h <;> simp [h, b2i]
theorem noise_set (s n k rx ry : Nat) (hk : k < n) (hrx : rx < 2147483648) (hry : ry < 2147483648) (h : rx = regX (1600 + k) ∧ ry = regY s (1600 + k)) :
    (noiseTo s k ++ List.replicate (n - k) 0).set k (bits .and .u32 (bits .xor .u32 (rx : Int) ry) 1 % 256) = noiseTo s (k + 1) ++ List.replicate (n - (k + 1)) 0 := by
  rw [show n - k = (n - (k + 1)) + 1 from by omega, set_fill _ _ _ _ (noiseTo_length s k), noiseTo_succ, noise_int rx ry hrx hry, h.1, h.2]
  rfl
set_option maxRecDepth 100000 in
set_option maxHeartbeats 1000000 in
theorem noise_ok (s n : Nat) (w : World) (hs : s < 2147483648) (hn : n ≤ 4096) :
    Calls Try.prog 50 #[.int .i64 s, .int .i64 n] w fun e w' => ∃ v, e = .returned (.tuple #[v, .int .i64 0]) ∧ Own w' w.heap.size v (noiseTo s n) ∧ Below w.heap.size w w' := by
  have d1 : decide ((s : Int) < 0) = false := by simp
  have d2 : decide (2147483647 < (s : Int)) = false := by simp; omega
  have d3 : decide ((n : Int) < 0) = false := by simp
  have d4 : decide (4096 < (n : Int)) = false := by simp; omega
  go_enter Try.func50, Try.ntmps50
  go_wp2
  go_loop [6, 7, 26] (fun x y i => ∃ t rx ry : Nat, t ≤ 1600 ∧ i = .int .i64 t ∧ x = .int .u32 rx ∧ y = .int .u32 ry ∧ rx < 2147483648 ∧ ry < 2147483648 ∧ Hid (rx = regX t ∧ ry = regY s t)) (fun _ _ i => 1600 - (intOf i).toNat)
  case atStart => exact ⟨0, 1, s, by omega, rfl, rfl, by go_num, by omega, hs, rfl, rfl⟩
  case round =>
    obtain ⟨t, rx, ry, ht, rfl, rfl, rfl, hrx, hry, HR⟩ := hrel
    by_cases hlt : t < 1600
    · go_wp2_with (go_at_call 59; refine (step_any rx ry _ hrx hry).mono ?_; rintro e w' ⟨rfl, rfl⟩)
      go_round
      case rel => exact ⟨t + 1, _, _, by omega, by go_num, rfl, rfl, by have := regX_lt (t + 1); rw [HR.out.1]; exact this, by have := regY_lt s hs (t + 1); rw [HR.out.2]; exact this, by rw [HR.out.1, HR.out.2]; exact ⟨rfl, rfl⟩⟩
      case measure => simp [intOf]; omega
    · have HR0 : Hid (rx = regX (1600 + 0) ∧ ry = regY s (1600 + 0)) := by
        have e : t = 1600 + 0 := by omega
        rw [← e]; exact HR
      clear HR
      go_wp2_with (at_make; refine wpList_makeBytes w.heap.size w n rfl _ _ rfl _ _ rfl rfl rfl rfl (by omega) (Below.refl _ _) (Nat.le_refl _) ?_)
      intro w1 hown1 hbel1 hsz1
      go_wp2
      go_loopw [6, 7, 39] (fun x y i wr => ∃ k rx ry : Nat, k ≤ n ∧ i = .int .i64 k ∧ x = .int .u32 rx ∧ y = .int .u32 ry ∧ rx < 2147483648 ∧ ry < 2147483648 ∧ Hid (rx = regX (1600 + k) ∧ ry = regY s (1600 + k)) ∧ Own wr w.heap.size (.slice (some ⟨w.heap.size, 0, none⟩) n n) (noiseTo s k ++ List.replicate (n - k) 0) ∧ Below w.heap.size w wr) (fun _ _ i _ => n - (intOf i).toNat)
      case atStart => exact ⟨0, rx, ry, by omega, rfl, rfl, rfl, hrx, hry, HR0, hown1, hbel1⟩
      case round =>
        clear hown1 hbel1 HR0 hrx hry
        obtain ⟨k, rx, ry, hk, rfl, rfl, rfl, hrx, hry, HR, hown, hbel⟩ := hrel
        by_cases hlt : k < n
        · have hll : (noiseTo s k ++ List.replicate (n - k) 0).length = n := hown.len
          have hc := hown.cell (i := k) (by omega)
          have hf := hown.free k
          clear hll
          go_wp2_with (go_at_call 59; refine (step_any rx ry _ hrx hry).mono ?_; rintro e w' ⟨rfl, rfl⟩)
          go_roundw
          case rel => exact ⟨k + 1, _, _, by omega, by go_num, rfl, rfl, by have := regX_lt (1600 + k + 1); rw [HR.out.1]; exact this, by have := regY_lt s hs (1600 + k + 1); rw [HR.out.2]; exact this, by rw [HR.out.1, HR.out.2]; exact ⟨rfl, rfl⟩, noise_set s n k rx ry hlt hrx hry HR.out ▸ hown.set k _, hbel.setCell (Nat.le_refl _) _⟩
          case measure => simp [intOf]; omega
        · go_wp2
          go_ret2
          obtain rfl : k = n := by omega
          rw [Nat.sub_self, List.replicate_zero, List.append_nil] at hown
          exact ⟨_, rfl, hown, hbel⟩
end Go.Proofs.Ytbmdjfolfmgmmag
namespace Go.Proofs.Ytbmdjfolfmgmmag
open Go.ChangeShapes Go.WideShapes Go.ChangeAt Go.RowKit
/-- A row of noise, its first k places covered. -/
def coverTo (zs ns : List Int) (k : Nat) : List Int := (List.range ns.length).map fun j => if j < k then (zs.getD j 0 + ns.getD j 0) % 2 else ns.getD j 0
theorem coverTo_zero (zs ns : List Int) : coverTo zs ns 0 = ns := by
  refine List.ext_getElem (by simp [coverTo]) fun j h1 h2 => ?_
  simp [coverTo, List.getD, h2]
theorem coverTo_all (zs ns : List Int) : coverTo zs ns ns.length = addTo zs ns ns.length := by
  unfold coverTo addTo
  refine List.map_congr_left fun j hj => ?_
  rw [if_pos (List.mem_range.1 hj)]
theorem coverTo_getD (zs ns : List Int) (k : Nat) (h : k < ns.length) : (coverTo zs ns k).getD k 0 = ns.getD k 0 := by simp [coverTo, List.getD, h]
theorem coverTo_set (zs ns : List Int) (k : Nat) (x : Int) (hx : x = (zs.getD k 0 + ns.getD k 0) % 2) : (coverTo zs ns k).set k x = coverTo zs ns (k + 1) := by
  refine List.ext_getElem (by simp [coverTo]) fun j h1 h2 => ?_
  rw [List.getElem_set]
  split
  · rename_i e
    subst e
    simp only [coverTo, List.getElem_map, List.getElem_range]
    rw [if_pos (by omega), hx]
  · rename_i e
    simp only [coverTo, List.getElem_map, List.getElem_range]
    by_cases hj : j < k
    · rw [if_pos hj, if_pos (by omega)]
    · rw [if_neg hj, if_neg (by omega)]
theorem xor_bits (a b : Int) (ha : 0 ≤ a ∧ a ≤ 1) (hb : 0 ≤ b ∧ b ≤ 1) : bits .xor .u8 a b = (b + a) % 2 := by
  rcases (show a = 0 ∨ a = 1 by omega) with rfl | rfl <;> rcases (show b = 0 ∨ b = 1 by omega) with rfl | rfl <;> decide
theorem noise_bits (s n : Nat) : Bits (noiseTo s n) := fun k => by
  by_cases h : k < n
  · have : (noiseTo s n).getD k 0 = noiseAt s k := by simp [noiseTo, List.getD, h]
    rw [this]; exact b2i_bd _
  · have : (noiseTo s n).getD k 0 = 0 := by simp [noiseTo, List.getD, h]
    rw [this]; omega
set_option maxRecDepth 100000 in
set_option maxHeartbeats 1000000 in
theorem cover_ok (zs : List Int) (s : Nat) (a : Option Addr) (c : Nat) (w : World) (ha : Rd .u8 w a zs) (hb : Bits zs) (he : errOf zs = 0) (hs : s < 2147483648) :
    Calls Try.prog 36 #[.slice a zs.length c, .int .i64 s] w fun e w' => ∃ v, e = .returned (.tuple #[v, .int .i64 0]) ∧ Own w' w.heap.size v (addTo zs (noiseTo s zs.length) zs.length) ∧ Below w.heap.size w w' := by
  have hz := (err_zero he).2
  have HE := hid he
  have hnb := noise_bits s zs.length
  have HNL := hid (noiseTo_length s zs.length)
  clear he
  go_enter Try.func36, Try.ntmps36
  go_wp2_with fail
  refine (check_any zs a c _ ha (by unfold maxLen; omega)).mono ?_
  rintro e w1 ⟨rfl, rfl⟩
  rw [HE.out]
  go_wp2_with fail
  refine (noise_ok s zs.length _ hs hz).mono ?_
  rintro e w1 ⟨v1, rfl, hown1, hb1⟩
  obtain ⟨a1, c1, rfl, hne1, -⟩ := hown1.shape
  rw [HNL.out]
  rw [HNL.out, ← coverTo_zero zs (noiseTo s zs.length)] at hown1
  have ha1 := ha.below hb1
  generalize hns : noiseTo s zs.length = ns at *
  have HNS := hid hns
  clear hns
  go_wp2
  go_loopw [28] (fun i wr => ∃ k : Nat, k ≤ zs.length ∧ i = .int .i64 k ∧ Own wr w.heap.size (.slice a1 zs.length c1) (coverTo zs ns k) ∧ Below w.heap.size w wr) (fun i _ => zs.length - (intOf i).toNat)
  case atStart => exact ⟨0, Nat.zero_le _, rfl, hown1, hb1⟩
  case round =>
    clear hown1
    obtain ⟨k, hk, rfl, hown, hbel⟩ := hrel
    by_cases hlt : k < zs.length
    · obtain ⟨g, rfl⟩ := hne1 (by intro e; have := HNL.out; rw [e] at this; simp at this; omega)
      obtain ⟨b2, o2, rfl, hc2⟩ := (ha.below hbel).at hlt
      have g2 := hc2 k hlt
      have hll : (coverTo zs ns k).length = zs.length := hown.len
      have hc := hown.cell (i := k) (by omega)
      rw [coverTo_getD zs ns k (by rw [HNL.out]; exact hlt)] at hc
      have hf := hown.free k
      have bx := hb k
      have bn := hnb k
      clear hll hc2
      obtain ⟨x, ex⟩ : ∃ x, x = zs.getD k 0 := ⟨_, rfl⟩
      obtain ⟨y, ey⟩ : ∃ y, y = ns.getD k 0 := ⟨_, rfl⟩
      rw [← ex] at g2 bx
      rw [← ey] at hc bn
      have EX := hid ex
      have EY := hid ey
      clear ex ey
      go_wp2
      have hset := coverTo_set zs ns k (bits .xor .u8 y x) (by rw [xor_bits y x bn bx, ← EX.out, ← EY.out])
      go_roundw
      case rel => exact ⟨k + 1, by omega, by go_num, hset ▸ hown.set k _, hbel.setCell hown.block.1 _⟩
      case measure => simp [intOf]; omega
    · go_wp2
      go_ret2
      obtain rfl : k = zs.length := by omega
      refine ⟨_, rfl, ?_, hbel⟩
      have e1 : ns.length = zs.length := HNL.out
      have e2 := coverTo_all zs ns
      rw [e1] at e2
      rw [e2] at hown
      rw [HNS.out]
      exact hown
end Go.Proofs.Ytbmdjfolfmgmmag
