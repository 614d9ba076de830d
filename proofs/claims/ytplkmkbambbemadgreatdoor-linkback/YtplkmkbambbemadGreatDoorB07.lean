import Derived.Test.YtplkmkbambbemadGreatDoorB03
import Derived.Test.YtplkmkbambbemadGreatDoorB01
import Derived.Test.YtplkmkbambbemadGreatDoorB02
import Derived.Test.YtplkmkbambbemadGreatDoorB06
import Derived.RangeFuncBox
namespace Go.Proofs.YtplkmkbambbemadGreatDoor
open Go.ChangeShapes Go.WideShapes Go.ChangeAt Go.RowKit
theorem and1_int (a : Nat) (ha : a < 4294967296) : bits .and .u32 (a : Int) 1 = ((a % 2 : Nat) : Int) := by
  rw [show (1 : Int) = ((1 : Nat) : Int) from rfl, u32_and_nat _ _ ha (by decide), Nat.and_one_is_mod]
theorem or_int (a b : Nat) (ha : a < 2147483648) (hb : b ≤ 1) : bits .or .u32 (a : Int) ((b : Int) * 1073741824 % 4294967296) = ((a ||| b * 2 ^ 30 : Nat) : Int) := by
  have e : (b : Int) * 1073741824 % 4294967296 = ((b * 2 ^ 30 : Nat) : Int) := by omega
  rw [e, u32_or_nat _ _ (by omega) (by omega)]
theorem stepX_int (x : Nat) (hx : x < 2147483648) : bits .or .u32 ((x : Int) / 2) (bits .and .u32 (bits .xor .u32 ((x : Int) / 8) x) 1 * 1073741824 % 4294967296) = ((stepX x : Nat) : Int) := by
  have h1 : x / 8 ^^^ x < 2 ^ 32 := Nat.xor_lt_two_pow (by omega) (by omega)
  rw [show (x : Int) / 8 = ((x / 8 : Nat) : Int) from by omega, show (x : Int) / 2 = ((x / 2 : Nat) : Int) from by omega, u32_xor_nat _ _ (by omega) (by omega), and1_int _ h1, or_int _ _ (by omega) (by omega)]
  rfl
theorem stepY_int (y : Nat) (hy : y < 2147483648) : bits .or .u32 ((y : Int) / 2) (bits .and .u32 (bits .xor .u32 (bits .xor .u32 (bits .xor .u32 ((y : Int) / 8) ((y : Int) / 4)) ((y : Int) / 2)) y) 1 * 1073741824 % 4294967296) = ((stepY y : Nat) : Int) := by
  have h1 : y / 8 ^^^ y / 4 < 2 ^ 32 := Nat.xor_lt_two_pow (by omega) (by omega)
  have h2 : y / 8 ^^^ y / 4 ^^^ y / 2 < 2 ^ 32 := Nat.xor_lt_two_pow h1 (by omega)
  have h3 : y / 8 ^^^ y / 4 ^^^ y / 2 ^^^ y < 2 ^ 32 := Nat.xor_lt_two_pow h2 (by omega)
  rw [show (y : Int) / 8 = ((y / 8 : Nat) : Int) from by omega, show (y : Int) / 4 = ((y / 4 : Nat) : Int) from by omega, show (y : Int) / 2 = ((y / 2 : Nat) : Int) from by omega, u32_xor_nat _ _ (by omega) (by omega), u32_xor_nat _ _ h1 (by omega), u32_xor_nat _ _ h2 (by omega), and1_int _ h3, or_int _ _ (by omega) (by omega)]
  rfl
theorem ret_two {k : IntKind} {a b c d : Int} (h : a = c) (h' : b = d) : Ending.returned (.tuple #[.int k a, .int k b]) = .returned (.tuple #[.int k c, .int k d]) := by rw [h, h']
set_option maxHeartbeats 400000 in
theorem step_any (x y : Nat) (w : World) (hx : x < 2147483648) (hy : y < 2147483648) :
    Calls Tryz.prog 92 #[.int .u32 x, .int .u32 y] w fun e w' => e = .returned (.tuple #[.int .u32 (stepX x : Nat), .int .u32 (stepY y : Nat)]) ∧ w = w' := by
  go_enter Tryz.func92, Tryz.ntmps92
  go_wp2
  go_ret2
  exact ⟨ret_two (stepX_int x hx) (stepY_int y hy), rfl⟩
theorem noise_int (x y : Nat) (hx : x < 2147483648) (hy : y < 2147483648) : bits .and .u32 (bits .xor .u32 (x : Int) y) 1 % 256 = b2i (x.testBit 0 ^^ y.testBit 0) := by
  have h1 : x ^^^ y < 2 ^ 32 := Nat.xor_lt_two_pow (by omega) (by omega)
  rw [u32_xor_nat _ _ (by omega) (by omega), and1_int _ h1, ← Nat.testBit_xor, testBit_zero']
  have : (x ^^^ y) % 2 = 0 ∨ (x ^^^ y) % 2 = 1 := by omega
  rcases this with h | h <;> simp [h, b2i]
/-- Is a seed right, and a length? -/
def seedOk (s : Int) : Bool := decide (0 ≤ s ∧ s ≤ 2147483647)
def noiseOk (s n : Int) : Bool := seedOk s && decide (0 ≤ n ∧ n ≤ 4096)
set_option maxHeartbeats 1000000 in
theorem noise_bad (s n : Int) (w : World) (h : noiseOk s n = false) :
    Calls Tryz.prog 43 #[.int .i64 s, .int .i64 n] w fun e w' => e = .returned (.tuple #[.slice none 0 0, .int .i64 1]) ∧ w = w' := by
  have h' : s < 0 ∨ 2147483647 < s ∨ n < 0 ∨ 4096 < n := by
    simp [noiseOk, seedOk] at h
    omega
  clear h
  by_cases h1 : s < 0
  · go_enter Tryz.func43, Tryz.ntmps43
    go_wp2
    go_ret2
    exact ⟨rfl, rfl⟩
  · have d1 : decide (s < 0) = false := by simpa using h1
    by_cases h2 : 2147483647 < s
    · go_enter Tryz.func43, Tryz.ntmps43
      go_wp2
      go_ret2
      exact ⟨rfl, rfl⟩
    · have d2 : decide (2147483647 < s) = false := by simpa using h2
      by_cases h3 : n < 0
      · go_enter Tryz.func43, Tryz.ntmps43
        go_wp2
        go_ret2
        exact ⟨rfl, rfl⟩
      · have d3 : decide (n < 0) = false := by simpa using h3
        have h4 : 4096 < n := by omega
        go_enter Tryz.func43, Tryz.ntmps43
        go_wp2
        go_ret2
        exact ⟨rfl, rfl⟩
theorem noise_set (s n k rx ry : Nat) (hk : k < n) (hrx : rx < 2147483648) (hry : ry < 2147483648) (h : rx = regX (1600 + k) ∧ ry = regY s (1600 + k)) :
    (noiseTo s k ++ List.replicate (n - k) 0).set k (bits .and .u32 (bits .xor .u32 (rx : Int) ry) 1 % 256) = noiseTo s (k + 1) ++ List.replicate (n - (k + 1)) 0 := by
  rw [show n - k = (n - (k + 1)) + 1 from by omega, set_fill _ _ _ _ (noiseTo_length s k), noiseTo_succ, noise_int rx ry hrx hry, h.1, h.2]
  rfl
set_option maxRecDepth 100000 in
set_option maxHeartbeats 1000000 in
theorem noise_ok (s n : Nat) (w : World) (hs : s < 2147483648) (hn : n ≤ 4096) :
    Calls Tryz.prog 43 #[.int .i64 s, .int .i64 n] w fun e w' => ∃ v, e = .returned (.tuple #[v, .int .i64 0]) ∧ Own w' w.heap.size v (noiseTo s n) ∧ Below w.heap.size w w' := by
  have d1 : decide ((s : Int) < 0) = false := by simp
  have d2 : decide (2147483647 < (s : Int)) = false := by simp; omega
  have d3 : decide ((n : Int) < 0) = false := by simp
  have d4 : decide (4096 < (n : Int)) = false := by simp; omega
  go_enter Tryz.func43, Tryz.ntmps43
  go_wp2
  go_loop [6, 7, 26] (fun x y i => ∃ t rx ry : Nat, t ≤ 1600 ∧ i = .int .i64 t ∧ x = .int .u32 rx ∧ y = .int .u32 ry ∧ rx < 2147483648 ∧ ry < 2147483648 ∧ Hid (rx = regX t ∧ ry = regY s t)) (fun _ _ i => 1600 - (intOf i).toNat)
  case atStart => exact ⟨0, 1, s, by omega, rfl, rfl, by go_num, by omega, hs, rfl, rfl⟩
  case round =>
    obtain ⟨t, rx, ry, ht, rfl, rfl, rfl, hrx, hry, HR⟩ := hrel
    by_cases hlt : t < 1600
    · go_wp2_with (go_at_call 92; refine (step_any rx ry _ hrx hry).mono ?_; rintro e w' ⟨rfl, rfl⟩)
      go_round
      case rel => exact ⟨t + 1, _, _, by omega, by go_num, rfl, rfl, by have := regX_lt (t + 1); rw [HR.out.1]; exact this, by have := regY_lt s hs (t + 1); rw [HR.out.2]; exact this, by rw [HR.out.1, HR.out.2]; exact ⟨rfl, rfl⟩⟩
      case measure => simp [intOf]; omega
    · have HR0 : Hid (rx = regX (1600 + 0) ∧ ry = regY s (1600 + 0)) := by
        have e : t = 1600 + 0 := by omega
        rw [← e]; exact HR
      clear HR
      go_wp2_with (at_make; refine wpList_makeBytes w.heap.size w n rfl _ _ rfl _ _ rfl rfl rfl rfl (by omega) (Below.refl _ _) (Nat.le_refl _) ?_)
      intro w1 hown1 hbel1 hsz1
      go_wp2
      go_loopw [6, 7, 39] (fun x y i wr => ∃ k rx ry : Nat, k ≤ n ∧ i = .int .i64 k ∧ x = .int .u32 rx ∧ y = .int .u32 ry ∧ rx < 2147483648 ∧ ry < 2147483648 ∧ Hid (rx = regX (1600 + k) ∧ ry = regY s (1600 + k)) ∧ Own wr w.heap.size (.slice (some ⟨w.heap.size, 0, none⟩) n n) (noiseTo s k ++ List.replicate (n - k) 0) ∧ Below w.heap.size w wr) (fun _ _ i _ => n - (intOf i).toNat)
      case atStart => exact ⟨0, rx, ry, by omega, rfl, rfl, rfl, hrx, hry, HR0, hown1, hbel1⟩
      case round =>
        clear hown1 hbel1 HR0 hrx hry
        obtain ⟨k, rx, ry, hk, rfl, rfl, rfl, hrx, hry, HR, hown, hbel⟩ := hrel
        by_cases hlt : k < n
        · have hll : (noiseTo s k ++ List.replicate (n - k) 0).length = n := hown.len
          have hc := hown.cell (i := k) (by omega)
          have hf := hown.free k
          clear hll
          go_wp2_with (go_at_call 92; refine (step_any rx ry _ hrx hry).mono ?_; rintro e w' ⟨rfl, rfl⟩)
          go_roundw
          case rel => exact ⟨k + 1, _, _, by omega, by go_num, rfl, rfl, by have := regX_lt (1600 + k + 1); rw [HR.out.1]; exact this, by have := regY_lt s hs (1600 + k + 1); rw [HR.out.2]; exact this, by rw [HR.out.1, HR.out.2]; exact ⟨rfl, rfl⟩, noise_set s n k rx ry hlt hrx hry HR.out ▸ hown.set k _, hbel.setCell (Nat.le_refl _) _⟩
          case measure => simp [intOf]; omega
        · go_wp2
          go_ret2
          obtain rfl : k = n := by omega
          rw [Nat.sub_self, List.replicate_zero, List.append_nil] at hown
          exact ⟨_, rfl, hown, hbel⟩
end Go.Proofs.YtplkmkbambbemadGreatDoor
namespace Go.Proofs.YtplkmkbambbemadGreatDoor
open Go.ChangeShapes Go.WideShapes Go.ChangeAt Go.RowKit
def bitN (n place : Nat) : Nat := n / 2 ^ place % 2
theorem bitN_or (n place : Nat) : bitN n place = 0 ∨ bitN n place = 1 := by unfold bitN; omega
/-- An axis's level of a number's lowest t bits. -/
def levM (n : Nat) : Nat → Int
  | 0 => 0
  | t + 1 => (1 - 2 * (bitN n t : Int)) * ((2 ^ t : Nat) - levM n t)
def levsM (h : Nat) : List Int := (List.range (2 ^ h)).map fun n => levM n h
/-- A point's bits of one axis as a number. -/
def numM (c : List Int) (axis : Nat) : Nat → Nat
  | 0 => 0
  | t + 1 => 2 * numM c axis t + (c.getD (axis + 2 * t) 0).toNat
def sqM (h : Nat) (x : Int) (n : Nat) : Int := (x - levM n h) * (x - levM n h)
def leastTo (h : Nat) (x : Int) (place bit : Nat) : Nat → Int
  | 0 => 9223372036854775807
  | j + 1 => if bitN j place = bit then min (leastTo h x place bit j) (sqM h x j) else leastTo h x place bit j
def hearM (h : Nat) (x : Int) (place : Nat) : Int := leastTo h x place 1 (2 ^ h) - leastTo h x place 0 (2 ^ h)
def nearA (h : Nat) (x : Int) : Nat → Nat
  | 0 => 0
  | j + 1 => if sqM h x j < sqM h x (nearA h x j) then j else nearA h x j
theorem nearA_lt (h : Nat) (x : Int) : ∀ j, 1 ≤ j → nearA h x j < j
  | 1, _ => by simp [nearA]
  | j + 2, _ => by
    have := nearA_lt h x (j + 1) (by omega)
    rw [nearA]
    split <;> omega
theorem nearA_bd (h : Nat) (x : Int) {j : Nat} (hj : j ≤ 2 ^ h) : nearA h x j < 2 ^ h := by
  by_cases e : j = 0
  · subst e; exact Nat.two_pow_pos h
  · have := nearA_lt h x j (by omega); omega
theorem levM_bd (n : Nat) : ∀ t, t ≤ 3 → -(7 : Int) ≤ levM n t ∧ levM n t ≤ 7
  | 0, _ => by simp [levM]
  | 1, _ => by
    rcases bitN_or n 0 with e | e <;> simp [levM, e]
  | 2, _ => by
    rcases bitN_or n 0 with e | e <;> rcases bitN_or n 1 with e2 | e2 <;> simp [levM, e, e2]
  | 3, _ => by
    rcases bitN_or n 0 with e | e <;> rcases bitN_or n 1 with e2 | e2 <;> rcases bitN_or n 2 with e3 | e3 <;> simp [levM, e, e2, e3]
  | t + 4, h => by omega
theorem sqM_bd {h : Nat} {x : Int} (hh : h ≤ 3) (hx : -1000 ≤ x ∧ x ≤ 1000) (n : Nat) : 0 ≤ sqM h x n ∧ sqM h x n ≤ 4000000 := by
  have h1 := levM_bd n h hh
  have sq : ∀ z : Int, -2000 ≤ z ∧ z ≤ 2000 → 0 ≤ z * z ∧ z * z ≤ 4000000 := fun z hz => by
    have h1 : z * z = (z.natAbs * z.natAbs : Nat) := by rw [Int.natAbs_mul_self]
    have h2 : z.natAbs * z.natAbs ≤ 2000 * 2000 := Nat.mul_le_mul (by omega) (by omega)
    omega
  exact sq _ (by omega)
/-- What the program has gathered of one point behind t pairs of bits. -/
def pairsTo (F G : Nat → Int) (h : Nat) (t : Nat) : List Int := (List.range t).flatMap fun s => [F (h - 1 - s), G (h - 1 - s)]
theorem pairsTo_succ (F G : Nat → Int) (h t : Nat) : pairsTo F G h (t + 1) = pairsTo F G h t ++ [F (h - 1 - t), G (h - 1 - t)] := by
  unfold pairsTo
  rw [List.range_succ, List.flatMap_append]
  simp
end Go.Proofs.YtplkmkbambbemadGreatDoor
namespace Go.Proofs.YtplkmkbambbemadGreatDoor
open Go.ChangeShapes Go.WideShapes Go.ChangeAt Go.RowKit
def ordErr (order : Int) : Int := if ordOk5 order then 0 else 1
theorem ord_any (order : Int) (w : World) :
    Calls Tryz.prog 54 #[.int .i64 order] w fun e w' => e = .returned (.int .i64 (ordErr order)) ∧ w = w' := by
  by_cases o2 : order = 2
  · subst o2
    go_enter Tryz.func54, Tryz.ntmps54
    go_wp2
    go_ret
    exact ⟨rfl, rfl⟩
  · have q2 : (order == 2) = false := by simpa using o2
    by_cases o4 : order = 4
    · subst o4
      go_enter Tryz.func54, Tryz.ntmps54
      go_wp2
      go_ret
      exact ⟨rfl, rfl⟩
    · have q4 : (order == 4) = false := by simpa using o4
      by_cases o6 : order = 6
      · subst o6
        go_enter Tryz.func54, Tryz.ntmps54
        go_wp2
        go_ret
        exact ⟨rfl, rfl⟩
      · have q6 : (order == 6) = false := by simpa using o6
        have HV := hid (show (1 : Int) = ordErr order by unfold ordErr ordOk5; rw [decide_eq_false (by omega)]; rfl)
        clear o2 o4 o6
        go_enter Tryz.func54, Tryz.ntmps54
        go_wp2
        go_ret
        exact ⟨ret_int HV.out, rfl⟩
def farX (x : Int) : Bool := decide (x < -1000 ∨ 1000 < x)
theorem far_any (x : Int) (w : World) :
    Calls Tryz.prog 105 #[.int .i64 x] w fun e w' => e = .returned (.bool (farX x)) ∧ w = w' := by
  by_cases h1 : x < -1000
  · have HV := hid (show true = farX x from (decide_eq_true (Or.inl h1)).symm)
    go_enter Tryz.func105, Tryz.ntmps105
    go_wp2
    go_ret
    exact ⟨ret_boolQ HV.out, rfl⟩
  · have q1 : decide (x < -1000) = false := decide_eq_false h1
    have HV := hid (show decide (1000 < x) = farX x by unfold farX; simp [h1])
    go_enter Tryz.func105, Tryz.ntmps105
    go_wp2
    go_ret
    exact ⟨ret_boolQ HV.out, rfl⟩
theorem square_any (x : Int) (w : World) (hx : -3000 ≤ x ∧ x ≤ 3000) :
    Calls Tryz.prog 106 #[.int .i64 x] w fun e w' => e = .returned (.int .i64 (x * x)) ∧ w = w' := by
  have hsq : 0 ≤ x * x ∧ x * x ≤ 9000000 := by
    have h1 : x * x = (x.natAbs * x.natAbs : Nat) := by rw [Int.natAbs_mul_self]
    have h2 : x.natAbs * x.natAbs ≤ 3000 * 3000 := Nat.mul_le_mul (by omega) (by omega)
    omega
  go_enter Tryz.func106, Tryz.ntmps106
  go_wp2
  go_ret
  exact ⟨rfl, rfl⟩
theorem and1_8 : ∀ q : Fin 8, bits BinOp.and IntKind.i64 (q.val : Int) 1 = ((q.val % 2 : Nat) : Int) := by decide +kernel
theorem and1_at (p k : Nat) (hp : p < 8) : bits BinOp.and IntKind.i64 ((p : Int) / 2 ^ k) 1 = ((bitN p k : Nat) : Int) := by
  have hlt : p / 2 ^ k < 8 := Nat.lt_of_le_of_lt (Nat.div_le_self _ _) hp
  have := and1_8 ⟨p / 2 ^ k, hlt⟩
  unfold bitN
  rw [← this]
  simp
theorem lev_wrap (t y : Nat) (z : Int) (ht : t ≤ 2) (hy : y = 0 ∨ y = 1) (hz : -7 ≤ z ∧ z ≤ 7) : wrap64 ((1 - 2 * (y : Int)) * wrap64 (wrap64 (2 ^ t) - z)) = (1 - 2 * (y : Int)) * (((2 ^ t : Nat) : Int) - z) := by
  have h3 : t = 0 ∨ t = 1 ∨ t = 2 := by omega
  rcases h3 with rfl | rfl | rfl <;> rcases hy with rfl | rfl <;> simp [wrap64] <;> omega
set_option maxHeartbeats 1000000 in
theorem level_any (N h : Nat) (w : World) (hN : N < 8) (hh : h ≤ 3) :
    Calls Tryz.prog 104 #[.int .i64 N, .int .i64 h] w fun e w' => e = .returned (.int .i64 (levM N h)) ∧ w = w' := by
  go_enter Tryz.func104, Tryz.ntmps104
  go_wp2
  go_loop [5, 9] (fun l q => ∃ t : Nat, t ≤ h ∧ l = .int .i64 (levM N t) ∧ q = .int .i64 t) (fun _ q => h - (intOf q).toNat)
  case atStart => exact ⟨0, by omega, rfl, rfl⟩
  case round =>
    obtain ⟨t, ht, rfl, rfl⟩ := hrel
    by_cases hlt : t < h
    · have hA := and1_at N t hN
      have hb := bitN_or N t
      have hl := levM_bd N t (by omega)
      have HL := hid (show levM N (t + 1) = (1 - 2 * (bitN N t : Int)) * ((2 ^ t : Nat) - levM N t) from rfl)
      have HW := hid (lev_wrap t (bitN N t) (levM N t) (by omega) hb hl)
      generalize levM N t = z at *
      generalize bitN N t = y at *
      go_wp2
      go_round
      case rel => exact ⟨t + 1, by omega, by rw [HL.out, ← HW.out], by go_num⟩
      case measure => simp [intOf]; omega
    · obtain rfl : t = h := by omega
      go_wp2
      go_ret
      exact ⟨rfl, rfl⟩
theorem or1_8 : ∀ a : Fin 8, ∀ b : Fin 2, bits BinOp.or IntKind.i64 ((a.val : Int) * 2) (b.val : Int) = ((2 * a.val + b.val : Nat) : Int) := by decide +kernel
theorem numM_bd {c : List Int} (hb : ∀ j, c.getD j 0 = 0 ∨ c.getD j 0 = 1) (axis : Nat) : ∀ t, numM c axis t < 2 ^ t
  | 0 => by simp [numM]
  | t + 1 => by
    have h1 := numM_bd hb axis t
    have h2 := hb (axis + 2 * t)
    rw [numM, Nat.pow_succ]
    rcases h2 with h | h <;> rw [h] <;> simp <;> omega
set_option maxHeartbeats 1000000 in
theorem number_any (c : List Int) (axis h n : Nat) (a : Option Addr) (cap : Nat) (w : World) (hr : Rd .u8 w a c) (hl : c.length = n) (hn : n = 2 * h) (hh : h ≤ 3) (hx : axis ≤ 1) (hb : ∀ j, c.getD j 0 = 0 ∨ c.getD j 0 = 1) :
    Calls Tryz.prog 56 #[.slice a n cap, .int .i64 axis] w fun e w' => e = .returned (.int .i64 (numM c axis h)) ∧ w = w' := by
  have HL := hid hl
  have HN := hid hn
  have hn6 : n ≤ 6 := by omega
  clear hl hn
  go_enter Tryz.func56, Tryz.ntmps56
  go_wp2
  go_loop [5, 6] (fun l q => ∃ t p : Nat, t ≤ h ∧ Hid (p = axis + 2 * t) ∧ p ≤ 7 ∧ l = .int .i64 (numM c axis t) ∧ q = .int .i64 p) (fun _ q => 7 - (intOf q).toNat)
  case atStart => exact ⟨0, axis, by omega, by unfold Hid; omega, by omega, rfl, rfl⟩
  case round =>
    obtain ⟨t, p, ht, HP, hp7, rfl, rfl⟩ := hrel
    by_cases hlt : p < n
    · have hth : t < h := by have := HP.out; have := HN.out; omega
      obtain ⟨b1, o1, rfl, hc1⟩ := hr.at (i := p) (by rw [HL.out]; exact hlt)
      have g1 := hc1 p (by rw [HL.out]; exact hlt)
      have hbd := numM_bd hb axis t
      have hb8 : numM c axis t < 8 := Nat.lt_of_lt_of_le hbd (show 2 ^ t ≤ 2 ^ 3 from Nat.pow_le_pow_right (by omega) (by omega))
      have hbp := hb p
      have HS := hid (show numM c axis (t + 1) = 2 * numM c axis t + (c.getD p 0).toNat by rw [HP.out]; rfl)
      obtain ⟨x, ex⟩ : ∃ x : Nat, c.getD p 0 = (x : Int) := ⟨(c.getD p 0).toNat, by omega⟩
      rw [ex] at g1 hbp HS
      have hx1 : x ≤ 1 := by omega
      obtain ⟨N, eN⟩ : ∃ N, N = numM c axis t := ⟨_, rfl⟩
      rw [← eN] at hb8 HS
      rw [← eN]
      have HO := hid (or1_8 ⟨N, hb8⟩ ⟨x, by omega⟩)
      clear hc1 eN hbp hbd ex
      go_wp2
      go_round
      case rel => exact ⟨t + 1, p + 2, hth, by unfold Hid; have := HP.out; omega, by omega, by rw [HS.out, Int.toNat_natCast]; exact congrArg (Value.int .i64) HO.out, by go_num⟩
      case measure => simp [intOf]; omega
    · have hth : t = h := by have := HP.out; have := HN.out; omega
      subst hth
      go_wp2
      go_ret
      exact ⟨rfl, rfl⟩
end Go.Proofs.YtplkmkbambbemadGreatDoor
namespace Go.Proofs.YtplkmkbambbemadGreatDoor
open Go.ChangeShapes Go.WideShapes Go.ChangeAt Go.RowKit
theorem mustB (v : Value) (w : World) : Calls Tryz.prog 71 #[v, .int .i64 0] w fun e w' => e = .returned v ∧ w = w' := by
  go_enter Tryz.func71, Tryz.ntmps71
  go_wp2
  go_ret
  exact ⟨rfl, rfl⟩
theorem mustP (v : Value) (w : World) : Calls Tryz.prog 73 #[v, .int .i64 0] w fun e w' => e = .returned v ∧ w = w' := by
  go_enter Tryz.func73, Tryz.ntmps73
  go_wp2
  go_ret
  exact ⟨rfl, rfl⟩
theorem mustF (v : Value) (w : World) : Calls Tryz.prog 68 #[v, .int .i64 0] w fun e w' => e = .returned v ∧ w = w' := by
  go_enter Tryz.func68, Tryz.ntmps68
  go_wp2
  go_ret
  exact ⟨rfl, rfl⟩
theorem mustS (v : Value) (w : World) : Calls Tryz.prog 117 #[v, .int .i64 0] w fun e w' => e = .returned v ∧ w = w' := by
  go_enter Tryz.func117, Tryz.ntmps117
  go_wp2
  go_ret
  exact ⟨rfl, rfl⟩
theorem orderFits_any (order : Int) (w : World) : Calls Tryz.prog 62 #[.int .i64 order] w fun e w' => e = .returned (.bool (ordOk5 order)) ∧ w = w' := by
  by_cases o2 : order = 2
  · subst o2
    go_enter Tryz.func62, Tryz.ntmps62
    go_wp2
    go_ret
    exact ⟨rfl, rfl⟩
  · have q2 : (order == 2) = false := by simpa using o2
    by_cases o4 : order = 4
    · subst o4
      go_enter Tryz.func62, Tryz.ntmps62
      go_wp2
      go_ret
      exact ⟨rfl, rfl⟩
    · have q4 : (order == 4) = false := by simpa using o4
      have HV := hid (show (order == 6) = ordOk5 order by unfold ordOk5; by_cases o6 : order = 6 <;> simp [o2, o4, o6])
      clear o2 o4
      go_enter Tryz.func62, Tryz.ntmps62
      go_wp2
      go_ret
      exact ⟨ret_boolQ HV.out, rfl⟩
def fitS (code size : Int) : Bool := decide ((code = 0 ∧ size = 0) ∨ (code = 1 ∧ powI size = true))
theorem and_tab2 (n : Int) (h1 : 1 ≤ n) (h2 : n ≤ 512) : (bits BinOp.and IntKind.i64 n (n - 1) == 0) = powI n := by
  have := and_tab n h1 h2
  cases hp : powI n <;> rw [hp] at this <;> simp at this <;> simp [this]
set_option maxHeartbeats 400000 in
theorem sizeFits_any (code size : Int) (w : World) (hn : I64k size) : Calls Tryz.prog 61 #[.int .i64 code, .int .i64 size] w fun e w' => e = .returned (.bool (fitS code size)) ∧ w = w' := by
  obtain ⟨hn1, hn2⟩ := hn
  by_cases c0 : code = 0
  · subst c0
    have HV := hid (show (size == 0) = fitS 0 size by unfold fitS; by_cases h : size = 0 <;> simp [h])
    go_enter Tryz.func61, Tryz.ntmps61
    go_wp2
    go_ret
    exact ⟨ret_boolQ HV.out, rfl⟩
  · have q0 : (code == 0) = false := by simpa using c0
    by_cases c1 : code = 1
    · subst c1
      by_cases h1 : 1 ≤ size
      · have d1 : decide (1 ≤ size) = true := decide_eq_true h1
        by_cases h2 : size ≤ 512
        · have d2 : decide (size ≤ 512) = true := decide_eq_true h2
          have HV := hid (show (bits BinOp.and IntKind.i64 size (size - 1) == 0) = fitS 1 size by rw [and_tab2 size h1 h2]; unfold fitS; simp)
          go_enter Tryz.func61, Tryz.ntmps61
          go_wp2
          go_ret
          exact ⟨ret_boolQ HV.out, rfl⟩
        · have d2 : decide (size ≤ 512) = false := decide_eq_false h2
          have HV := hid (show false = fitS 1 size by unfold fitS powI; symm; apply decide_eq_false; simp; omega)
          go_enter Tryz.func61, Tryz.ntmps61
          go_wp2
          go_ret
          exact ⟨ret_boolQ HV.out, rfl⟩
      · have d1 : decide (1 ≤ size) = false := decide_eq_false h1
        have HV := hid (show false = fitS 1 size by unfold fitS powI; symm; apply decide_eq_false; simp; omega)
        go_enter Tryz.func61, Tryz.ntmps61
        go_wp2
        go_ret
        exact ⟨ret_boolQ HV.out, rfl⟩
    · have q1 : (code == 1) = false := by simpa using c1
      have HV := hid (show false = fitS code size by unfold fitS; symm; apply decide_eq_false; simp [c0, c1])
      go_enter Tryz.func61, Tryz.ntmps61
      go_wp2
      go_ret
      exact ⟨ret_boolQ HV.out, rfl⟩
def fitC (count order : Int) : Bool := decide (order ≤ count ∧ count ≤ 4096 ∧ count % order = 0)
set_option maxHeartbeats 400000 in
theorem countFits_any (count order : Int) (w : World) (ho : order = 2 ∨ order = 4 ∨ order = 6) : Calls Tryz.prog 63 #[.int .i64 count, .int .i64 order] w fun e w' => e = .returned (.bool (fitC count order)) ∧ w = w' := by
  by_cases h1 : order ≤ count
  · have d1 : decide (order ≤ count) = true := decide_eq_true h1
    by_cases h2 : count ≤ 4096
    · have d2 : decide (count ≤ 4096) = true := decide_eq_true h2
      have HV := hid (show (count % order == 0) = fitC count order by
        unfold fitC
        by_cases h : count % order = 0 <;> simp [h, h1, h2])
      have hnz : order ≠ 0 := by omega
      have hnm : order ≠ -1 := by omega
      rcases ho with rfl | rfl | rfl
      all_goals (go_enter Tryz.func63, Tryz.ntmps63; go_wp2; go_ret; exact ⟨ret_boolQ HV.out, rfl⟩)
    · have d2 : decide (count ≤ 4096) = false := decide_eq_false h2
      have HV := hid (show false = fitC count order from (decide_eq_false fun h => h2 h.2.1).symm)
      clear ho
      go_enter Tryz.func63, Tryz.ntmps63
      go_wp2
      go_ret
      exact ⟨ret_boolQ HV.out, rfl⟩
  · have d1 : decide (order ≤ count) = false := decide_eq_false h1
    have HV := hid (show false = fitC count order from (decide_eq_false fun h => h1 h.1).symm)
    clear ho
    go_enter Tryz.func63, Tryz.ntmps63
    go_wp2
    go_ret
    exact ⟨ret_boolQ HV.out, rfl⟩
theorem sealedSize_any (bytes : Int) (w : World) (h : 0 ≤ bytes ∧ bytes ≤ 40) : Calls Tryz.prog 64 #[.int .i64 bytes] w fun e w' => e = .returned (.int .i64 (8 * bytes + 24)) ∧ w = w' := by
  go_enter Tryz.func64, Tryz.ntmps64
  go_wp2
  go_ret
  exact ⟨ret_intL (by go_num), rfl⟩
theorem lversion_any (v : Int) (w : World) : Calls Tryz.prog 70 #[.int .i64 v] w fun e w' => e = .returned (.int .i64 (verErr v)) ∧ w = w' := by
  by_cases h0 : v < 0
  · have d0 : decide (v < 0) = true := decide_eq_true h0
    have HV := hid (show (1 : Int) = verErr v by unfold verErr; rw [show verOk v = false from decide_eq_false (by omega)]; rfl)
    clear h0
    go_enter Tryz.func70, Tryz.ntmps70
    go_wp2
    go_ret
    exact ⟨ret_int HV.out, rfl⟩
  · have d0 : decide (v < 0) = false := decide_eq_false h0
    by_cases h1 : 4 ≤ v
    · have d1 : decide (4 ≤ v) = true := decide_eq_true h1
      have HV := hid (show (1 : Int) = verErr v by unfold verErr; rw [show verOk v = false from decide_eq_false (by omega)]; rfl)
      clear h0 h1
      go_enter Tryz.func70, Tryz.ntmps70
      go_wp2
      go_ret
      exact ⟨ret_int HV.out, rfl⟩
    · have d1 : decide (4 ≤ v) = false := decide_eq_false h1
      have HV := hid (show (0 : Int) = verErr v by unfold verErr; rw [show verOk v = true from decide_eq_true (by omega)]; rfl)
      clear h0 h1
      go_enter Tryz.func70, Tryz.ntmps70
      go_wp2
      go_ret
      exact ⟨ret_int HV.out, rfl⟩
theorem setErr_large {S : Setg} {bytes : Int} (h1 : set1 S bytes = true) (h2 : set2 S = true) (h3 : S.code = 1 ∧ S.size < 8 * bytes + 24) : setErr S bytes = 2 := by unfold setErr; rw [h1, h2, decide_eq_true h3]; rfl
theorem box_cells {w w1 : World} {cs : Array Value} {T : TypeId} (hb : Below (w.alloc (.cells cs T)).heap.size (w.alloc (.cells cs T)) w1) (k : Nat) : w1.cell? ⟨w.heap.size, k, none⟩ = cs[k]? := by
  have h : w1.heap[w.heap.size]? = some (.cells cs T) := (hb.block _ (by simp)).trans (World.alloc_heap_new w _)
  rw [cell_of_row _ _ _ _ _ _ h]
set_option maxHeartbeats 1000000 in
theorem lcheck_any (S : Setg) (bytes : Int) (w : World) (hS : S.In) (_hb : I64k bytes) : Calls Tryz.prog 28 #[S.val, .int .i64 bytes] w fun e w' => e = .returned (.int .i64 (setErr S bytes)) ∧ Below w.heap.size w w' := by
  obtain ⟨code, size, order, seed, count⟩ := S
  obtain ⟨E, hE⟩ : ∃ E, E = setErr ⟨code, size, order, seed, count⟩ bytes := ⟨_, rfl⟩
  rw [← hE]
  have HE := hid hE
  clear hE
  unfold Setg.val
  have hsz := fun wz => sizeFits_any code size wz hS.size
  have hor := fun wz => orderFits_any order wz
  have hno : ∀ x, set1 ⟨code, size, order, seed, count⟩ bytes = false → x = 1 → x = E := fun x h e => by rw [HE.out, setErr_no1 h, e]
  have hno2 : ∀ x, set2 ⟨code, size, order, seed, count⟩ = false → x = 1 → x = E := fun x h e => by rw [HE.out, setErr_no2 h, e]
  by_cases b0 : bytes < 0
  · have d0 : decide (bytes < 0) = true := decide_eq_true b0
    have HV := hid (hno 1 (decide_eq_false fun h => by omega) rfl)
    clear hno hno2 b0
    go_enter Tryz.func28, Tryz.ntmps28
    go_wp2
    go_ret
    exact ⟨ret_intL HV.out, (Below.refl _ w).alloc (Nat.le_refl _) _⟩
  have d0 : decide (bytes < 0) = false := decide_eq_false b0
  by_cases b1 : 40 < bytes
  · have d1 : decide (40 < bytes) = true := decide_eq_true b1
    have HV := hid (hno 1 (decide_eq_false fun h => by omega) rfl)
    clear hno hno2 b0 b1
    go_enter Tryz.func28, Tryz.ntmps28
    go_wp2
    go_ret
    exact ⟨ret_intL HV.out, (Below.refl _ w).alloc (Nat.le_refl _) _⟩
  have d1 : decide (40 < bytes) = false := decide_eq_false b1
  cases hs : fitS code size with
  | false =>
    simp only [hs] at hsz
    have HV : Hid ((1 : Int) = E) := by
      have hs' := of_decide_eq_false hs
      by_cases c : code = 0 ∨ code = 1
      · exact hno2 1 (decide_eq_false fun h => hs' (by
          obtain ⟨-, -, -, h4, h5⟩ := h
          rcases c with c | c
          · exact .inl ⟨c, h4 c⟩
          · exact .inr ⟨c, h5 c⟩)) rfl
      · exact hno 1 (decide_eq_false fun h => c h.2.2.1) rfl
    clear hno hno2 b0 b1 hs hor
    go_enter Tryz.func28, Tryz.ntmps28
    go_wp2_with (first | (go_at_call 61; refine (hsz _).mono ?_; rintro e w1 ⟨rfl, rfl⟩))
    go_ret
    exact ⟨ret_intL HV.out, (Below.refl _ w).alloc (Nat.le_refl _) _⟩
  | true =>
  simp only [hs] at hsz
  cases ho : ordOk5 order with
  | false =>
    simp only [ho] at hor
    have HV := hid (hno 1 (decide_eq_false fun h => by have h1 := of_decide_eq_false ho; have h2 : order = 2 ∨ order = 4 ∨ order = 6 := h.2.2.2.1; omega) rfl)
    clear hno hno2 b0 b1 hs ho
    go_enter Tryz.func28, Tryz.ntmps28
    go_wp2_with (first | (go_at_call 61; refine (hsz _).mono ?_; rintro e w1 ⟨rfl, rfl⟩) | (go_at_call 62; refine (hor _).mono ?_; rintro e w1 ⟨rfl, rfl⟩))
    go_ret
    exact ⟨ret_intL HV.out, (Below.refl _ w).alloc (Nat.le_refl _) _⟩
  | true =>
  simp only [ho] at hor
  have hcn := fun wz => countFits_any count order wz (by have := of_decide_eq_true ho; omega)
  cases hc : fitC count order with
  | false =>
    simp only [hc] at hcn
    have HV := hid (hno2 1 (decide_eq_false fun h => of_decide_eq_false hc ⟨h.1, h.2.1, h.2.2.1⟩) rfl)
    clear hno hno2 b0 b1 hs ho hc
    go_enter Tryz.func28, Tryz.ntmps28
    go_wp2_with (first | (go_at_call 61; refine (hsz _).mono ?_; rintro e w1 ⟨rfl, rfl⟩) | (go_at_call 62; refine (hor _).mono ?_; rintro e w1 ⟨rfl, rfl⟩) | (go_at_call 63; refine (hcn _).mono ?_; rintro e w1 ⟨rfl, rfl⟩))
    go_ret
    exact ⟨ret_intL HV.out, (Below.refl _ w).alloc (Nat.le_refl _) _⟩
  | true =>
  simp only [hc] at hcn
  cases hd : seedOk seed with
  | false =>
    have hnz := fun wz => noise_bad seed 0 wz (by unfold noiseOk; rw [hd]; rfl)
    have HV := hid (hno 1 (decide_eq_false fun h => by have h1 := of_decide_eq_false hd; have h2 : 0 ≤ seed ∧ seed < 2147483648 := h.2.2.2.2; omega) rfl)
    clear hno hno2 b0 b1 hs ho hc hd
    go_enter Tryz.func28, Tryz.ntmps28
    go_wp2_with (first | (go_at_call 61; refine (hsz _).mono ?_; rintro e w1 ⟨rfl, rfl⟩) | (go_at_call 62; refine (hor _).mono ?_; rintro e w1 ⟨rfl, rfl⟩) | (go_at_call 63; refine (hcn _).mono ?_; rintro e w1 ⟨rfl, rfl⟩) | (go_at_call 43; refine (hnz _).mono ?_; rintro e w1 ⟨rfl, rfl⟩))
    go_ret
    exact ⟨ret_intL HV.out, (Below.refl _ w).alloc (Nat.le_refl _) _⟩
  | true =>
  have hd' := of_decide_eq_true hd
  obtain ⟨sd, rfl⟩ : ∃ sd : Nat, seed = (sd : Int) := ⟨seed.toNat, by omega⟩
  have hnz := fun wz => noise_ok sd 0 wz (by omega) (by omega)
  have hs' := of_decide_eq_true hs
  have ho' := of_decide_eq_true ho
  have hc' := of_decide_eq_true hc
  have HS1 := hid (show set1 ⟨code, size, order, sd, count⟩ bytes = true from decide_eq_true ⟨by omega, by omega, hs'.elim (fun h => .inl h.1) (fun h => .inr h.1), by show order = 2 ∨ order = 4 ∨ order = 6; omega, by show (0 : Int) ≤ sd; omega, by show (sd : Int) < 2147483648; omega⟩)
  have HS2 := hid (show set2 ⟨code, size, order, sd, count⟩ = true from decide_eq_true ⟨hc'.1, hc'.2.1, hc'.2.2, fun e => hs'.elim (fun h => h.2) (fun h => by have h1 := h.1; have e' : code = 0 := e; omega), fun e => hs'.elim (fun h => by have h1 := h.1; have e' : code = 1 := e; omega) (fun h => h.2)⟩)
  have hmix : Tryz.prog.follows .mixedOrders = true := by kernel_rfl
  by_cases c1 : code = 1
  · subst c1
    by_cases hl : size < 8 * bytes + 24
    · have HV := hid (show (2 : Int) = E by rw [HE.out, setErr_large HS1.out HS2.out ⟨rfl, hl⟩])
      have hss : ∀ w, Calls Tryz.prog 64 #[.int .i64 bytes] w fun e w' => e = .returned (.int .i64 (8 * bytes + 24)) ∧ w = w' := fun w => sealedSize_any bytes w ⟨by omega, by omega⟩
      clear hno hno2 b0 b1 hs ho hc hd hs' ho' hc' hd'
      go_enter Tryz.func28, Tryz.ntmps28
      go_wp2_with (first | (go_at_call 61; refine (hsz _).mono ?_; rintro e w1 ⟨rfl, rfl⟩) | (go_at_call 62; refine (hor _).mono ?_; rintro e w1 ⟨rfl, rfl⟩) | (go_at_call 63; refine (hcn _).mono ?_; rintro e w1 ⟨rfl, rfl⟩) | (go_at_call 43; refine (hnz _).mono ?_; rintro e w1 ⟨v1, rfl, -, hb1⟩; have bc0 := box_cells hb1 0; have bc1 := box_cells hb1 1; simp only [List.getElem?_toArray, List.getElem?_cons_zero, List.getElem?_cons_succ] at bc0 bc1) | (go_at_call 64; refine (hss _).mono ?_; rintro e w2 ⟨rfl, rfl⟩))
      have hcw : ∀ (wc : World), Below w1.heap.size w1 wc → ∀ q v, w1.cell? q = some v → wc.cell? q = some v := fun wc hbc q v h => (hbc.cell (World.block_lt_of_cell? w1 _ h)).trans h
      refine wp_mono (region_lastL (Q := fun e a' w' => e = .normal ∧ a' = ({ tmps := (_ : List Value).toArray, defers := [] } : Act) ∧ Below w1.heap.size w1 w') 9 42 (.pointer (some ⟨w.heap.size, 0, none⟩)) [(43, .int .i64 1), (44, .bool true), (45, .bool true), (46, .int .i64 bytes), (47, .int .i64 (8 * bytes + 24)), (48, .pointer (some ⟨w.heap.size, 0 + 1, none⟩)), (49, .int .i64 size), (50, .bool (decide (size < 8 * bytes + 24)))]
        [[2], [42], [43], [44], [1, 45], [46, 45], [2, 45], [48, 45], [47, 49, 45]] [1, 2, 3, 9, 5, 8, 7, 8, 9] w1 hmix rfl rfl (show ([42, 43, 44, 45, 46, 47, 48, 49, 50] : List Nat).Nodup by decide) (by kernel_rfl) (by kernel_rfl) (by kernel_rfl) (by kernel_rfl) (by kernel_rfl) (fun i' hi' ac wc hbc hrd Q K hK => by
        have h9 : i' = 0 ∨ i' = 1 ∨ i' = 2 ∨ i' = 3 ∨ i' = 4 ∨ i' = 5 ∨ i' = 6 ∨ i' = 7 ∨ i' = 8 := by omega
        rcases h9 with rfl | rfl | rfl | rfl | rfl | rfl | rfl | rfl | rfl
        · exact op_value rfl rfl (run_fldSet wc rfl (hrd 2 (by decide))) (hK wc (grownL wc))
        · exact op_value rfl rfl (run_loadI wc rfl (hrd 42 (by decide)) (hcw wc hbc _ _ bc0)) (hK wc (grownL wc))
        · exact op_value rfl rfl (run_eqlI wc rfl (hrd 43 (by decide)) rfl) (hK wc (grownL wc))
        · exact op_value rfl rfl (run_moveQ wc rfl (hrd 44 (by decide))) (hK wc (grownL wc))
        · exact op_valueG (want := true) rfl rfl rfl rfl (hrd 45 (by decide)) (run_moveQ wc rfl (hrd 1 (by decide))) (hK wc (grownL wc))
        · have h46 : ac.eval (.tmp 46) = .int .i64 bytes := hrd 46 (by decide)
          refine op_callL (us := #[.int .i64 bytes]) (want := true) rfl rfl rfl rfl (hrd 45 (by decide)) rfl (enters_of Tryz.func64 (by kernel_rfl) rfl) (by simp [h46]) (hss wc) (fun e wx hR => ?_)
          obtain ⟨rfl, rfl⟩ := hR
          exact ⟨_, rfl, hK _ (grownL _)⟩
        · exact op_valueG (want := true) rfl rfl rfl rfl (hrd 45 (by decide)) (run_fldSet1 wc rfl (hrd 2 (by decide))) (hK wc (grownL wc))
        · exact op_valueG (want := true) rfl rfl rfl rfl (hrd 45 (by decide)) (run_loadI wc rfl (hrd 48 (by decide)) (hcw wc hbc _ _ bc1)) (hK wc (grownL wc))
        · exact op_valueG (want := true) rfl rfl rfl rfl (hrd 45 (by decide)) (run_gtrI wc rfl (hrd 47 (by decide)) (hrd 49 (by decide))) (hK wc (grownL wc)))
        (fun wc hbc => by
          refine op_value rfl rfl (run_pickQ wc rfl (eval_setAll 45 (show ([42, 43, 44, 45, 46, 47, 48, 49, 50] : List Nat).Nodup by decide) (by kernel_rfl)) ((if_pos rfl).trans (eval_setAll 50 (show ([42, 43, 44, 45, 46, 47, 48, 49, 50] : List Nat).Nodup by decide) (by kernel_rfl)))) ⟨rfl, put_list _ _ _, hbc⟩)) ?_
      rintro e a' w' ⟨rfl, rfl, hbw⟩
      have hb2 := ((Below.refl _ w).alloc (Nat.le_refl _) (.cells #[.int .i64 1, .int .i64 size, .int .i64 order, .int .i64 sd, .int .i64 count] 55)).trans ((hb1.trans (hbw.mono hb1.size)).mono (by simp))
      clear hcw hbw bc0 bc1 hb1
      dsimp only [setAll, List.set, List.append_nil, List.cons_append, List.nil_append]
      go_wp2_with fail
      go_ret
      exact ⟨ret_intL HV.out, hb2⟩
    · have HV := hid (show (0 : Int) = E by rw [HE.out]; unfold setErr; rw [HS1.out, HS2.out, decide_eq_false (fun h => hl h.2)]; rfl)
      have hss : ∀ w, Calls Tryz.prog 64 #[.int .i64 bytes] w fun e w' => e = .returned (.int .i64 (8 * bytes + 24)) ∧ w = w' := fun w => sealedSize_any bytes w ⟨by omega, by omega⟩
      clear hno hno2 b0 b1 hs ho hc hd hs' ho' hc' hd'
      go_enter Tryz.func28, Tryz.ntmps28
      go_wp2_with (first | (go_at_call 61; refine (hsz _).mono ?_; rintro e w1 ⟨rfl, rfl⟩) | (go_at_call 62; refine (hor _).mono ?_; rintro e w1 ⟨rfl, rfl⟩) | (go_at_call 63; refine (hcn _).mono ?_; rintro e w1 ⟨rfl, rfl⟩) | (go_at_call 43; refine (hnz _).mono ?_; rintro e w1 ⟨v1, rfl, -, hb1⟩; have bc0 := box_cells hb1 0; have bc1 := box_cells hb1 1; simp only [List.getElem?_toArray, List.getElem?_cons_zero, List.getElem?_cons_succ] at bc0 bc1) | (go_at_call 64; refine (hss _).mono ?_; rintro e w2 ⟨rfl, rfl⟩))
      have hcw : ∀ (wc : World), Below w1.heap.size w1 wc → ∀ q v, w1.cell? q = some v → wc.cell? q = some v := fun wc hbc q v h => (hbc.cell (World.block_lt_of_cell? w1 _ h)).trans h
      refine wp_mono (region_lastL (Q := fun e a' w' => e = .normal ∧ a' = ({ tmps := (_ : List Value).toArray, defers := [] } : Act) ∧ Below w1.heap.size w1 w') 9 42 (.pointer (some ⟨w.heap.size, 0, none⟩)) [(43, .int .i64 1), (44, .bool true), (45, .bool true), (46, .int .i64 bytes), (47, .int .i64 (8 * bytes + 24)), (48, .pointer (some ⟨w.heap.size, 0 + 1, none⟩)), (49, .int .i64 size), (50, .bool (decide (size < 8 * bytes + 24)))]
        [[2], [42], [43], [44], [1, 45], [46, 45], [2, 45], [48, 45], [47, 49, 45]] [1, 2, 3, 9, 5, 8, 7, 8, 9] w1 hmix rfl rfl (show ([42, 43, 44, 45, 46, 47, 48, 49, 50] : List Nat).Nodup by decide) (by kernel_rfl) (by kernel_rfl) (by kernel_rfl) (by kernel_rfl) (by kernel_rfl) (fun i' hi' ac wc hbc hrd Q K hK => by
        have h9 : i' = 0 ∨ i' = 1 ∨ i' = 2 ∨ i' = 3 ∨ i' = 4 ∨ i' = 5 ∨ i' = 6 ∨ i' = 7 ∨ i' = 8 := by omega
        rcases h9 with rfl | rfl | rfl | rfl | rfl | rfl | rfl | rfl | rfl
        · exact op_value rfl rfl (run_fldSet wc rfl (hrd 2 (by decide))) (hK wc (grownL wc))
        · exact op_value rfl rfl (run_loadI wc rfl (hrd 42 (by decide)) (hcw wc hbc _ _ bc0)) (hK wc (grownL wc))
        · exact op_value rfl rfl (run_eqlI wc rfl (hrd 43 (by decide)) rfl) (hK wc (grownL wc))
        · exact op_value rfl rfl (run_moveQ wc rfl (hrd 44 (by decide))) (hK wc (grownL wc))
        · exact op_valueG (want := true) rfl rfl rfl rfl (hrd 45 (by decide)) (run_moveQ wc rfl (hrd 1 (by decide))) (hK wc (grownL wc))
        · have h46 : ac.eval (.tmp 46) = .int .i64 bytes := hrd 46 (by decide)
          refine op_callL (us := #[.int .i64 bytes]) (want := true) rfl rfl rfl rfl (hrd 45 (by decide)) rfl (enters_of Tryz.func64 (by kernel_rfl) rfl) (by simp [h46]) (hss wc) (fun e wx hR => ?_)
          obtain ⟨rfl, rfl⟩ := hR
          exact ⟨_, rfl, hK _ (grownL _)⟩
        · exact op_valueG (want := true) rfl rfl rfl rfl (hrd 45 (by decide)) (run_fldSet1 wc rfl (hrd 2 (by decide))) (hK wc (grownL wc))
        · exact op_valueG (want := true) rfl rfl rfl rfl (hrd 45 (by decide)) (run_loadI wc rfl (hrd 48 (by decide)) (hcw wc hbc _ _ bc1)) (hK wc (grownL wc))
        · exact op_valueG (want := true) rfl rfl rfl rfl (hrd 45 (by decide)) (run_gtrI wc rfl (hrd 47 (by decide)) (hrd 49 (by decide))) (hK wc (grownL wc)))
        (fun wc hbc => by
          refine op_value rfl rfl (run_pickQ wc rfl (eval_setAll 45 (show ([42, 43, 44, 45, 46, 47, 48, 49, 50] : List Nat).Nodup by decide) (by kernel_rfl)) ((if_pos rfl).trans (eval_setAll 50 (show ([42, 43, 44, 45, 46, 47, 48, 49, 50] : List Nat).Nodup by decide) (by kernel_rfl)))) ⟨rfl, put_list _ _ _, hbc⟩)) ?_
      rintro e a' w' ⟨rfl, rfl, hbw⟩
      have hb2 := ((Below.refl _ w).alloc (Nat.le_refl _) (.cells #[.int .i64 1, .int .i64 size, .int .i64 order, .int .i64 sd, .int .i64 count] 55)).trans ((hb1.trans (hbw.mono hb1.size)).mono (by simp))
      clear hcw hbw bc0 bc1 hb1
      dsimp only [setAll, List.set, List.append_nil, List.cons_append, List.nil_append]
      go_wp2_with fail
      go_ret
      exact ⟨ret_intL HV.out, hb2⟩
  · obtain rfl : code = 0 := hs'.elim (fun h => h.1) (fun h => absurd h.1 c1)
    have HV := hid (show (0 : Int) = E by rw [HE.out]; unfold setErr; rw [HS1.out, HS2.out, decide_eq_false (fun h => c1 h.1)]; rfl)
    clear hno hno2 b0 b1 hs ho hc hd hs' ho' hc' hd' c1
    go_enter Tryz.func28, Tryz.ntmps28
    go_wp2_with (first | (go_at_call 61; refine (hsz _).mono ?_; rintro e w1 ⟨rfl, rfl⟩) | (go_at_call 62; refine (hor _).mono ?_; rintro e w1 ⟨rfl, rfl⟩) | (go_at_call 63; refine (hcn _).mono ?_; rintro e w1 ⟨rfl, rfl⟩) | (go_at_call 43; refine (hnz _).mono ?_; rintro e w1 ⟨v1, rfl, -, hb1⟩; have bc0 := box_cells hb1 0; have bc1 := box_cells hb1 1; simp only [List.getElem?_toArray, List.getElem?_cons_zero, List.getElem?_cons_succ] at bc0 bc1))
    have hcw : ∀ (wc : World), Below w1.heap.size w1 wc → ∀ q v, w1.cell? q = some v → wc.cell? q = some v := fun wc hbc q v h => (hbc.cell (World.block_lt_of_cell? w1 _ h)).trans h
    refine wp_mono (region_lastL (Q := fun e a' w' => e = .normal ∧ a' = ({ tmps := (_ : List Value).toArray, defers := [] } : Act) ∧ Below w1.heap.size w1 w') 9 42 (.pointer (some ⟨w.heap.size, 0, none⟩)) [(43, .int .i64 0), (44, .bool false), (45, .bool false), (46, undef), (47, undef), (48, undef), (49, undef), (50, undef)]
      [[2], [42], [43], [44], [1, 45], [46, 45], [2, 45], [48, 45], [47, 49, 45]] [1, 2, 3, 9, 5, 8, 7, 8, 9] w1 hmix rfl rfl (show ([42, 43, 44, 45, 46, 47, 48, 49, 50] : List Nat).Nodup by decide) (by kernel_rfl) (by kernel_rfl) (by kernel_rfl) (by kernel_rfl) (by kernel_rfl) (fun i' hi' ac wc hbc hrd Q K hK => by
      have h9 : i' = 0 ∨ i' = 1 ∨ i' = 2 ∨ i' = 3 ∨ i' = 4 ∨ i' = 5 ∨ i' = 6 ∨ i' = 7 ∨ i' = 8 := by omega
      rcases h9 with rfl | rfl | rfl | rfl | rfl | rfl | rfl | rfl | rfl
      · exact op_value rfl rfl (run_fldSet wc rfl (hrd 2 (by decide))) (hK wc (grownL wc))
      · exact op_value rfl rfl (run_loadI wc rfl (hrd 42 (by decide)) (hcw wc hbc _ _ bc0)) (hK wc (grownL wc))
      · exact op_value rfl rfl (run_eqlI wc rfl (hrd 43 (by decide)) rfl) (hK wc (grownL wc))
      · exact op_value rfl rfl (run_moveQ wc rfl (hrd 44 (by decide))) (hK wc (grownL wc))
      · exact op_skipG (want := true) rfl rfl rfl rfl (hrd 45 (by decide)) (hK wc (grownL wc))
      · exact op_skipG (want := true) rfl rfl rfl rfl (hrd 45 (by decide)) (hK wc (grownL wc))
      · exact op_skipG (want := true) rfl rfl rfl rfl (hrd 45 (by decide)) (hK wc (grownL wc))
      · exact op_skipG (want := true) rfl rfl rfl rfl (hrd 45 (by decide)) (hK wc (grownL wc))
      · exact op_skipG (want := true) rfl rfl rfl rfl (hrd 45 (by decide)) (hK wc (grownL wc)))
      (fun wc hbc => by
        refine op_value rfl rfl (run_pickQ wc rfl (eval_setAll 45 (show ([42, 43, 44, 45, 46, 47, 48, 49, 50] : List Nat).Nodup by decide) (by kernel_rfl)) rfl) ⟨rfl, put_list _ _ _, hbc⟩)) ?_
    rintro e a' w' ⟨rfl, rfl, hbw⟩
    have hb2 := ((Below.refl _ w).alloc (Nat.le_refl _) (.cells #[.int .i64 0, .int .i64 size, .int .i64 order, .int .i64 sd, .int .i64 count] 55)).trans ((hb1.trans (hbw.mono hb1.size)).mono (by simp))
    clear hcw hbw bc0 bc1 hb1
    dsimp only [setAll, List.set, List.append_nil, List.cons_append, List.nil_append]
    go_wp2_with fail
    go_ret
    exact ⟨ret_intL HV.out, hb2⟩
end Go.Proofs.YtplkmkbambbemadGreatDoor
