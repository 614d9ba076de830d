import Derived.Test.YtplkmkbambbemaeGreatDoorM06
import Derived.Test.YtplkmkbambbemaeGreatDoorM05
import Derived.Test.YtplkmkbambbemaeGreatDoorM01
import Derived.Test.YtplkmkbambbemaeGreatDoorM03
import Derived.Test.YtplkmkbambbemaeGreatDoorM02
namespace Go.Proofs.YtplkmkbambbemaeGreatDoor
open Go.ChangeShapes Go.WideShapes Go.ChangeAt Go.RowKit
def clipM (x : Int) : Int := if x < -1000 then -1000 else if 1000 < x then 1000 else x
def signM (x b : Int) : Int := if b = 1 then -x else x
/-- The numbers that are heard of points, as they are added. -/
def tellM (S : Setg) (ps : List (Int × Int)) : List Int := (List.range S.count.toNat).map fun i => signM (clipM ((heardM (S.order.toNat / 2) S.order.toNat ps ps.length).getD i 0)) ((noiseTo S.seed.toNat S.count.toNat).getD i 0)
theorem tellM_length (S : Setg) (ps : List (Int × Int)) : (tellM S ps).length = S.count.toNat := by simp [tellM]
/-- The bits that are found in sums. -/
def foundL (S : Setg) (n : Nat) (s : List Int) : List Int := if S.code = 0 then way s n 0 0 else readM (placesM S.size.toNat n) (decP (sizeL S) s (openM S.size.toNat n))
structure Told where
  data : ByteArray
  ok : Bool
  err : Int
def tookM (S : Setg) (bytes : Nat) (s : List Int) : Told :=
  if ksum ((foundL S (8 * bytes + 24) s).take (8 * bytes)) 3 = (foundL S (8 * bytes + 24) s).drop (8 * bytes) then ⟨strOfNums (packL ((foundL S (8 * bytes + 24) s).take (8 * bytes))), true, 0⟩ else ⟨ByteArray.empty, false, 0⟩
def earHears (S : Setg) (ps : List (Int × Int)) (v : Int) : Bool := verOk v && hearsOk ps S.order
def earSays (S : Setg) (bytes : Nat) (s : List Int) (ps : List (Int × Int)) (v : Int) : Told :=
  if earHears S ps v = false then ⟨ByteArray.empty, false, 1⟩ else if (ps.length : Int) * S.order ≠ S.count then ⟨ByteArray.empty, false, 3⟩
  else if softOk (nextM s (tellM S ps) v) = false then ⟨ByteArray.empty, false, 2⟩ else tookM S bytes (nextM s (tellM S ps) v)
def earNext (S : Setg) (s : List Int) (ps : List (Int × Int)) (v : Int) : List Int := if earHears S ps v = false ∨ (ps.length : Int) * S.order ≠ S.count ∨ softOk (nextM s (tellM S ps) v) = false then s else nextM s (tellM S ps) v
def Told.val (t : Told) : Value := .tuple #[.string t.data, .bool t.ok, .int .i64 t.err]
end Go.Proofs.YtplkmkbambbemaeGreatDoor
namespace Go.Proofs.YtplkmkbambbemaeGreatDoor
open Go.ChangeShapes Go.WideShapes Go.ChangeAt Go.RowKit
def I64k (x : Int) : Prop := -9223372036854775808 ≤ x ∧ x ≤ 9223372036854775807
structure Setg.In (S : Setg) : Prop where
  code : I64k S.code
  size : I64k S.size
  order : I64k S.order
  seed : I64k S.seed
  count : I64k S.count
def buildErr (S : Setg) (bytes v : Int) : Int := if setErr S bytes = 0 then (if verOk v then 0 else 1) else setErr S bytes
end Go.Proofs.YtplkmkbambbemaeGreatDoor
namespace Go.Proofs.YtplkmkbambbemaeGreatDoor
open Go.ChangeShapes Go.WideShapes Go.ChangeAt Go.RowKit
def pickErr (cs : List Int) (v k : Int) : Int := if errOf cs = 0 then (if cs.length = 0 ∨ verOk v = false ∨ k < 0 ∨ 4096 < k then 1 else 0) else errOf cs
def pickedM (cs : List Int) (v k : Nat) : List Int := (List.range k).map fun i => cs.getD (pickM cs.length v i) 0
theorem pickedM_length (cs : List Int) (v k : Nat) : (pickedM cs v k).length = k := by simp [pickedM]
end Go.Proofs.YtplkmkbambbemaeGreatDoor
namespace Go.Proofs.YtplkmkbambbemaeGreatDoor
open Go.ChangeShapes Go.WideShapes Go.ChangeAt Go.RowKit
def sizeOk (n : Int) : Bool := decide (1 ≤ n ∧ n ≤ 4096)
def sizeErrM (n : Int) : Int := if sizeOk n then 0 else 1
def verErr (v : Int) : Int := if verOk v then 0 else 1
set_option maxHeartbeats 400000 in
theorem checkSize_any (n : Int) (w : World) : Calls Tryz.prog 18 #[.int .i64 n] w fun e w' => e = .returned (.int .i64 (sizeErrM n)) ∧ w = w' := by
  by_cases h0 : n < 1
  · have d0 : decide (n < 1) = true := decide_eq_true h0
    have HV := hid (show (1 : Int) = sizeErrM n by unfold sizeErrM; rw [show sizeOk n = false from decide_eq_false (by omega)]; rfl)
    clear h0
    go_enter Tryz.func18, Tryz.ntmps18
    go_wp2
    go_ret
    exact ⟨ret_int HV.out, rfl⟩
  · have d0 : decide (n < 1) = false := decide_eq_false h0
    by_cases h1 : 4096 < n
    · have d1 : decide (4096 < n) = true := decide_eq_true h1
      have HV := hid (show (1 : Int) = sizeErrM n by unfold sizeErrM; rw [show sizeOk n = false from decide_eq_false (by omega)]; rfl)
      clear h0 h1
      go_enter Tryz.func18, Tryz.ntmps18
      go_wp2
      go_ret
      exact ⟨ret_int HV.out, rfl⟩
    · have d1 : decide (4096 < n) = false := decide_eq_false h1
      have HV := hid (show (0 : Int) = sizeErrM n by unfold sizeErrM; rw [show sizeOk n = true from decide_eq_true (by omega)]; rfl)
      clear h0 h1
      go_enter Tryz.func18, Tryz.ntmps18
      go_wp2
      go_ret
      exact ⟨ret_int HV.out, rfl⟩
set_option maxHeartbeats 400000 in
theorem checkVersion_any (v : Int) (w : World) : Calls Tryz.prog 21 #[.int .i64 v] w fun e w' => e = .returned (.int .i64 (verErr v)) ∧ w = w' := by
  by_cases h0 : v < 0
  · have d0 : decide (v < 0) = true := decide_eq_true h0
    have HV := hid (show (1 : Int) = verErr v by unfold verErr; rw [show verOk v = false from decide_eq_false (by omega)]; rfl)
    clear h0
    go_enter Tryz.func21, Tryz.ntmps21
    go_wp2
    go_ret
    exact ⟨ret_int HV.out, rfl⟩
  · have d0 : decide (v < 0) = false := decide_eq_false h0
    by_cases h1 : 4 ≤ v
    · have d1 : decide (4 ≤ v) = true := decide_eq_true h1
      have HV := hid (show (1 : Int) = verErr v by unfold verErr; rw [show verOk v = false from decide_eq_false (by omega)]; rfl)
      clear h0 h1
      go_enter Tryz.func21, Tryz.ntmps21
      go_wp2
      go_ret
      exact ⟨ret_int HV.out, rfl⟩
    · have d1 : decide (4 ≤ v) = false := decide_eq_false h1
      have HV := hid (show (0 : Int) = verErr v by unfold verErr; rw [show verOk v = true from decide_eq_true (by omega)]; rfl)
      clear h0 h1
      go_enter Tryz.func21, Tryz.ntmps21
      go_wp2
      go_ret
      exact ⟨ret_int HV.out, rfl⟩
set_option maxHeartbeats 400000 in
theorem beginOf_any (n v : Nat) (w : World) (hn : n ≤ 4096) (hv : v ≤ 3) : Calls Tryz.prog 41 #[.int .i64 n, .int .i64 v] w fun e w' => e = .returned (.int .i64 ((v * n / 4 : Nat) : Int)) ∧ w = w' := by
  have hmul : (v : Int) * (n : Int) = ((v * n : Nat) : Int) := by simp
  have hnv : v * n ≤ 12288 := by
    have := Nat.mul_le_mul hv hn
    omega
  obtain ⟨p, ep⟩ : ∃ p, p = v * n := ⟨_, rfl⟩
  rw [← ep] at hmul hnv
  rw [← ep]
  have hquo : (p : Int).tdiv 4 = ((p / 4 : Nat) : Int) := by rw [Int.tdiv_eq_ediv_of_nonneg (by omega)]; simp
  have hwm : IntKind.i64.wrap ((v : Int) * (n : Int)) = (p : Int) := by rw [hmul, IntKind.wrap_i64]; omega
  clear ep hmul
  go_enter Tryz.func41, Tryz.ntmps41
  go_wp2
  go_ret
  exact ⟨rfl, rfl⟩
end Go.Proofs.YtplkmkbambbemaeGreatDoor
namespace Go.Proofs.YtplkmkbambbemaeGreatDoor
open Go.ChangeShapes Go.WideShapes Go.ChangeAt Go.RowKit
theorem and1_int (a : Nat) (ha : a < 4294967296) : bits .and .u32 (a : Int) 1 = ((a % 2 : Nat) : Int) := by
  rw [show (1 : Int) = ((1 : Nat) : Int) from rfl, u32_and_nat _ _ ha (by decide), Nat.and_one_is_mod]
theorem or_int (a b : Nat) (ha : a < 2147483648) (hb : b ≤ 1) : bits .or .u32 (a : Int) ((b : Int) * 1073741824 % 4294967296) = ((a ||| b * 2 ^ 30 : Nat) : Int) := by
  have e : (b : Int) * 1073741824 % 4294967296 = ((b * 2 ^ 30 : Nat) : Int) := by omega
  rw [e, u32_or_nat _ _ (by omega) (by omega)]
theorem stepX_int (x : Nat) (hx : x < 2147483648) : bits .or .u32 ((x : Int) / 2) (bits .and .u32 (bits .xor .u32 ((x : Int) / 8) x) 1 * 1073741824 % 4294967296) = ((stepX x : Nat) : Int) := by
  have h1 : x / 8 ^^^ x < 2 ^ 32 := Nat.xor_lt_two_pow (by omega) (by omega)
  rw [show (x : Int) / 8 = ((x / 8 : Nat) : Int) from by omega, show (x : Int) / 2 = ((x / 2 : Nat) : Int) from by omega, u32_xor_nat _ _ (by omega) (by omega), and1_int _ h1, or_int _ _ (by omega) (by omega)]
  rfl
theorem stepY_int (y : Nat) (hy : y < 2147483648) : bits .or .u32 ((y : Int) / 2) (bits .and .u32 (bits .xor .u32 (bits .xor .u32 (bits .xor .u32 ((y : Int) / 8) ((y : Int) / 4)) ((y : Int) / 2)) y) 1 * 1073741824 % 4294967296) = ((stepY y : Nat) : Int) := by
  have h1 : y / 8 ^^^ y / 4 < 2 ^ 32 := Nat.xor_lt_two_pow (by omega) (by omega)
  have h2 : y / 8 ^^^ y / 4 ^^^ y / 2 < 2 ^ 32 := Nat.xor_lt_two_pow h1 (by omega)
  have h3 : y / 8 ^^^ y / 4 ^^^ y / 2 ^^^ y < 2 ^ 32 := Nat.xor_lt_two_pow h2 (by omega)
  rw [show (y : Int) / 8 = ((y / 8 : Nat) : Int) from by omega, show (y : Int) / 4 = ((y / 4 : Nat) : Int) from by omega, show (y : Int) / 2 = ((y / 2 : Nat) : Int) from by omega, u32_xor_nat _ _ (by omega) (by omega), u32_xor_nat _ _ h1 (by omega), u32_xor_nat _ _ h2 (by omega), and1_int _ h3, or_int _ _ (by omega) (by omega)]
  rfl
theorem ret_two {k : IntKind} {a b c d : Int} (h : a = c) (h' : b = d) : Ending.returned (.tuple #[.int k a, .int k b]) = .returned (.tuple #[.int k c, .int k d]) := by rw [h, h']
set_option maxHeartbeats 400000 in
theorem step_any (x y : Nat) (w : World) (hx : x < 2147483648) (hy : y < 2147483648) :
    Calls Tryz.prog 59 #[.int .u32 x, .int .u32 y] w fun e w' => e = .returned (.tuple #[.int .u32 (stepX x : Nat), .int .u32 (stepY y : Nat)]) ∧ w = w' := by
  go_enter Tryz.func59, Tryz.ntmps59
  go_wp2
  go_ret2
  exact ⟨ret_two (stepX_int x hx) (stepY_int y hy), rfl⟩
theorem noise_int (x y : Nat) (hx : x < 2147483648) (hy : y < 2147483648) : bits .and .u32 (bits .xor .u32 (x : Int) y) 1 % 256 = b2i (x.testBit 0 ^^ y.testBit 0) := by
  have h1 : x ^^^ y < 2 ^ 32 := Nat.xor_lt_two_pow (by omega) (by omega)
  rw [u32_xor_nat _ _ (by omega) (by omega), and1_int _ h1, ← Nat.testBit_xor, testBit_zero']
  have : (x ^^^ y) % 2 = 0 ∨ (x ^^^ y) % 2 = 1 := by omega
  rcases this with h | h <;> simp [h, b2i]
/-- Is a seed right, and a length? -/
def seedOk (s : Int) : Bool := decide (0 ≤ s ∧ s ≤ 2147483647)
def noiseOk (s n : Int) : Bool := seedOk s && decide (0 ≤ n ∧ n ≤ 4096)
set_option maxHeartbeats 1000000 in
theorem noise_bad (s n : Int) (w : World) (h : noiseOk s n = false) :
    Calls Tryz.prog 45 #[.int .i64 s, .int .i64 n] w fun e w' => e = .returned (.tuple #[.slice none 0 0, .int .i64 1]) ∧ w = w' := by
  have h' : s < 0 ∨ 2147483647 < s ∨ n < 0 ∨ 4096 < n := by
    simp [noiseOk, seedOk] at h
    omega
  clear h
  by_cases h1 : s < 0
  · go_enter Tryz.func45, Tryz.ntmps45
    go_wp2
    go_ret2
    exact ⟨rfl, rfl⟩
  · have d1 : decide (s < 0) = false := by simpa using h1
    by_cases h2 : 2147483647 < s
    · go_enter Tryz.func45, Tryz.ntmps45
      go_wp2
      go_ret2
      exact ⟨rfl, rfl⟩
    · have d2 : decide (2147483647 < s) = false := by simpa using h2
      by_cases h3 : n < 0
      · go_enter Tryz.func45, Tryz.ntmps45
        go_wp2
        go_ret2
        exact ⟨rfl, rfl⟩
      · have d3 : decide (n < 0) = false := by simpa using h3
        have h4 : 4096 < n := by omega
        go_enter Tryz.func45, Tryz.ntmps45
        go_wp2
        go_ret2
        exact ⟨rfl, rfl⟩
theorem noise_set (s n k rx ry : Nat) (hk : k < n) (hrx : rx < 2147483648) (hry : ry < 2147483648) (h : rx = regX (1600 + k) ∧ ry = regY s (1600 + k)) :
    (noiseTo s k ++ List.replicate (n - k) 0).set k (bits .and .u32 (bits .xor .u32 (rx : Int) ry) 1 % 256) = noiseTo s (k + 1) ++ List.replicate (n - (k + 1)) 0 := by
  rw [show n - k = (n - (k + 1)) + 1 from by omega, set_fill _ _ _ _ (noiseTo_length s k), noiseTo_succ, noise_int rx ry hrx hry, h.1, h.2]
  rfl
set_option maxRecDepth 100000 in
set_option maxHeartbeats 1000000 in
theorem noise_ok (s n : Nat) (w : World) (hs : s < 2147483648) (hn : n ≤ 4096) :
    Calls Tryz.prog 45 #[.int .i64 s, .int .i64 n] w fun e w' => ∃ v, e = .returned (.tuple #[v, .int .i64 0]) ∧ Own w' w.heap.size v (noiseTo s n) ∧ Below w.heap.size w w' := by
  have d1 : decide ((s : Int) < 0) = false := by simp
  have d2 : decide (2147483647 < (s : Int)) = false := by simp; omega
  have d3 : decide ((n : Int) < 0) = false := by simp
  have d4 : decide (4096 < (n : Int)) = false := by simp; omega
  go_enter Tryz.func45, Tryz.ntmps45
  go_wp2
  go_loop [6, 7, 26] (fun x y i => ∃ t rx ry : Nat, t ≤ 1600 ∧ i = .int .i64 t ∧ x = .int .u32 rx ∧ y = .int .u32 ry ∧ rx < 2147483648 ∧ ry < 2147483648 ∧ Hid (rx = regX t ∧ ry = regY s t)) (fun _ _ i => 1600 - (intOf i).toNat)
  case atStart => exact ⟨0, 1, s, by omega, rfl, rfl, by go_num, by omega, hs, rfl, rfl⟩
  case round =>
    obtain ⟨t, rx, ry, ht, rfl, rfl, rfl, hrx, hry, HR⟩ := hrel
    by_cases hlt : t < 1600
    · go_wp2_with (go_at_call 59; refine (step_any rx ry _ hrx hry).mono ?_; rintro e w' ⟨rfl, rfl⟩)
      go_round
      case rel => exact ⟨t + 1, _, _, by omega, by go_num, rfl, rfl, by have := regX_lt (t + 1); rw [HR.out.1]; exact this, by have := regY_lt s hs (t + 1); rw [HR.out.2]; exact this, by rw [HR.out.1, HR.out.2]; exact ⟨rfl, rfl⟩⟩
      case measure => simp [intOf]; omega
    · have HR0 : Hid (rx = regX (1600 + 0) ∧ ry = regY s (1600 + 0)) := by
        have e : t = 1600 + 0 := by omega
        rw [← e]; exact HR
      clear HR
      go_wp2_with (at_make; refine wpList_makeBytes w.heap.size w n rfl _ _ rfl _ _ rfl rfl rfl rfl (by omega) (Below.refl _ _) (Nat.le_refl _) ?_)
      intro w1 hown1 hbel1 hsz1
      go_wp2
      go_loopw [6, 7, 39] (fun x y i wr => ∃ k rx ry : Nat, k ≤ n ∧ i = .int .i64 k ∧ x = .int .u32 rx ∧ y = .int .u32 ry ∧ rx < 2147483648 ∧ ry < 2147483648 ∧ Hid (rx = regX (1600 + k) ∧ ry = regY s (1600 + k)) ∧ Own wr w.heap.size (.slice (some ⟨w.heap.size, 0, none⟩) n n) (noiseTo s k ++ List.replicate (n - k) 0) ∧ Below w.heap.size w wr) (fun _ _ i _ => n - (intOf i).toNat)
      case atStart => exact ⟨0, rx, ry, by omega, rfl, rfl, rfl, hrx, hry, HR0, hown1, hbel1⟩
      case round =>
        clear hown1 hbel1 HR0 hrx hry
        obtain ⟨k, rx, ry, hk, rfl, rfl, rfl, hrx, hry, HR, hown, hbel⟩ := hrel
        by_cases hlt : k < n
        · have hll : (noiseTo s k ++ List.replicate (n - k) 0).length = n := hown.len
          have hc := hown.cell (i := k) (by omega)
          have hf := hown.free k
          clear hll
          go_wp2_with (go_at_call 59; refine (step_any rx ry _ hrx hry).mono ?_; rintro e w' ⟨rfl, rfl⟩)
          go_roundw
          case rel => exact ⟨k + 1, _, _, by omega, by go_num, rfl, rfl, by have := regX_lt (1600 + k + 1); rw [HR.out.1]; exact this, by have := regY_lt s hs (1600 + k + 1); rw [HR.out.2]; exact this, by rw [HR.out.1, HR.out.2]; exact ⟨rfl, rfl⟩, noise_set s n k rx ry hlt hrx hry HR.out ▸ hown.set k _, hbel.setCell (Nat.le_refl _) _⟩
          case measure => simp [intOf]; omega
        · go_wp2
          go_ret2
          obtain rfl : k = n := by omega
          rw [Nat.sub_self, List.replicate_zero, List.append_nil] at hown
          exact ⟨_, rfl, hown, hbel⟩
end Go.Proofs.YtplkmkbambbemaeGreatDoor
namespace Go.Proofs.YtplkmkbambbemaeGreatDoor
open Go.ChangeShapes Go.WideShapes Go.ChangeAt Go.RowKit
def bitN (n place : Nat) : Nat := n / 2 ^ place % 2
theorem bitN_or (n place : Nat) : bitN n place = 0 ∨ bitN n place = 1 := by unfold bitN; omega
/-- An axis's level of a number's lowest t bits. -/
def levM (n : Nat) : Nat → Int
  | 0 => 0
  | t + 1 => (1 - 2 * (bitN n t : Int)) * ((2 ^ t : Nat) - levM n t)
def levsM (h : Nat) : List Int := (List.range (2 ^ h)).map fun n => levM n h
/-- A point's bits of one axis as a number. -/
def numM (c : List Int) (axis : Nat) : Nat → Nat
  | 0 => 0
  | t + 1 => 2 * numM c axis t + (c.getD (axis + 2 * t) 0).toNat
def sqM (h : Nat) (x : Int) (n : Nat) : Int := (x - levM n h) * (x - levM n h)
def leastTo (h : Nat) (x : Int) (place bit : Nat) : Nat → Int
  | 0 => 9223372036854775807
  | j + 1 => if bitN j place = bit then min (leastTo h x place bit j) (sqM h x j) else leastTo h x place bit j
def hearM (h : Nat) (x : Int) (place : Nat) : Int := leastTo h x place 1 (2 ^ h) - leastTo h x place 0 (2 ^ h)
def nearA (h : Nat) (x : Int) : Nat → Nat
  | 0 => 0
  | j + 1 => if sqM h x j < sqM h x (nearA h x j) then j else nearA h x j
theorem nearA_lt (h : Nat) (x : Int) : ∀ j, 1 ≤ j → nearA h x j < j
  | 1, _ => by simp [nearA]
  | j + 2, _ => by
    have := nearA_lt h x (j + 1) (by omega)
    rw [nearA]
    split <;> omega
theorem nearA_bd (h : Nat) (x : Int) {j : Nat} (hj : j ≤ 2 ^ h) : nearA h x j < 2 ^ h := by
  by_cases e : j = 0
  · subst e; exact Nat.two_pow_pos h
  · have := nearA_lt h x j (by omega); omega
theorem levM_bd (n : Nat) : ∀ t, t ≤ 3 → -(7 : Int) ≤ levM n t ∧ levM n t ≤ 7
  | 0, _ => by simp [levM]
  | 1, _ => by
    rcases bitN_or n 0 with e | e <;> simp [levM, e]
  | 2, _ => by
    rcases bitN_or n 0 with e | e <;> rcases bitN_or n 1 with e2 | e2 <;> simp [levM, e, e2]
  | 3, _ => by
    rcases bitN_or n 0 with e | e <;> rcases bitN_or n 1 with e2 | e2 <;> rcases bitN_or n 2 with e3 | e3 <;> simp [levM, e, e2, e3]
  | t + 4, h => by omega
theorem sqM_bd {h : Nat} {x : Int} (hh : h ≤ 3) (hx : -1000 ≤ x ∧ x ≤ 1000) (n : Nat) : 0 ≤ sqM h x n ∧ sqM h x n ≤ 4000000 := by
  have h1 := levM_bd n h hh
  have sq : ∀ z : Int, -2000 ≤ z ∧ z ≤ 2000 → 0 ≤ z * z ∧ z * z ≤ 4000000 := fun z hz => by
    have h1 : z * z = (z.natAbs * z.natAbs : Nat) := by rw [Int.natAbs_mul_self]
    have h2 : z.natAbs * z.natAbs ≤ 2000 * 2000 := Nat.mul_le_mul (by omega) (by omega)
    omega
  exact sq _ (by omega)
/-- What the program has gathered of one point behind t pairs of bits. -/
def pairsTo (F G : Nat → Int) (h : Nat) (t : Nat) : List Int := (List.range t).flatMap fun s => [F (h - 1 - s), G (h - 1 - s)]
theorem pairsTo_succ (F G : Nat → Int) (h t : Nat) : pairsTo F G h (t + 1) = pairsTo F G h t ++ [F (h - 1 - t), G (h - 1 - t)] := by
  unfold pairsTo
  rw [List.range_succ, List.flatMap_append]
  simp
end Go.Proofs.YtplkmkbambbemaeGreatDoor
namespace Go.Proofs.YtplkmkbambbemaeGreatDoor
open Go.ChangeShapes Go.WideShapes Go.ChangeAt Go.RowKit
def ordErr (order : Int) : Int := if ordOk5 order then 0 else 1
theorem ord_any (order : Int) (w : World) :
    Calls Tryz.prog 50 #[.int .i64 order] w fun e w' => e = .returned (.int .i64 (ordErr order)) ∧ w = w' := by
  by_cases o2 : order = 2
  · subst o2
    go_enter Tryz.func50, Tryz.ntmps50
    go_wp2
    go_ret
    exact ⟨rfl, rfl⟩
  · have q2 : (order == 2) = false := by simpa using o2
    by_cases o4 : order = 4
    · subst o4
      go_enter Tryz.func50, Tryz.ntmps50
      go_wp2
      go_ret
      exact ⟨rfl, rfl⟩
    · have q4 : (order == 4) = false := by simpa using o4
      by_cases o6 : order = 6
      · subst o6
        go_enter Tryz.func50, Tryz.ntmps50
        go_wp2
        go_ret
        exact ⟨rfl, rfl⟩
      · have q6 : (order == 6) = false := by simpa using o6
        have HV := hid (show (1 : Int) = ordErr order by unfold ordErr ordOk5; rw [decide_eq_false (by omega)]; rfl)
        clear o2 o4 o6
        go_enter Tryz.func50, Tryz.ntmps50
        go_wp2
        go_ret
        exact ⟨ret_int HV.out, rfl⟩
def farX (x : Int) : Bool := decide (x < -1000 ∨ 1000 < x)
theorem far_any (x : Int) (w : World) :
    Calls Tryz.prog 65 #[.int .i64 x] w fun e w' => e = .returned (.bool (farX x)) ∧ w = w' := by
  by_cases h1 : x < -1000
  · have HV := hid (show true = farX x from (decide_eq_true (Or.inl h1)).symm)
    go_enter Tryz.func65, Tryz.ntmps65
    go_wp2
    go_ret
    exact ⟨ret_boolQ HV.out, rfl⟩
  · have q1 : decide (x < -1000) = false := decide_eq_false h1
    have HV := hid (show decide (1000 < x) = farX x by unfold farX; simp [h1])
    go_enter Tryz.func65, Tryz.ntmps65
    go_wp2
    go_ret
    exact ⟨ret_boolQ HV.out, rfl⟩
theorem square_any (x : Int) (w : World) (hx : -3000 ≤ x ∧ x ≤ 3000) :
    Calls Tryz.prog 66 #[.int .i64 x] w fun e w' => e = .returned (.int .i64 (x * x)) ∧ w = w' := by
  have hsq : 0 ≤ x * x ∧ x * x ≤ 9000000 := by
    have h1 : x * x = (x.natAbs * x.natAbs : Nat) := by rw [Int.natAbs_mul_self]
    have h2 : x.natAbs * x.natAbs ≤ 3000 * 3000 := Nat.mul_le_mul (by omega) (by omega)
    omega
  go_enter Tryz.func66, Tryz.ntmps66
  go_wp2
  go_ret
  exact ⟨rfl, rfl⟩
theorem and1_8 : ∀ q : Fin 8, bits BinOp.and IntKind.i64 (q.val : Int) 1 = ((q.val % 2 : Nat) : Int) := by decide +kernel
theorem and1_at (p k : Nat) (hp : p < 8) : bits BinOp.and IntKind.i64 ((p : Int) / 2 ^ k) 1 = ((bitN p k : Nat) : Int) := by
  have hlt : p / 2 ^ k < 8 := Nat.lt_of_le_of_lt (Nat.div_le_self _ _) hp
  have := and1_8 ⟨p / 2 ^ k, hlt⟩
  unfold bitN
  rw [← this]
  simp
theorem lev_wrap (t y : Nat) (z : Int) (ht : t ≤ 2) (hy : y = 0 ∨ y = 1) (hz : -7 ≤ z ∧ z ≤ 7) : wrap64 ((1 - 2 * (y : Int)) * wrap64 (wrap64 (2 ^ t) - z)) = (1 - 2 * (y : Int)) * (((2 ^ t : Nat) : Int) - z) := by
  have h3 : t = 0 ∨ t = 1 ∨ t = 2 := by omega
  rcases h3 with rfl | rfl | rfl <;> rcases hy with rfl | rfl <;> simp [wrap64] <;> omega
set_option maxHeartbeats 1000000 in
theorem level_any (N h : Nat) (w : World) (hN : N < 8) (hh : h ≤ 3) :
    Calls Tryz.prog 64 #[.int .i64 N, .int .i64 h] w fun e w' => e = .returned (.int .i64 (levM N h)) ∧ w = w' := by
  go_enter Tryz.func64, Tryz.ntmps64
  go_wp2
  go_loop [5, 9] (fun l q => ∃ t : Nat, t ≤ h ∧ l = .int .i64 (levM N t) ∧ q = .int .i64 t) (fun _ q => h - (intOf q).toNat)
  case atStart => exact ⟨0, by omega, rfl, rfl⟩
  case round =>
    obtain ⟨t, ht, rfl, rfl⟩ := hrel
    by_cases hlt : t < h
    · have hA := and1_at N t hN
      have hb := bitN_or N t
      have hl := levM_bd N t (by omega)
      have HL := hid (show levM N (t + 1) = (1 - 2 * (bitN N t : Int)) * ((2 ^ t : Nat) - levM N t) from rfl)
      have HW := hid (lev_wrap t (bitN N t) (levM N t) (by omega) hb hl)
      generalize levM N t = z at *
      generalize bitN N t = y at *
      go_wp2
      go_round
      case rel => exact ⟨t + 1, by omega, by rw [HL.out, ← HW.out], by go_num⟩
      case measure => simp [intOf]; omega
    · obtain rfl : t = h := by omega
      go_wp2
      go_ret
      exact ⟨rfl, rfl⟩
theorem or1_8 : ∀ a : Fin 8, ∀ b : Fin 2, bits BinOp.or IntKind.i64 ((a.val : Int) * 2) (b.val : Int) = ((2 * a.val + b.val : Nat) : Int) := by decide +kernel
theorem numM_bd {c : List Int} (hb : ∀ j, c.getD j 0 = 0 ∨ c.getD j 0 = 1) (axis : Nat) : ∀ t, numM c axis t < 2 ^ t
  | 0 => by simp [numM]
  | t + 1 => by
    have h1 := numM_bd hb axis t
    have h2 := hb (axis + 2 * t)
    rw [numM, Nat.pow_succ]
    rcases h2 with h | h <;> rw [h] <;> simp <;> omega
set_option maxHeartbeats 1000000 in
theorem number_any (c : List Int) (axis h n : Nat) (a : Option Addr) (cap : Nat) (w : World) (hr : Rd .u8 w a c) (hl : c.length = n) (hn : n = 2 * h) (hh : h ≤ 3) (hx : axis ≤ 1) (hb : ∀ j, c.getD j 0 = 0 ∨ c.getD j 0 = 1) :
    Calls Tryz.prog 52 #[.slice a n cap, .int .i64 axis] w fun e w' => e = .returned (.int .i64 (numM c axis h)) ∧ w = w' := by
  have HL := hid hl
  have HN := hid hn
  have hn6 : n ≤ 6 := by omega
  clear hl hn
  go_enter Tryz.func52, Tryz.ntmps52
  go_wp2
  go_loop [5, 6] (fun l q => ∃ t p : Nat, t ≤ h ∧ Hid (p = axis + 2 * t) ∧ p ≤ 7 ∧ l = .int .i64 (numM c axis t) ∧ q = .int .i64 p) (fun _ q => 7 - (intOf q).toNat)
  case atStart => exact ⟨0, axis, by omega, by unfold Hid; omega, by omega, rfl, rfl⟩
  case round =>
    obtain ⟨t, p, ht, HP, hp7, rfl, rfl⟩ := hrel
    by_cases hlt : p < n
    · have hth : t < h := by have := HP.out; have := HN.out; omega
      obtain ⟨b1, o1, rfl, hc1⟩ := hr.at (i := p) (by rw [HL.out]; exact hlt)
      have g1 := hc1 p (by rw [HL.out]; exact hlt)
      have hbd := numM_bd hb axis t
      have hb8 : numM c axis t < 8 := Nat.lt_of_lt_of_le hbd (show 2 ^ t ≤ 2 ^ 3 from Nat.pow_le_pow_right (by omega) (by omega))
      have hbp := hb p
      have HS := hid (show numM c axis (t + 1) = 2 * numM c axis t + (c.getD p 0).toNat by rw [HP.out]; rfl)
      obtain ⟨x, ex⟩ : ∃ x : Nat, c.getD p 0 = (x : Int) := ⟨(c.getD p 0).toNat, by omega⟩
      rw [ex] at g1 hbp HS
      have hx1 : x ≤ 1 := by omega
      obtain ⟨N, eN⟩ : ∃ N, N = numM c axis t := ⟨_, rfl⟩
      rw [← eN] at hb8 HS
      rw [← eN]
      have HO := hid (or1_8 ⟨N, hb8⟩ ⟨x, by omega⟩)
      clear hc1 eN hbp hbd ex
      go_wp2
      go_round
      case rel => exact ⟨t + 1, p + 2, hth, by unfold Hid; have := HP.out; omega, by omega, by rw [HS.out, Int.toNat_natCast]; exact congrArg (Value.int .i64) HO.out, by go_num⟩
      case measure => simp [intOf]; omega
    · have hth : t = h := by have := HP.out; have := HN.out; omega
      subst hth
      go_wp2
      go_ret
      exact ⟨rfl, rfl⟩
end Go.Proofs.YtplkmkbambbemaeGreatDoor
