import Derived.Test.YtbmdjfolfmgmmagK01
import Derived.Deep.RegionLaw
namespace Go.Proofs.Ytbmdjfolfmgmmag
open Go.RowKit
/-- The number that t bits from place i on make, the first one the highest. -/
def num (zs : List Int) (i : Nat) : Nat → Int
  | 0 => 0
  | t + 1 => 2 * num zs i t + zs.getD (i + t) 0
def byteTo (zs : List Int) (k j : Nat) : Int := num zs (8 * j) (min 8 (k - 8 * j)) * 2 ^ (8 - min 8 (k - 8 * j))
def packTo (zs : List Int) (k : Nat) : List Int := (List.range ((zs.length + 7) / 8)).map (byteTo zs k)
def packL (zs : List Int) : List Int := (List.range ((zs.length + 7) / 8)).map fun j => num zs (8 * j) 8
theorem packL_length (zs : List Int) : (packL zs).length = (zs.length + 7) / 8 := by simp [packL]
theorem num_bd {zs : List Int} (h : Bits zs) (i : Nat) : ∀ t, 0 ≤ num zs i t ∧ num zs i t < 2 ^ t
  | 0 => by simp [num]
  | t + 1 => by
    have := num_bd h i t
    have := h (i + t)
    rw [num, Int.pow_succ]
    omega
theorem packTo_zero (zs : List Int) : packTo zs 0 = List.replicate ((zs.length + 7) / 8) 0 := by
  unfold packTo
  rw [List.eq_replicate_iff]
  refine ⟨by simp, fun x hx => ?_⟩
  obtain ⟨j, _, rfl⟩ := List.mem_map.1 hx
  simp [byteTo, num]
theorem num_pad (zs : List Int) (i m : Nat) (h : zs.length ≤ i + m) : ∀ d, num zs i (m + d) = num zs i m * 2 ^ d
  | 0 => by simp
  | d + 1 => by
    rw [← Nat.add_assoc, num, num_pad zs i m h d, Int.pow_succ]
    have : zs.getD (i + (m + d)) 0 = 0 := by
      rw [List.getD_eq_getElem?_getD, List.getElem?_eq_none (by omega)]; rfl
    rw [this, Int.add_zero, Int.mul_comm 2, Int.mul_assoc]
theorem packTo_all (zs : List Int) : packTo zs zs.length = packL zs := by
  unfold packTo packL
  refine List.map_congr_left fun j _ => ?_
  unfold byteTo
  by_cases h : 8 ≤ zs.length - 8 * j
  · rw [Nat.min_eq_left h]; simp
  · rw [Nat.min_eq_right (by omega)]
    have := num_pad zs (8 * j) (zs.length - 8 * j) (by omega) (8 - (zs.length - 8 * j))
    rw [← this]
    congr 1
    omega
theorem byteTo_other (zs : List Int) (k j : Nat) (h : j ≠ k / 8) : byteTo zs (k + 1) j = byteTo zs k j := by
  unfold byteTo
  have : min 8 (k + 1 - 8 * j) = min 8 (k - 8 * j) := by omega
  rw [this]
theorem byteTo_this (zs : List Int) (k : Nat) : byteTo zs (k + 1) (k / 8) = byteTo zs k (k / 8) + zs.getD k 0 * 2 ^ (7 - k % 8) := by
  unfold byteTo
  have e1 : min 8 (k + 1 - 8 * (k / 8)) = k % 8 + 1 := by omega
  have e2 : min 8 (k - 8 * (k / 8)) = k % 8 := by omega
  rw [e1, e2, num, show 8 * (k / 8) + k % 8 = k from by omega, show 8 - k % 8 = (7 - k % 8) + 1 from by omega, show 8 - (k % 8 + 1) = 7 - k % 8 from by omega, Int.pow_succ, Int.add_mul, Int.mul_comm 2, Int.mul_assoc, Int.mul_comm 2]
theorem byteTo_at (zs : List Int) (k : Nat) : byteTo zs k (k / 8) = num zs (8 * (k / 8)) (k % 8) * 2 ^ (8 - k % 8) := by
  unfold byteTo
  have e2 : min 8 (k - 8 * (k / 8)) = k % 8 := by omega
  rw [e2]
theorem packTo_getD (zs : List Int) (k j : Nat) (h : j < (zs.length + 7) / 8) : (packTo zs k).getD j 0 = byteTo zs k j := by
  simp [packTo, List.getD, h]
theorem packTo_set (zs : List Int) (k : Nat) (x : Int) (hx : x = byteTo zs (k + 1) (k / 8)) : (packTo zs k).set (k / 8) x = packTo zs (k + 1) := by
  refine List.ext_getElem (by simp [packTo]) fun j h1 h2 => ?_
  rw [List.getElem_set]
  split
  · rename_i e
    subst e
    rw [hx]
    simp [packTo]
  · rename_i e
    simp only [packTo, List.getElem_map, List.getElem_range]
    rw [byteTo_other zs k j (fun h => e h.symm)]
theorem or_add (a z m : Nat) (hz : z ≤ 1) : a * 2 ^ (m + 1) ||| z * 2 ^ m = a * 2 ^ (m + 1) + z * 2 ^ m := by
  have hlt : z * 2 ^ m < 2 ^ (m + 1) := by
    rw [Nat.pow_succ]
    have : 0 < 2 ^ m := Nat.pow_pos (by decide)
    have : z * 2 ^ m ≤ 1 * 2 ^ m := Nat.mul_le_mul_right _ hz
    omega
  rw [Nat.mul_comm a]
  exact (Nat.two_pow_add_eq_or_of_lt hlt a).symm
theorem pow_le_128 (m : Nat) (h : m ≤ 7) : (2 : Nat) ^ m ≤ 128 := by
  have := Nat.pow_le_pow_right (n := 2) (by decide) h
  simpa using this
/-- What the program lays into a byte: it is there already, or its place is free. -/
theorem or_step (zs : List Int) (k : Nat) (h : Bits zs) (p q : Int) (hp : p = byteTo zs k (k / 8)) (hq : q = zs.getD k 0 * 2 ^ (7 - k % 8)) :
    0 ≤ p ∧ p < 256 ∧ 0 ≤ q ∧ q ≤ 128 ∧ bits .or .u8 p q = byteTo zs (k + 1) (k / 8) := by
  have hb := num_bd h (8 * (k / 8)) (k % 8)
  have hz := h k
  have hr : k % 8 < 8 := Nat.mod_lt _ (by decide)
  rw [byteTo_at] at hp
  rw [byteTo_this, byteTo_at]
  obtain ⟨a, ha⟩ := Int.eq_ofNat_of_zero_le hb.1
  obtain ⟨z, hz'⟩ := Int.eq_ofNat_of_zero_le hz.1
  have hz1 : z ≤ 1 := by omega
  rw [ha] at hb hp ⊢
  rw [hz'] at hq ⊢
  obtain ⟨m, hm⟩ : ∃ m, k % 8 = 7 - m ∧ m ≤ 7 := ⟨7 - k % 8, by omega, by omega⟩
  rw [hm.1] at hb hp hq ⊢
  rw [show 8 - (7 - m) = m + 1 from by omega] at hp ⊢
  rw [show 7 - (7 - m) = m from by omega] at hq ⊢
  have hal : a < 2 ^ (7 - m) := by
    have := hb.2
    have h2 : ((2 : Int) ^ (7 - m)) = ((2 ^ (7 - m) : Nat) : Int) := by simp
    rw [h2] at this
    omega
  have hpN : p = ((a * 2 ^ (m + 1) : Nat) : Int) := by rw [hp]; simp
  have hqN : q = ((z * 2 ^ m : Nat) : Int) := by rw [hq]; simp
  have hp256 : a * 2 ^ (m + 1) < 256 := by
    have h1 : a * 2 ^ (m + 1) < 2 ^ (7 - m) * 2 ^ (m + 1) := Nat.mul_lt_mul_of_pos_right hal (Nat.pow_pos (by decide))
    rw [← Nat.pow_add, show 7 - m + (m + 1) = 8 from by omega] at h1
    simpa using h1
  have hq128 : z * 2 ^ m ≤ 128 := by
    have h1 : z * 2 ^ m ≤ 1 * 2 ^ m := Nat.mul_le_mul_right _ hz1
    have := pow_le_128 m hm.2
    omega
  refine ⟨by omega, by omega, by omega, by omega, ?_⟩
  rw [hpN, hqN, u8_or_nat _ _ hp256 (by omega), or_add a z m hz1]
  simp
def packUpto (zs : List Int) (j : Nat) : List Int := (List.range j).map fun j => num zs (8 * j) 8
theorem packUpto_succ (zs : List Int) (j : Nat) : packUpto zs (j + 1) = packUpto zs j ++ [num zs (8 * j) 8] := by simp [packUpto, List.range_succ]
theorem packUpto_length (zs : List Int) (j : Nat) : (packUpto zs j).length = j := by simp [packUpto]
theorem packUpto_all (zs : List Int) (j : Nat) (h1 : zs.length ≤ 8 * j) (h2 : j ≤ (zs.length + 7) / 8) : packUpto zs j = packL zs := by
  have : j = (zs.length + 7) / 8 := by omega
  subst this
  rfl
theorem num_byte {zs : List Int} (h : Bits zs) (i t : Nat) (ht : t ≤ 8) : 0 ≤ num zs i t ∧ num zs i t ≤ 255 := by
  have hb := num_bd h i t
  have h2 : (2 : Int) ^ t ≤ 256 := by
    have h3 : (2 : Nat) ^ t ≤ 256 := by
      have := Nat.pow_le_pow_right (n := 2) (by decide) ht
      simpa using this
    have h4 : ((2 : Int) ^ t) = ((2 ^ t : Nat) : Int) := by simp
    rw [h4]; omega
  omega
end Go.Proofs.Ytbmdjfolfmgmmag
namespace Go.Proofs.Ytbmdjfolfmgmmag
theorem num_split {zs : List Int} (h : Bits zs) (i m : Nat) : ∀ d, ∃ r : Int, 0 ≤ r ∧ r < 2 ^ d ∧ num zs i (m + d) = num zs i m * 2 ^ d + r
  | 0 => ⟨0, by simp⟩
  | d + 1 => by
    obtain ⟨r, h0, h1, h2⟩ := num_split h i m d
    have hb := h (i + (m + d))
    refine ⟨2 * r + zs.getD (i + (m + d)) 0, by omega, by rw [Int.pow_succ]; omega, ?_⟩
    rw [← Nat.add_assoc, num, h2, Int.pow_succ]
    have : num zs i m * (2 ^ d * 2) = 2 * (num zs i m * 2 ^ d) := by rw [← Int.mul_assoc, Int.mul_comm]
    rw [this]
    omega
theorem num_div {zs : List Int} (h : Bits zs) (i m d : Nat) : num zs i (m + d) / 2 ^ d = num zs i m := by
  obtain ⟨r, h0, h1, h2⟩ := num_split h i m d
  rw [h2]
  have hp : (0 : Int) < 2 ^ d := Int.pow_pos (by decide)
  rw [Int.add_comm, Int.add_mul_ediv_right _ _ (Int.ne_of_gt hp), Int.ediv_eq_zero_of_lt h0 h1, Int.zero_add]
theorem num_bit {zs : List Int} (h : Bits zs) (i t : Nat) (ht : t ≤ 7) : num zs i 8 / 2 ^ (7 - t) % 2 = zs.getD (i + t) 0 := by
  have := num_div h i (t + 1) (7 - t)
  rw [show t + 1 + (7 - t) = 8 from by omega] at this
  rw [this, num]
  have := h (i + t)
  omega
theorem byteAt_pack {zs : List Int} (h : Bits zs) (j : Nat) (hj : j < (zs.length + 7) / 8) : byteAt (strOfNums (packL zs)) j = num zs (8 * j) 8 := by
  have hs : (strOfNums (packL zs)).size = (zs.length + 7) / 8 := by rw [strOfNums_size, packL_length]
  rw [byteAt_eq _ _ (by rw [hs]; exact hj)]
  have hb := num_byte h (8 * j) 8 (Nat.le_refl _)
  have e : (strOfNums (packL zs))[j]'(by rw [hs]; exact hj) = UInt8.ofNat (num zs (8 * j) 8).toNat := by
    show ((packL zs).map fun n => UInt8.ofNat n.toNat).toArray[j]'_ = _
    simp [packL]
  rw [e]
  simp
  omega
theorem unpack_pack {zs : List Int} (h : Bits zs) (hz : zs.length ≤ 4096) : unpackErr (strOfNums (packL zs)) zs.length = 0 ∧ unpackL (strOfNums (packL zs)) zs.length = zs := by
  have hs : (strOfNums (packL zs)).size = (zs.length + 7) / 8 := by rw [strOfNums_size, packL_length]
  have he : unpackErr (strOfNums (packL zs)) zs.length = 0 := by
    unfold unpackErr
    rw [hs, if_neg (by omega), if_neg (by omega)]
  refine ⟨he, ?_⟩
  unfold unpackL
  rw [if_pos he, Int.toNat_natCast]
  refine List.ext_getElem (unpackTo_length _ _) fun k h1 h2 => ?_
  simp only [unpackTo, List.getElem_map, List.getElem_range]
  unfold bitAt
  rw [byteAt_pack h _ (by omega), num_bit h _ _ (by omega), show 8 * (k / 8) + k % 8 = k from by omega]
  simp [List.getD, h2]
end Go.Proofs.Ytbmdjfolfmgmmag
namespace Go.Proofs.Ytbmdjfolfmgmmag
open Go.RowKit
/-- 'append(out, y)' as a step of a region that draws its order. -/
theorem step_push {W : World} {ops : Array Oper} {o : Oper} {a : Act} {K : Act → World → Prop} {Q : Exit → Act → World → Prop} {E : Prop} {v : Value} {L : List Int} (B : Nat) (w00 : World) (g : Nat) (y : Int) (hown : Own W B v L) (hgd : o.guard = none) (s x : Operand)
    (ho : o.op = .call { callee := .builtin .append, args := #[s, x], argTypes := #[75, 75] }) (hs : a.eval s = v) (hx : a.eval x = .slice (some ⟨g, 0, none⟩) 1 1) (hcell : W.cell? ⟨g, 0, none⟩ = some (.int .u8 y)) (hlen : L.length < 70368744177664) (hbel : Below B w00 W) (hB : B ≤ W.heap.size)
    (h : ∀ v' w', Own w' B v' (L ++ [y]) → Below B w00 w' → K (a.put o.dst v') w') : if Region.wanted o (yielded ops a.tmps) = true then Oper.wp Try.prog o a W K Q else E := by
  have hw : Region.wanted o (yielded ops a.tmps) = true := by simp [Region.wanted, hgd]
  rw [if_pos hw]
  obtain ⟨i0, hi, hz0, hz1, hz2⟩ := info_parts Try.info5
  refine wp_append_own W s x 75 ho B 5 i0 (.int .u8 0) 1 1 Try.underlying75 hi hz0 hz1 hz2 rfl (by decide) v _ _ hs hown ⟨g, 0, none⟩ 1 1 [.int .u8 y] hx rfl ?_ ?_ ?_ ?_ hB ?_
  · intro j u hj
    match j, hj with
    | 0, hj =>
      simp at hj
      subst hj
      simpa [Addr.add] using hcell
  · intro u hu; simp at hu; subst hu; rfl
  · unfold maxLen; omega
  · omega
  · intro v' w' h1 h2 _
    exact h v' w' (Own.snoc h1) (hbel.grown h2 hB (own_blocks hown))
/-- The one cell of a block that was just laid. -/
theorem cell_one (w : World) (x : Value) (T : TypeId) : (w.alloc (.cells #[x] T)).drew.cell? ⟨w.heap.size, 0, none⟩ = some x := by
  show (w.alloc (.cells #[x] T)).cell? _ = _
  rw [cell_of_row _ _ _ _ _ _ (heap_alloc_new w _)]; rfl
end Go.Proofs.Ytbmdjfolfmgmmag
namespace Go.Proofs.Ytbmdjfolfmgmmag
open Go.ChangeShapes Go.WideShapes Go.ChangeAt Go.RowKit
/-- Two lists of bits, added place by place (as bytes are). -/
def addTo (xs ys : List Int) (k : Nat) : List Int := (List.range k).map fun i => (xs.getD i 0 + ys.getD i 0) % 2
theorem addTo_length (xs ys : List Int) (k : Nat) : (addTo xs ys k).length = k := by simp [addTo]
theorem addTo_succ (xs ys : List Int) (k : Nat) : addTo xs ys (k + 1) = addTo xs ys k ++ [(xs.getD k 0 + ys.getD k 0) % 2] := by simp [addTo, List.range_succ]
set_option maxHeartbeats 1000000 in
theorem added_any (xs ys : List Int) (a b : Option Addr) (ca cb m : Nat) (w : World) (ha : Rd .u8 w a xs) (hb : Rd .u8 w b ys) (hx : Bits xs) (hy : Bits ys) (hl : ys.length = m) (hm : xs.length ≤ m) (hz : m ≤ 4096) :
    Calls Try.prog 43 #[.slice a xs.length ca, .slice b m cb] w fun e w' => ∃ v, e = .returned v ∧ Own w' w.heap.size v (addTo xs ys xs.length) ∧ Below w.heap.size w w' := by
  have HL := hid hl
  clear hl
  go_enter Try.func43, Try.ntmps43
  go_wp2
  go_loopw [5, 6] (fun v i wr => ∃ k : Nat, k ≤ xs.length ∧ i = .int .i64 k ∧ Own wr w.heap.size v (addTo xs ys k) ∧ Below w.heap.size w wr) (fun _ i _ => xs.length - (intOf i).toNat)
  case atStart => exact ⟨0, Nat.zero_le _, rfl, Own.nil _ _, Below.refl _ _⟩
  case round =>
    obtain ⟨k, hk, rfl, hown, hbel⟩ := hrel
    have hsz := hbel.size
    by_cases hlt : k < xs.length
    · obtain ⟨b1, o1, rfl, hc1⟩ := (ha.below hbel).at hlt
      obtain ⟨b2, o2, rfl, hc2⟩ := (hb.below hbel).at (i := k) (by rw [HL.out]; omega)
      have g1 := hc1 k hlt
      have g2 := hc2 k (by rw [HL.out]; omega)
      have bx := hx k
      have by' := hy k
      clear hc1 hc2
      obtain ⟨x, ex⟩ : ∃ x, x = xs.getD k 0 := ⟨_, rfl⟩
      obtain ⟨y, ey⟩ : ∃ y, y = ys.getD k 0 := ⟨_, rfl⟩
      rw [← ex] at g1 bx
      rw [← ey] at g2 by'
      have EX := hid ex
      have EY := hid ey
      clear ex ey
      have hkm : (k : Int) < (m : Int) := by omega
      have hwr : IntKind.u8.wrap (x + y) = x + y := by rw [IntKind.wrap_u8']; omega
      have htm : (x + y).tmod 2 = (x + y) % 2 := Int.tmod_eq_emod_of_nonneg (by omega)
      go_wp2_with fail
      go_region_law (refine step_push w.heap.size w wr.heap.size ((x + y) % 2) (show Own (wr.alloc (.cells #[.int .u8 ((x + y) % 2)] 5)).drew _ _ _ from World.ownsRow.alloc hown _) rfl (.tmp 13) (.tmp 24) rfl rfl rfl (cell_one _ _ _) (by rw [addTo_length]; omega) (hbel.alloc hsz _).drew (by simp; omega) ?_; intro v' w1 hown' hbel')
      all_goals
        rw [EX.out, EY.out, ← addTo_succ] at hown'
        clear hown hbel
        go_wp2
        go_roundw
        case rel => exact ⟨k + 1, by omega, by go_num, hown', hbel'⟩
        case measure => simp [intOf]; omega
    · go_wp2
      go_ret
      obtain rfl : k = xs.length := by omega
      exact ⟨_, rfl, hown, hbel⟩
end Go.Proofs.Ytbmdjfolfmgmmag
namespace Go.Proofs.Ytbmdjfolfmgmmag
open Go.RowKit
/-- What is in the register ahead of the division's step: all a place up, the bit at the place W. -/
def fed (W r x : Nat) : Nat := (r * 2) ^^^ (x * 2 ^ W)
/-- One step of the register: P is the divisor, its highest place W among it. -/
def step (W P r x : Nat) : Nat := if fed W r x / 2 ^ W % 2 = 1 then fed W r x ^^^ P else fed W r x
/-- A divisor: of the degree W, with x^0. -/
structure Div (W P : Nat) : Prop where
  pos : 1 ≤ W
  top : P.testBit W = true
  low : P.testBit 0 = true
  lt : P < 2 ^ (W + 1)
theorem testBit_twice (r p : Nat) : (r * 2).testBit p = (decide (0 < p) && r.testBit (p - 1)) := by
  cases p with
  | zero => simp
  | succ p => rw [Nat.mul_comm, Nat.testBit_succ]; simp
theorem testBit_up (x W p : Nat) (hx : x ≤ 1) : (x * 2 ^ W).testBit p = (decide (p = W) && decide (x = 1)) := by
  rcases (show x = 0 ∨ x = 1 by omega) with rfl | rfl
  · simp
  · rw [Nat.one_mul, Nat.testBit_two_pow]
    simp [eq_comm]
theorem fed_bit (W r x p : Nat) (hx : x ≤ 1) : (fed W r x).testBit p = ((decide (0 < p) && r.testBit (p - 1)) ^^ (decide (p = W) && decide (x = 1))) := by
  unfold fed
  rw [Nat.testBit_xor, testBit_twice, testBit_up x W p hx]
/-- The bit that is divided out. -/
def topBit (W r x : Nat) : Bool := r.testBit (W - 1) ^^ decide (x = 1)
theorem fed_top (W r x : Nat) (hW : 1 ≤ W) (hx : x ≤ 1) : (fed W r x).testBit W = topBit W r x := by
  rw [fed_bit W r x W hx]
  have : decide (0 < W) = true := by simp; omega
  simp [topBit, this]
theorem step_bit {W P : Nat} (hD : Div W P) (r x p : Nat) (hx : x ≤ 1) : (step W P r x).testBit p = ((fed W r x).testBit p ^^ (topBit W r x && P.testBit p)) := by
  have ht := fed_top W r x hD.pos hx
  unfold step
  rw [Nat.testBit_eq_decide_div_mod_eq] at ht
  by_cases h : fed W r x / 2 ^ W % 2 = 1
  · rw [if_pos h, Nat.testBit_xor]
    have : topBit W r x = true := by rw [← ht]; simp [h]
    rw [this, Bool.true_and]
  · rw [if_neg h]
    have : topBit W r x = false := by rw [← ht]; simp [h]
    rw [this, Bool.false_and, Bool.xor_false]
theorem step_lt {W P : Nat} (hD : Div W P) (r x : Nat) (hr : r < 2 ^ W) (hx : x ≤ 1) : step W P r x < 2 ^ W := by
  apply Nat.lt_pow_two_of_testBit
  intro p hp
  rw [step_bit hD r x p hx, fed_bit W r x p hx]
  rcases Nat.eq_or_lt_of_le hp with rfl | h
  · have : decide (0 < W) = true := by have := hD.pos; simp; omega
    rw [hD.top]
    simp [topBit, this]
  · have h1 : r.testBit (p - 1) = false := Nat.testBit_lt_two_pow (Nat.lt_of_lt_of_le hr (Nat.pow_le_pow_right (by decide) (by omega)))
    have h2 : P.testBit p = false := Nat.testBit_lt_two_pow (Nat.lt_of_lt_of_le hD.lt (Nat.pow_le_pow_right (by decide) (by omega)))
    have h3 : decide (p = W) = false := by simp; omega
    simp [h1, h2, h3]
/-- The register behind bits. -/
def crc (W P : Nat) (zs : List Int) : Nat := zs.foldl (fun r x => step W P r x.toNat) 0
theorem crc_snoc (W P : Nat) (zs : List Int) (x : Int) : crc W P (zs ++ [x]) = step W P (crc W P zs) x.toNat := by simp [crc]
theorem crc_take (W P : Nat) (zs : List Int) (k : Nat) (hk : k < zs.length) : crc W P (zs.take (k + 1)) = step W P (crc W P (zs.take k)) (zs.getD k 0).toNat := by
  rw [List.take_succ_eq_append_getElem hk, crc_snoc]
  simp [List.getD, hk]
theorem crc_lt {W P : Nat} (hD : Div W P) {zs : List Int} (h : Bits zs) : ∀ k, crc W P (zs.take k) < 2 ^ W
  | 0 => by simp [crc]; exact Nat.pow_pos (by decide)
  | k + 1 => by
    by_cases hk : k < zs.length
    · rw [crc_take W P zs k hk]
      exact step_lt hD _ _ (crc_lt hD h k) (by have := h k; omega)
    · have : zs.take (k + 1) = zs.take k := by rw [List.take_of_length_le (by omega), List.take_of_length_le (by omega)]
      rw [this]; exact crc_lt hD h k
def b2i (b : Bool) : Int := if b then 1 else 0
theorem b2i_bd (b : Bool) : 0 ≤ b2i b ∧ b2i b ≤ 1 := by cases b <;> simp [b2i]
/-- The sum as a list of bits. -/
def sumTo (W P : Nat) (zs : List Int) (k : Nat) : List Int := (List.range k).map fun i => b2i ((crc W P zs).testBit (W - 1 - i))
def sumL (W P : Nat) (zs : List Int) : List Int := sumTo W P zs W
theorem sumTo_length (W P : Nat) (zs : List Int) (k : Nat) : (sumTo W P zs k).length = k := by simp [sumTo]
theorem sumL_length (W P : Nat) (zs : List Int) : (sumL W P zs).length = W := sumTo_length _ _ _ _
theorem sumTo_succ (W P : Nat) (zs : List Int) (k : Nat) : sumTo W P zs (k + 1) = sumTo W P zs k ++ [b2i ((crc W P zs).testBit (W - 1 - k))] := by simp [sumTo, List.range_succ]
end Go.Proofs.Ytbmdjfolfmgmmag
