import Derived.Test.YtplkmkbambbemadGreatDoorK02
import Derived.Test.YtplkmkbambbemadGreatDoorK01
import Derived.Test.YtplkmkbambbemadGreatDoorK04
namespace Go.Proofs.YtplkmkbambbemadGreatDoor
open Go.ChangeShapes Go.WideShapes Go.ChangeAt Go.RowKit
/-- The bit at a place, 0 outside. -/
def bitI (zs : List Int) (j : Int) : Int := if j < 0 then 0 else zs.getD j.toNat 0
theorem bitI_bd {zs : List Int} (h : Bits zs) (j : Int) : 0 ≤ bitI zs j ∧ bitI zs j ≤ 1 := by
  unfold bitI
  split
  · omega
  · exact h _
set_option maxHeartbeats 400000 in
theorem coded_at (zs : List Int) (a : Option Addr) (c B : Nat) (j : Int) (w : World) (hB : w.cell? ⟨B, 0, none⟩ = some (.slice a zs.length c)) (ha : Rd .u8 w a zs) :
    Calls Tryz.prog 110 #[.int .i64 j, .pointer (some ⟨B, 0, none⟩)] w fun e w' => e = .returned (.int .u8 (bitI zs j)) ∧ w = w' := by
  by_cases h1 : j < 0
  · have hv := hid (show (0 : Int) = bitI zs j by unfold bitI; rw [if_pos h1])
    go_enter Tryz.func110, Tryz.ntmps110
    go_wp2
    go_ret
    exact ⟨ret_int hv.out, rfl⟩
  · have d1 : decide (j < 0) = false := decide_eq_false h1
    obtain ⟨J, rfl⟩ := Int.eq_ofNat_of_zero_le (show 0 ≤ j by omega)
    by_cases h2 : J < zs.length
    · obtain ⟨b1, o1, rfl, hc1⟩ := ha.at h2
      have g1 := hc1 J h2
      have d2 : decide ((zs.length : Int) ≤ (J : Int)) = false := decide_eq_false (by omega)
      have hv := hid (show zs.getD J 0 = bitI zs J by unfold bitI; rw [if_neg h1, Int.toNat_natCast])
      clear hc1
      obtain ⟨x, ex⟩ : ∃ x, x = zs.getD J 0 := ⟨_, rfl⟩
      rw [← ex] at g1
      have EX := hid ex
      clear ex
      go_enter Tryz.func110, Tryz.ntmps110
      go_wp2
      go_ret
      exact ⟨ret_int (EX.out.trans hv.out), rfl⟩
    · have d2 : decide ((zs.length : Int) ≤ (J : Int)) = true := decide_eq_true (by omega)
      have hv := hid (show (0 : Int) = bitI zs J by
        unfold bitI
        rw [if_neg h1, Int.toNat_natCast]
        simp [List.getD, Nat.le_of_not_lt h2])
      go_enter Tryz.func110, Tryz.ntmps110
      go_wp2
      go_ret
      exact ⟨ret_int hv.out, rfl⟩
/-- The three coded bits of the place i. -/
def trip (zs : List Int) (i : Nat) : List Int :=
  [(bitI zs i + bitI zs (i - 1) + bitI zs (i - 2) + bitI zs (i - 3) + bitI zs (i - 6)) % 2, (bitI zs i + bitI zs (i - 2) + bitI zs (i - 3) + bitI zs (i - 5) + bitI zs (i - 6)) % 2, (bitI zs i + bitI zs (i - 1) + bitI zs (i - 2) + bitI zs (i - 4) + bitI zs (i - 6)) % 2]
def codedTo (zs : List Int) : Nat → List Int
  | 0 => []
  | i + 1 => codedTo zs i ++ trip zs i
theorem codedTo_length (zs : List Int) : ∀ i, (codedTo zs i).length = 3 * i
  | 0 => rfl
  | i + 1 => by rw [codedTo, List.length_append, codedTo_length zs i]; simp [trip]; omega
theorem codedTo_succ (zs : List Int) (i : Nat) : codedTo zs (i + 1) = codedTo zs i ++ trip zs i := rfl
def arrV (zs : List Int) (i k : Nat) : List Int := (List.range 7).map fun j => if j < k then bitI zs ((i : Int) - (j : Int)) else 0
theorem arrV_length (zs : List Int) (i k : Nat) : (arrV zs i k).length = 7 := by simp [arrV]
theorem arrV_at (zs : List Int) (i j : Nat) (h : j < 7) : (arrV zs i 7).getD j 0 = bitI zs ((i : Int) - (j : Int)) := by simp [arrV, List.getD, h]
theorem arrV_set (zs : List Int) (i k : Nat) : (arrV zs i k).set k (bitI zs ((i : Int) - (k : Int))) = arrV zs i (k + 1) := by
  refine List.ext_getElem (by simp [arrV]) fun j h1 h2 => ?_
  rw [List.getElem_set]
  split
  · rename_i e
    subst e
    simp [arrV]
  · rename_i e
    simp only [arrV, List.getElem_map, List.getElem_range]
    by_cases hj : j < k
    · rw [if_pos hj, if_pos (by omega)]
    · rw [if_neg hj, if_neg (by omega)]
theorem arr_cell {w : World} {g : Nat} {L : List Int} {T : TypeId} (hg : w.heap[g]? = some (.cells (L.map (Value.int .u8)).toArray T (0, 0))) {j : Nat} (h : j < L.length) : w.cell? ⟨g, j, none⟩ = some (.int .u8 (L.getD j 0)) := by
  rw [cell_of_row w g j _ T (0, 0) hg]
  simp [List.getD, h]
theorem arr_set {w : World} {g : Nat} {L : List Int} {T : TypeId} (hg : w.heap[g]? = some (.cells (L.map (Value.int .u8)).toArray T (0, 0))) (k : Nat) (x : Int) : (w.setCell ⟨g, k, none⟩ (.int .u8 x)).heap[g]? = some (.cells ((L.set k x).map (Value.int .u8)).toArray T (0, 0)) := by
  rw [heap_setCell_same w g k _ T _ hg, List.map_set]
  simp
theorem trip_eq (zs : List Int) (i : Nat) : trip zs i = [(bitI zs ((i : Int) - ((0 : Nat) : Int)) + bitI zs ((i : Int) - ((1 : Nat) : Int)) + bitI zs ((i : Int) - ((2 : Nat) : Int)) + bitI zs ((i : Int) - ((3 : Nat) : Int)) + bitI zs ((i : Int) - ((6 : Nat) : Int))) % 2,
    (bitI zs ((i : Int) - ((0 : Nat) : Int)) + bitI zs ((i : Int) - ((2 : Nat) : Int)) + bitI zs ((i : Int) - ((3 : Nat) : Int)) + bitI zs ((i : Int) - ((5 : Nat) : Int)) + bitI zs ((i : Int) - ((6 : Nat) : Int))) % 2,
    (bitI zs ((i : Int) - ((0 : Nat) : Int)) + bitI zs ((i : Int) - ((1 : Nat) : Int)) + bitI zs ((i : Int) - ((2 : Nat) : Int)) + bitI zs ((i : Int) - ((4 : Nat) : Int)) + bitI zs ((i : Int) - ((6 : Nat) : Int))) % 2] := by
  unfold trip
  simp
/-- 'append(out, x, y, z)'. -/
theorem wpList_push3 {ops : Array Oper} {rest : List Oper} {o : Oper} {a : Act} {Q : Exit → Act → World → Prop} {w0 : World} {v : Value} {L : List Int} (B : Nat) (w00 : World) (x y z : Int) (hown : Own w0 B v L) (hgd : o.guard = none) (s t : Operand)
    (ho : o.op = .call { callee := .builtin .append, args := #[s, t], argTypes := #[22, 22] }) (hs : a.eval s = v)
    (hx : a.eval t = .slice (some ⟨w0.heap.size, 0, none⟩) 3 3) (hlen : L.length < 70368744177664) (hbel : Below B w00 w0) (hB : B ≤ w0.heap.size)
    (h : ∀ v' w', Own w' B v' (L ++ [x, y, z]) → Below B w00 w' → wpList Tryz.prog ops Q rest (a.put o.dst v') w') : wpList Tryz.prog ops Q (o :: rest) a (w0.alloc (.cells #[.int .u8 x, .int .u8 y, .int .u8 z] 5)) := by
  obtain ⟨i0, hi, hz0, hz1, hz2⟩ := info_parts Tryz.info5
  refine wpList_append_own _ hgd s t 22 ho B 5 i0 (.int .u8 0) 1 1 Tryz.underlying22 hi hz0 hz1 hz2 rfl (by decide) v _ _ hs (World.ownsRow.alloc hown _) ⟨w0.heap.size, 0, none⟩ 3 3 [.int .u8 x, .int .u8 y, .int .u8 z] hx rfl ?_ ?_ ?_ ?_ ?_ ?_
  · intro j u hj
    have e1 : (⟨w0.heap.size, 0, none⟩ : Addr).add j = ⟨w0.heap.size, j, none⟩ := by unfold Addr.add; split <;> simp_all
    rw [e1, cell_of_row _ _ _ _ _ _ (heap_alloc_new w0 _), ← hj]
    simp
  · intro u hu; simp at hu; rcases hu with rfl | rfl | rfl <;> rfl
  · unfold maxLen; omega
  · omega
  · simp; omega
  · intro v' w' h1 h2 _
    refine h v' w' ?_ ((hbel.alloc hB _).grown h2 (by simp; omega) (own_blocks hown))
    unfold Own
    rw [List.length_append, List.map_append]
    exact h1
set_option maxRecDepth 100000 in
set_option maxHeartbeats 2000000 in
theorem rcoded_any (zs : List Int) (a : Option Addr) (c : Nat) (w : World) (ha : Rd .u8 w a zs) (hb : Bits zs) (hz : zs.length ≤ 400) :
    Calls Tryz.prog 76 #[.slice a zs.length c] w fun e w' => ∃ v, e = .returned v ∧ Own w' w.heap.size v (codedTo zs (zs.length + 6)) ∧ Below w.heap.size w w' := by
  go_enter Tryz.func76, Tryz.ntmps76
  have hcb : (w.alloc (.cells #[.slice a zs.length c] 22)).cell? ⟨w.heap.size, 0, none⟩ = some (.slice a zs.length c) := by
    rw [cell_of_row _ _ _ _ _ _ (heap_alloc_new w _)]; rfl
  have hszb : (w.alloc (.cells #[.slice a zs.length c] 22)).heap.size = w.heap.size + 1 := by simp
  have hbb : Below w.heap.size w (w.alloc (.cells #[.slice a zs.length c] 22)) := (Below.refl _ _).alloc (Nat.le_refl _) _
  go_wp2
  generalize hwb : w.alloc (.cells #[.slice a zs.length c] 22) = wb at *
  clear hwb
  have HSZ := hid hszb
  have hszb' : w.heap.size < wb.heap.size := by omega
  clear hszb
  have hab := ha.below hbb
  go_loopw [4, 5] (fun v q wr => ∃ i : Nat, i ≤ zs.length + 6 ∧ q = .int .i64 i ∧ Own wr wb.heap.size v (codedTo zs i) ∧ Below wb.heap.size wb wr) (fun _ q _ => zs.length + 6 - (intOf q).toNat)
  case atStart => exact ⟨0, Nat.zero_le _, rfl, Own.nil _ _, Below.refl _ _⟩
  case round =>
    obtain ⟨i, hi, rfl, hown, hbel⟩ := hrel
    have hcb1 := (hbel.cell (p := ⟨w.heap.size, 0, none⟩) hszb').trans hcb
    by_cases hlt : i < zs.length + 6
    · have hdec : decide ((i : Int) < (zs.length : Int) + 6) = true := decide_eq_true (by omega)
      go_wp2
      obtain ⟨wo, rfl⟩ : ∃ wo : World, wo = wr := ⟨_, rfl⟩
      have hszo := hbel.size
      go_loopw [7] (fun q wr => ∃ k : Nat, k ≤ 7 ∧ q = .int .i64 k ∧ wr.heap[wo.heap.size]? = some (.cells ((arrV zs i k).map (Value.int .u8)).toArray 155 (0, 0)) ∧ Below wo.heap.size wo wr) (fun q _ => 7 - (intOf q).toNat)
      case atStart => exact ⟨0, by omega, rfl, heap_alloc_new wo _, (Below.refl _ _).alloc (Nat.le_refl _) _⟩
      case round =>
        obtain ⟨k, hk, rfl, hg, hbi⟩ := hrel
        have hcb2 := (hbi.cell (p := ⟨w.heap.size, 0, none⟩) (by show w.heap.size < wo.heap.size; omega)).trans hcb1
        have hab2 := (hab.below hbel).below hbi
        by_cases hk7 : k < 7
        · have hcell := arr_cell hg (j := k) (by rw [arrV_length]; exact hk7)
          have hfr := frozen_of_row wr wo.heap.size k _ 155 hg
          go_wp2_with (go_at_call 110; refine (coded_at zs a c w.heap.size ((i : Int) - (k : Int)) _ hcb2 hab2).mono ?_; rintro e w' ⟨rfl, rfl⟩)
          have hset := arr_set hg k (bitI zs ((i : Int) - (k : Int)))
          rw [arrV_set zs i k] at hset
          have hbi' := hbi.setCell (p := ⟨wo.heap.size, k, none⟩) (Nat.le_refl _) (.int .u8 (bitI zs ((i : Int) - (k : Int))))
          go_roundw
          case rel => first | exact ⟨k + 1, by omega, by go_num, hset, hbi'⟩ | ((repeat apply Exists.intro); exact ⟨⟨k + 1, by omega, by go_num, hset, hbi'⟩, rfl⟩)
          case measure => simp [intOf]; omega
        · obtain rfl : k = 7 := by omega
          have c0 := arr_cell hg (j := 0) (by rw [arrV_length]; omega)
          have c1 := arr_cell hg (j := 1) (by rw [arrV_length]; omega)
          have c2 := arr_cell hg (j := 2) (by rw [arrV_length]; omega)
          have c3 := arr_cell hg (j := 3) (by rw [arrV_length]; omega)
          have c4 := arr_cell hg (j := 4) (by rw [arrV_length]; omega)
          have c5 := arr_cell hg (j := 5) (by rw [arrV_length]; omega)
          have c6 := arr_cell hg (j := 6) (by rw [arrV_length]; omega)
          rw [arrV_at _ _ _ (by omega)] at c0 c1 c2 c3 c4 c5 c6
          have hownI := hown.below hbi
          have hbI := hbel.trans (hbi.mono hszo)
          have b0 := bitI_bd hb ((i : Int) - ((0 : Nat) : Int))
          have b1 := bitI_bd hb ((i : Int) - ((1 : Nat) : Int))
          have b2 := bitI_bd hb ((i : Int) - ((2 : Nat) : Int))
          have b3 := bitI_bd hb ((i : Int) - ((3 : Nat) : Int))
          have b4 := bitI_bd hb ((i : Int) - ((4 : Nat) : Int))
          have b5 := bitI_bd hb ((i : Int) - ((5 : Nat) : Int))
          have b6 := bitI_bd hb ((i : Int) - ((6 : Nat) : Int))
          have htr := hid (trip_eq zs i)
          generalize bitI zs ((i : Int) - ((0 : Nat) : Int)) = x0 at *
          generalize bitI zs ((i : Int) - ((1 : Nat) : Int)) = x1 at *
          generalize bitI zs ((i : Int) - ((2 : Nat) : Int)) = x2 at *
          generalize bitI zs ((i : Int) - ((3 : Nat) : Int)) = x3 at *
          generalize bitI zs ((i : Int) - ((4 : Nat) : Int)) = x4 at *
          generalize bitI zs ((i : Int) - ((5 : Nat) : Int)) = x5 at *
          generalize bitI zs ((i : Int) - ((6 : Nat) : Int)) = x6 at *
          clear hg hcb2 hab2
          go_wp2_with (first | (at_builtin; refine wpList_push3 wb.heap.size wb ((x0 + x1 + x2 + x3 + x6) % 2) ((x0 + x2 + x3 + x5 + x6) % 2) ((x0 + x1 + x2 + x4 + x6) % 2) hownI rfl _ _ rfl rfl rfl (by rw [codedTo_length]; omega) hbI hbI.size ?_))
          intro v' w1 hown' hbel'
          rw [← htr.out, ← codedTo_succ] at hown'
          clear hown hbel hownI hbI
          go_wp2
          go_roundw
          case rel => first | exact ⟨i + 1, by omega, by go_num, hown', hbel'⟩ | ((repeat apply Exists.intro); exact ⟨⟨i + 1, by omega, by go_num, hown', hbel'⟩, rfl⟩)
          case measure => simp [intOf]; omega
    · obtain rfl : i = zs.length + 6 := by omega
      go_wp2
      go_ret
      exact ⟨_, rfl, hown.mono hbb.size, bthen hbb hbel⟩
end Go.Proofs.YtplkmkbambbemadGreatDoor
namespace Go.Proofs.YtplkmkbambbemadGreatDoor
open Go.RowKit
/-- What is in the register ahead of the division's step: all a place up, the bit at the place W. -/
def fed (W r x : Nat) : Nat := (r * 2) ^^^ (x * 2 ^ W)
/-- One step of the register: P is the divisor, its highest place W among it. -/
def step (W P r x : Nat) : Nat := if fed W r x / 2 ^ W % 2 = 1 then fed W r x ^^^ P else fed W r x
/-- A divisor: of the degree W, with x^0. -/
structure Div (W P : Nat) : Prop where
  pos : 1 ≤ W
  top : P.testBit W = true
  low : P.testBit 0 = true
  lt : P < 2 ^ (W + 1)
theorem testBit_twice (r p : Nat) : (r * 2).testBit p = (decide (0 < p) && r.testBit (p - 1)) := by
  cases p with
  | zero => simp
  | succ p => rw [Nat.mul_comm, Nat.testBit_succ]; simp
theorem testBit_up (x W p : Nat) (hx : x ≤ 1) : (x * 2 ^ W).testBit p = (decide (p = W) && decide (x = 1)) := by
  rcases (show x = 0 ∨ x = 1 by omega) with rfl | rfl
  · simp
  · rw [Nat.one_mul, Nat.testBit_two_pow]
    simp [eq_comm]
theorem fed_bit (W r x p : Nat) (hx : x ≤ 1) : (fed W r x).testBit p = ((decide (0 < p) && r.testBit (p - 1)) ^^ (decide (p = W) && decide (x = 1))) := by
  unfold fed
  rw [Nat.testBit_xor, testBit_twice, testBit_up x W p hx]
/-- The bit that is divided out. -/
def topBit (W r x : Nat) : Bool := r.testBit (W - 1) ^^ decide (x = 1)
theorem fed_top (W r x : Nat) (hW : 1 ≤ W) (hx : x ≤ 1) : (fed W r x).testBit W = topBit W r x := by
  rw [fed_bit W r x W hx]
  have : decide (0 < W) = true := by simp; omega
  simp [topBit, this]
theorem step_bit {W P : Nat} (hD : Div W P) (r x p : Nat) (hx : x ≤ 1) : (step W P r x).testBit p = ((fed W r x).testBit p ^^ (topBit W r x && P.testBit p)) := by
  have ht := fed_top W r x hD.pos hx
  unfold step
  rw [Nat.testBit_eq_decide_div_mod_eq] at ht
  by_cases h : fed W r x / 2 ^ W % 2 = 1
  · rw [if_pos h, Nat.testBit_xor]
    have : topBit W r x = true := by rw [← ht]; simp [h]
    rw [this, Bool.true_and]
  · rw [if_neg h]
    have : topBit W r x = false := by rw [← ht]; simp [h]
    rw [this, Bool.false_and, Bool.xor_false]
theorem step_lt {W P : Nat} (hD : Div W P) (r x : Nat) (hr : r < 2 ^ W) (hx : x ≤ 1) : step W P r x < 2 ^ W := by
  apply Nat.lt_pow_two_of_testBit
  intro p hp
  rw [step_bit hD r x p hx, fed_bit W r x p hx]
  rcases Nat.eq_or_lt_of_le hp with rfl | h
  · have : decide (0 < W) = true := by have := hD.pos; simp; omega
    rw [hD.top]
    simp [topBit, this]
  · have h1 : r.testBit (p - 1) = false := Nat.testBit_lt_two_pow (Nat.lt_of_lt_of_le hr (Nat.pow_le_pow_right (by decide) (by omega)))
    have h2 : P.testBit p = false := Nat.testBit_lt_two_pow (Nat.lt_of_lt_of_le hD.lt (Nat.pow_le_pow_right (by decide) (by omega)))
    have h3 : decide (p = W) = false := by simp; omega
    simp [h1, h2, h3]
/-- The register behind bits. -/
def crc (W P : Nat) (zs : List Int) : Nat := zs.foldl (fun r x => step W P r x.toNat) 0
theorem crc_snoc (W P : Nat) (zs : List Int) (x : Int) : crc W P (zs ++ [x]) = step W P (crc W P zs) x.toNat := by simp [crc]
theorem crc_take (W P : Nat) (zs : List Int) (k : Nat) (hk : k < zs.length) : crc W P (zs.take (k + 1)) = step W P (crc W P (zs.take k)) (zs.getD k 0).toNat := by
  rw [List.take_succ_eq_append_getElem hk, crc_snoc]
  simp [List.getD, hk]
theorem bits_take {zs : List Int} (h : Bits zs) (m : Nat) : Bits (zs.take m) := fun k => by
  by_cases hk : k < m
  · have : (zs.take m).getD k 0 = zs.getD k 0 := by simp [List.getD, hk]
    rw [this]; exact h k
  · have : (zs.take m).getD k 0 = 0 := by simp [List.getD, List.getElem?_take, hk]
    rw [this]; omega
theorem crc_lt {W P : Nat} (hD : Div W P) {zs : List Int} (h : Bits zs) : ∀ k, crc W P (zs.take k) < 2 ^ W
  | 0 => by simp [crc]; exact Nat.pow_pos (by decide)
  | k + 1 => by
    by_cases hk : k < zs.length
    · rw [crc_take W P zs k hk]
      exact step_lt hD _ _ (crc_lt hD h k) (by have := h k; omega)
    · have : zs.take (k + 1) = zs.take k := by rw [List.take_of_length_le (by omega), List.take_of_length_le (by omega)]
      rw [this]; exact crc_lt hD h k
def b2i (b : Bool) : Int := if b then 1 else 0
theorem b2i_bd (b : Bool) : 0 ≤ b2i b ∧ b2i b ≤ 1 := by cases b <;> simp [b2i]
/-- The sum as a list of bits. -/
def sumTo (W P : Nat) (zs : List Int) (k : Nat) : List Int := (List.range k).map fun i => b2i ((crc W P zs).testBit (W - 1 - i))
def sumL (W P : Nat) (zs : List Int) : List Int := sumTo W P zs W
theorem sumTo_length (W P : Nat) (zs : List Int) (k : Nat) : (sumTo W P zs k).length = k := by simp [sumTo]
theorem sumL_length (W P : Nat) (zs : List Int) : (sumL W P zs).length = W := sumTo_length _ _ _ _
theorem sumTo_succ (W P : Nat) (zs : List Int) (k : Nat) : sumTo W P zs (k + 1) = sumTo W P zs k ++ [b2i ((crc W P zs).testBit (W - 1 - k))] := by simp [sumTo, List.range_succ]
end Go.Proofs.YtplkmkbambbemadGreatDoor
namespace Go.Proofs.YtplkmkbambbemadGreatDoor
def zb (zs : List Int) (j : Nat) : Bool := decide (zs.getD j 0 = 1)
/-- What stands at place j when i places are divided out. -/
def cellB (W P : Nat) (zs : List Int) (i j : Nat) : Bool := if j < i then false else (zb zs j ^^ (decide (j < i + W) && (crc W P (zs.take i)).testBit (W - 1 - (j - i))))
theorem zb_bit {zs : List Int} (h : Bits zs) (j : Nat) : decide ((zs.getD j 0).toNat = 1) = zb zs j := by
  have := h j
  unfold zb
  rw [decide_eq_decide]
  omega
theorem b2i_zb {zs : List Int} (h : Bits zs) (j : Nat) : b2i (zb zs j) = zs.getD j 0 := by
  have := h j
  unfold zb b2i
  by_cases e : zs.getD j 0 = 1
  · rw [e]; rfl
  · have e0 : zs.getD j 0 = 0 := by omega
    rw [e0]; rfl
theorem cell_top {W P : Nat} (hD : Div W P) {zs : List Int} (h : Bits zs) (i : Nat) : cellB W P zs i i = topBit W (crc W P (zs.take i)) (zs.getD i 0).toNat := by
  have hW := hD.pos
  unfold cellB topBit
  rw [if_neg (Nat.lt_irrefl _), zb_bit h i, Nat.sub_self]
  have : decide (i < i + W) = true := by simp; omega
  rw [this, Bool.true_and, Bool.xor_comm]
  rfl
theorem cell_step {W P : Nat} (hD : Div W P) {zs : List Int} (h : Bits zs) {i : Nat} (hi : i < zs.length) (j : Nat) :
    cellB W P zs (i + 1) j = (cellB W P zs i j ^^ (decide (i ≤ j ∧ j ≤ i + W) && (cellB W P zs i i && P.testBit (W - (j - i))))) := by
  have hW := hD.pos
  have hx : (zs.getD i 0).toNat ≤ 1 := by have := h i; omega
  have ht := cell_top hD h i
  have hc : ∀ p, (crc W P (zs.take (i + 1))).testBit p = (((decide (0 < p) && (crc W P (zs.take i)).testBit (p - 1)) ^^ (decide (p = W) && decide ((zs.getD i 0).toNat = 1))) ^^ (cellB W P zs i i && P.testBit p)) := fun p => by
    rw [crc_take W P zs i hi, step_bit hD _ _ p hx, fed_bit _ _ _ p hx, ← ht]
  generalize htt : cellB W P zs i i = t at *
  by_cases h1 : j < i
  · have e1 : decide (i ≤ j ∧ j ≤ i + W) = false := by simp; omega
    rw [e1]
    unfold cellB
    rw [if_pos (by omega), if_pos h1]
    rfl
  · by_cases h2 : j = i
    · subst h2
      have e1 : decide (j ≤ j ∧ j ≤ j + W) = true := by simp
      rw [e1, Nat.sub_self, Nat.sub_zero, hD.top, htt]
      unfold cellB
      rw [if_pos (by omega)]
      cases t <;> rfl
    · have hji : i < j := by omega
      by_cases h3 : j ≤ i + W
      · have e1 : decide (i ≤ j ∧ j ≤ i + W) = true := by simp; omega
        rw [e1, Bool.true_and]
        unfold cellB
        rw [if_neg (by omega), if_neg h1]
        have e2 : decide (j < i + 1 + W) = true := by simp; omega
        rw [e2, Bool.true_and, show W - 1 - (j - (i + 1)) = W - (j - i) from by omega, hc]
        by_cases h4 : j = i + W
        · subst h4
          have e3 : decide (i + W < i + W) = false := by simp
          rw [e3, show W - (i + W - i) = 0 from by omega]
          have e4 : decide (0 = W) = false := by simp; omega
          rw [e4]
          simp
        · have e3 : decide (j < i + W) = true := by simp; omega
          have e5 : decide (0 < W - (j - i)) = true := by simp; omega
          have e6 : decide (W - (j - i) = W) = false := by simp; omega
          rw [e3, e5, e6, show W - (j - i) - 1 = W - 1 - (j - i) from by omega]
          simp
      · have e1 : decide (i ≤ j ∧ j ≤ i + W) = false := by simp; omega
        rw [e1, Bool.false_and, Bool.xor_false]
        unfold cellB
        rw [if_neg (by omega), if_neg h1]
        have e2 : decide (j < i + 1 + W) = false := by simp; omega
        have e3 : decide (j < i + W) = false := by simp; omega
        rw [e2, e3]
        rfl
/-- The row when i places are divided out. -/
def lrow (W P : Nat) (zs : List Int) (i : Nat) : List Int := (List.range (zs.length + W)).map fun j => b2i (cellB W P zs i j)
/-- Is place j among those that the first m places of the divisor turn? -/
def turned (W : Nat) (D : List Int) (i m j : Nat) : Bool := (D.take m).any fun d => decide ((i : Int) + W - d = j)
def mrow (W P : Nat) (D : List Int) (zs : List Int) (i m : Nat) : List Int := (List.range (zs.length + W)).map fun j => b2i (cellB W P zs i j ^^ turned W D i m j)
theorem lrow_length (W P : Nat) (zs : List Int) (i : Nat) : (lrow W P zs i).length = zs.length + W := by simp [lrow]
theorem mrow_zero (W P : Nat) (D zs : List Int) (i : Nat) : mrow W P D zs i 0 = lrow W P zs i := by simp [mrow, lrow, turned]
theorem lrow_getD (W P : Nat) (zs : List Int) (i j : Nat) (h : j < zs.length + W) : (lrow W P zs i).getD j 0 = b2i (cellB W P zs i j) := by simp [lrow, List.getD, h]
theorem mrow_getD (W P : Nat) (D zs : List Int) (i m j : Nat) (h : j < zs.length + W) : (mrow W P D zs i m).getD j 0 = b2i (cellB W P zs i j ^^ turned W D i m j) := by simp [mrow, List.getD, h]
/-- The places of a divisor, as a list. -/
structure Places' (W P : Nat) (D : List Int) : Prop where
  bd : ∀ d ∈ D, 0 ≤ d ∧ d ≤ (W : Int)
  once : ∀ m, m < D.length → (D.take m).any (fun d => decide (d = D.getD m 0)) = false
  all : ∀ p, p ≤ W → P.testBit p = D.any fun d => decide (d = (p : Int))
theorem turned_succ (W : Nat) (D : List Int) (i m j : Nat) (hm : m < D.length) : turned W D i (m + 1) j = (turned W D i m j || decide ((i : Int) + W - D.getD m 0 = j)) := by
  unfold turned
  rw [List.take_succ_eq_append_getElem hm, List.any_append]
  simp [List.getD, hm]
theorem turned_not {W P : Nat} {D : List Int} (hP : Places' W P D) (i m : Nat) (hm : m < D.length) (j : Nat) (hj : (j : Int) = (i : Int) + W - D.getD m 0) : turned W D i m j = false := by
  have := hP.once m hm
  unfold turned
  rw [List.any_eq_false] at this ⊢
  intro d hd
  have h := this d hd
  simp only [decide_eq_true_eq] at h ⊢
  rw [hj]
  omega
theorem turned_all {W P : Nat} {D : List Int} (hP : Places' W P D) (i j : Nat) : turned W D i D.length j = (decide (i ≤ j ∧ j ≤ i + W) && P.testBit (W - (j - i))) := by
  unfold turned
  rw [List.take_length]
  by_cases h : i ≤ j ∧ j ≤ i + W
  · rw [decide_eq_true h, Bool.true_and, hP.all _ (by omega)]
    congr 1
    funext d
    rw [decide_eq_decide]
    omega
  · rw [decide_eq_false h, Bool.false_and, List.any_eq_false]
    intro d hd
    have := hP.bd d hd
    simp
    omega
theorem mrow_set {W P : Nat} {D : List Int} (hP : Places' W P D) (zs : List Int) (i m j : Nat) (hm : m < D.length) (hj : (j : Int) = (i : Int) + W - D.getD m 0) (x : Int) (hx : x = 1 - (mrow W P D zs i m).getD j 0) (hjl : j < zs.length + W) :
    (mrow W P D zs i m).set j x = mrow W P D zs i (m + 1) := by
  refine List.ext_getElem (by simp [mrow]) fun q h1 h2 => ?_
  have hq : q < zs.length + W := by simpa [mrow] using h2
  rw [List.getElem_set]
  have hn := turned_not hP i m hm j hj
  split
  · rename_i e
    subst e
    rw [hx, mrow_getD _ _ _ _ _ _ _ hjl, hn]
    have : turned W D i (m + 1) j = true := by rw [turned_succ _ _ _ _ _ hm]; simp [hj]
    simp only [mrow, List.getElem_map, List.getElem_range]
    rw [this]
    cases cellB W P zs i j <;> rfl
  · rename_i e
    simp only [mrow, List.getElem_map, List.getElem_range]
    rw [turned_succ _ _ _ _ _ hm]
    have : decide ((i : Int) + W - D.getD m 0 = (q : Int)) = false := decide_eq_false (by omega)
    rw [this, Bool.or_false]
theorem mrow_all {W P : Nat} {D : List Int} (hD : Div W P) (hP : Places' W P D) {zs : List Int} (h : Bits zs) {i : Nat} (hi : i < zs.length) (ht : cellB W P zs i i = true) : mrow W P D zs i D.length = lrow W P zs (i + 1) := by
  unfold mrow lrow
  refine List.map_congr_left fun j _ => ?_
  rw [cell_step hD h hi j, ht, Bool.true_and, turned_all hP]
theorem lrow_same {W P : Nat} (hD : Div W P) {zs : List Int} (h : Bits zs) {i : Nat} (hi : i < zs.length) (ht : cellB W P zs i i = false) : lrow W P zs i = lrow W P zs (i + 1) := by
  unfold lrow
  refine List.map_congr_left fun j _ => ?_
  rw [cell_step hD h hi j, ht, Bool.false_and, Bool.and_false, Bool.xor_false]
theorem lrow_zero {W P : Nat} {zs : List Int} (h : Bits zs) : lrow W P zs 0 = zs ++ List.replicate W 0 := by
  refine List.ext_getElem (by simp [lrow]) fun j h1 h2 => ?_
  simp only [lrow, List.getElem_map, List.getElem_range]
  have e : cellB W P zs 0 j = zb zs j := by
    unfold cellB
    rw [if_neg (by omega), List.take_zero]
    simp [crc]
  rw [e, b2i_zb h]
  by_cases hj : j < zs.length
  · rw [List.getElem_append_left hj]
    simp [List.getD, hj]
  · rw [List.getElem_append_right (by omega), List.getElem_replicate]
    simp [List.getD, Nat.le_of_not_lt hj]
theorem lrow_end (W P : Nat) (zs : List Int) : (lrow W P zs zs.length).drop zs.length = sumL W P zs := by
  refine List.ext_getElem (by simp [lrow, sumL, sumTo]) fun j h1 h2 => ?_
  have hj : j < W := by simpa [sumL, sumTo] using h2
  rw [List.getElem_drop]
  simp only [lrow, sumL, sumTo, List.getElem_map, List.getElem_range]
  unfold cellB
  rw [if_neg (by omega), List.take_length]
  have e1 : zb zs (zs.length + j) = false := by simp [zb, List.getD]
  have e2 : decide (zs.length + j < zs.length + W) = true := by simp; omega
  rw [e1, e2, Bool.true_and, Bool.false_xor, show zs.length + j - zs.length = j from by omega]
end Go.Proofs.YtplkmkbambbemadGreatDoor
namespace Go.Proofs.YtplkmkbambbemadGreatDoor
open Go.ChangeShapes Go.WideShapes Go.ChangeAt Go.RowKit
theorem pow_le_2_24 {W : Nat} (h : W ≤ 24) : (2 : Nat) ^ W ≤ 16777216 := by
  have := Nat.pow_le_pow_right (n := 2) (by decide) h
  simpa using this
theorem fed_lt {W r x : Nat} (hW : W ≤ 24) (hr : r < 16777216) (hx : x ≤ 1) : fed W r x < 4294967296 := by
  have h1 : r * 2 < 2 ^ 32 := by omega
  have h2 : x * 2 ^ W < 2 ^ 32 := by
    have := pow_le_2_24 hW
    have : x * 2 ^ W ≤ 1 * 2 ^ W := Nat.mul_le_mul_right _ hx
    omega
  exact Nat.xor_lt_two_pow h1 h2
theorem fed_int {W r x : Nat} {q y : Int} (hW : W ≤ 24) (hr : r < 16777216) (hx : x ≤ 1) (hq : q = r) (hy : y = x) : bits .xor .u32 (q * 2) (y * 2 ^ W % 4294967296) = ((fed W r x : Nat) : Int) := by
  have h2 : x * 2 ^ W < 4294967296 := by
    have := pow_le_2_24 hW
    have : x * 2 ^ W ≤ 1 * 2 ^ W := Nat.mul_le_mul_right _ hx
    omega
  have e1 : q * 2 = ((r * 2 : Nat) : Int) := by rw [hq]; omega
  have e2 : y * 2 ^ W % 4294967296 = ((x * 2 ^ W : Nat) : Int) := by
    have : y * 2 ^ W = ((x * 2 ^ W : Nat) : Int) := by rw [hy]; simp
    rw [this]
    omega
  rw [e1, e2, u32_xor_nat _ _ (by omega) h2]
  rfl
theorem top_int (F W : Nat) (hF : F < 4294967296) : (bits .and .u32 ((F : Int) / 2 ^ W) 1 == 1) = decide (F / 2 ^ W % 2 = 1) := by
  have e : ((F : Int) / 2 ^ W) = ((F / 2 ^ W : Nat) : Int) := by simp
  have hl : F / 2 ^ W < 4294967296 := Nat.lt_of_le_of_lt (Nat.div_le_self _ _) hF
  rw [e, show (1 : Int) = ((1 : Nat) : Int) from rfl, u32_and_nat _ _ hl (by decide), Nat.and_one_is_mod]
  rw [Bool.eq_iff_iff]
  simp
  omega
theorem div_int {W R F : Nat} (hW : W ≤ 24) (hR : R < 16777216) (hF : F < 4294967296) : bits .xor .u32 (F : Int) (bits .or .u32 (2 ^ W % 4294967296) R) = ((F ^^^ (2 ^ W ||| R) : Nat) : Int) := by
  have hp := pow_le_2_24 hW
  have e : (2 : Int) ^ W % 4294967296 = ((2 ^ W : Nat) : Int) := by
    have : (2 : Int) ^ W = ((2 ^ W : Nat) : Int) := by simp
    rw [this]
    exact Int.emod_eq_of_lt (Int.natCast_nonneg _) (by omega)
  have hor : 2 ^ W ||| R < 2 ^ 32 := Nat.or_lt_two_pow (by omega) (by omega)
  rw [e, u32_or_nat _ _ (by omega) (by omega), u32_xor_nat _ _ hF (by omega)]
theorem sbit_int (r e : Nat) (hr : r < 16777216) : bits .and .u32 ((r : Int) / 2 ^ e) 1 = b2i (r.testBit e) := by
  have e1 : ((r : Int) / 2 ^ e) = ((r / 2 ^ e : Nat) : Int) := by simp
  have hl : r / 2 ^ e < 4294967296 := Nat.lt_of_le_of_lt (Nat.div_le_self _ _) (by omega)
  rw [e1, show (1 : Int) = ((1 : Nat) : Int) from rfl, u32_and_nat _ _ hl (by decide), Nat.and_one_is_mod, Nat.testBit_eq_decide_div_mod_eq]
  have : r / 2 ^ e % 2 = 0 ∨ r / 2 ^ e % 2 = 1 := by omega
  rcases this with h | h <;> simp [h, b2i]
theorem sum_set (W R : Nat) (zs : List Int) (k : Nat) (q : Int) (hk : k < W) (hq : q = (crc W (2 ^ W ||| R) zs : Nat)) (hq1 : q < 16777216) :
    (sumTo W (2 ^ W ||| R) zs k ++ List.replicate (W - k) 0).set k (bits .and .u32 (q / 2 ^ (W - 1 - k)) 1 % 256) = sumTo W (2 ^ W ||| R) zs (k + 1) ++ List.replicate (W - (k + 1)) 0 := by
  have hb := b2i_bd ((crc W (2 ^ W ||| R) zs).testBit (W - 1 - k))
  rw [show W - k = (W - (k + 1)) + 1 from by omega, set_fill _ _ _ _ (sumTo_length _ _ _ k), sumTo_succ, hq, sbit_int _ _ (by omega)]
  rw [show b2i ((crc W (2 ^ W ||| R) zs).testBit (W - 1 - k)) % 256 = b2i ((crc W (2 ^ W ||| R) zs).testBit (W - 1 - k)) from by omega]
set_option maxHeartbeats 2000000 in
theorem sum_any (W : Nat) (R : Nat) (zs : List Int) (a : Option Addr) (c : Nat) (w : World) (ha : Rd .u8 w a zs) (hb : Bits zs) (hz : zs.length ≤ 4096) (hD : Div W (2 ^ W ||| R)) (hW1 : 1 ≤ W) (hW : W ≤ 24) (hR : R < 16777216) :
    Calls Tryz.prog 41 #[.agg #[.int .i64 W, .int .u32 R], .slice a zs.length c] w fun e w' => ∃ v, e = .returned v ∧ Own w' w.heap.size v (sumL W (2 ^ W ||| R) zs) ∧ Below w.heap.size w w' := by
  have hp := pow_le_2_24 hW
  have HP : Hid (2 ^ W ≤ 16777216) := hp
  clear hp
  go_enter Tryz.func41, Tryz.ntmps41
  go_wp2
  go_loopw [5, 12] (fun l i wr => ∃ k : Nat, ∃ q : Int, k ≤ zs.length ∧ i = .int .i64 k ∧ 0 ≤ q ∧ q < 16777216 ∧ l = .int .u32 q ∧ Hid (q = (crc W (2 ^ W ||| R) (zs.take k) : Nat)) ∧ wr.cell? ⟨w.heap.size, 0, none⟩ = some (.int .i64 W) ∧ wr.cell? ⟨w.heap.size, 1, none⟩ = some (.int .u32 R) ∧ w.heap.size < wr.heap.size ∧ Below w.heap.size w wr) (fun _ i _ => zs.length - (intOf i).toNat)
  case atStart => exact ⟨0, 0, Nat.zero_le _, rfl, by omega, by omega, rfl, by unfold Hid; simp [crc], by simp, by simp, by simp, (Below.refl _ _).alloc (Nat.le_refl _) _⟩
  case round =>
    obtain ⟨k, q, hk, rfl, hq0, hq1, rfl, HQ, hcW, hcR, hsz, hbel⟩ := hrel
    by_cases hlt : k < zs.length
    · obtain ⟨b1, o1, rfl, hc1⟩ := (ha.below hbel).at hlt
      have g1 := hc1 k hlt
      have hx := hb k
      clear hc1
      obtain ⟨x, hx'⟩ : ∃ x, x = zs.getD k 0 := ⟨_, rfl⟩
      rw [← hx'] at g1 hx
      obtain ⟨r, hr⟩ : ∃ r, r = crc W (2 ^ W ||| R) (zs.take k) := ⟨_, rfl⟩
      have hqr : q = (r : Int) := by rw [hr]; exact HQ.out
      have hr1 : r < 16777216 := by omega
      have hfi := fed_int (W := W) (r := r) (x := x.toNat) (q := q) (y := x) hW hr1 (by omega) hqr (by omega)
      have hfl := fed_lt (W := W) (r := r) (x := x.toNat) hW hr1 (by omega)
      have hti := top_int _ W hfl
      have hdi := div_int (W := W) (R := R) hW hR hfl
      have hst : crc W (2 ^ W ||| R) (zs.take (k + 1)) = step W (2 ^ W ||| R) r x.toNat := by rw [crc_take _ _ zs k hlt, ← hr, hx']
      have hlt2 : step W (2 ^ W ||| R) r x.toNat < 2 ^ W := hst ▸ crc_lt hD hb (k + 1)
      rw [← hfi] at hti hdi
      unfold step at hst hlt2
      by_cases hT : fed W r x.toNat / 2 ^ W % 2 = 1
      · rw [if_pos hT] at hst hlt2
        rw [decide_eq_true hT] at hti
        have HF : Hid (crc W (2 ^ W ||| R) (zs.take (k + 1)) < 16777216 ∧ bits .xor .u32 (bits .xor .u32 (q * 2) (x * 2 ^ W % 4294967296)) (bits .or .u32 (2 ^ W % 4294967296) R) = (crc W (2 ^ W ||| R) (zs.take (k + 1)) : Nat)) := ⟨by rw [hst]; have := HP.out; omega, by rw [hdi, hst]⟩
        clear hdi hst hlt2 hT hfl hfi hqr hx' hr HQ hr1
        go_wp2
        go_quiet (fail)
        go_wp2
        go_roundw
        case rel => exact ⟨k + 1, _, by omega, by go_num, Int.natCast_nonneg _, by have := HF.out.1; omega, val_int HF.out.2, rfl, hcW, hcR, hsz, below_drewN hbel _⟩
        case measure => simp [intOf]; omega
      · rw [if_neg hT] at hst hlt2
        rw [decide_eq_false hT] at hti
        have HF : Hid (crc W (2 ^ W ||| R) (zs.take (k + 1)) < 16777216 ∧ bits .xor .u32 (q * 2) (x * 2 ^ W % 4294967296) = (crc W (2 ^ W ||| R) (zs.take (k + 1)) : Nat)) := ⟨by rw [hst]; have := HP.out; omega, by rw [hfi, hst]⟩
        clear hdi hst hlt2 hT hfl hfi hqr hx' hr HQ hr1
        go_wp2
        go_roundw
        case rel => exact ⟨k + 1, _, by omega, by go_num, Int.natCast_nonneg _, by have := HF.out.1; omega, val_int HF.out.2, rfl, hcW, hcR, hsz, hbel⟩
        case measure => simp [intOf]; omega
    · obtain rfl : k = zs.length := by omega
      rw [List.take_length] at HQ
      obtain ⟨wo, rfl⟩ : ∃ wo : World, wo = wr := ⟨_, rfl⟩
      go_wp2_with (at_make; refine wpList_makeBytes wo.heap.size wo W rfl _ _ rfl _ _ rfl rfl rfl rfl (by omega) (Below.refl _ _) (Nat.le_refl _) ?_)
      intro w1 hown1 hbel1 hsz1
      go_wp2
      go_loopw [44] (fun i wr => ∃ k : Nat, k ≤ W ∧ i = .int .i64 k ∧ Own wr wo.heap.size (.slice (some ⟨wo.heap.size, 0, none⟩) W W) (sumTo W (2 ^ W ||| R) zs k ++ List.replicate (W - k) 0) ∧ Below wo.heap.size wo wr) (fun i _ => W - (intOf i).toNat)
      case atStart => exact ⟨0, Nat.zero_le _, rfl, hown1, hbel1⟩
      case round =>
        clear hown1 hbel1
        obtain ⟨k, hk, rfl, hown, hbel2⟩ := hrel
        have hcW2 := (hbel2.cell (p := ⟨w.heap.size, 0, none⟩) hsz).trans hcW
        by_cases hltk : k < W
        · have hll : (sumTo W (2 ^ W ||| R) zs k ++ List.replicate (W - k) 0).length = W := hown.len
          have hc := hown.cell (i := k) (by omega)
          have hf := hown.free k
          clear hll hcW hcR
          go_wp2
          go_roundw
          case rel => exact ⟨k + 1, by omega, by go_num, sum_set W R zs k q hltk HQ.out hq1 ▸ hown.set k _, hbel2.setCell (Nat.le_refl _) _⟩
          case measure => simp [intOf]; omega
        · go_wp2
          go_ret
          obtain rfl : k = W := by omega
          rw [Nat.sub_self, List.replicate_zero, List.append_nil] at hown
          exact ⟨_, rfl, hown.mono hbel.size, bthen hbel hbel2⟩
end Go.Proofs.YtplkmkbambbemadGreatDoor
namespace Go.Proofs.YtplkmkbambbemadGreatDoor
open Go.ChangeShapes Go.WideShapes Go.ChangeAt Go.RowKit
/-- The width and the divisor (without its highest place) of a kind. -/
def kW (k : Int) : Nat := if k = 0 then 6 else if k = 1 then 11 else if k = 2 then 16 else if k = 3 then 24 else 0
def kR (k : Int) : Nat := if k = 0 then 33 else if k = 1 then 1569 else if k = 2 then 4129 else if k = 3 then 8801531 else 0
def kP (k : Int) : Nat := 2 ^ kW k ||| kR k
def isKind (k : Int) : Bool := decide (0 ≤ k ∧ k ≤ 3)
/-- The places of the divisor, the width first. -/
def kD (k : Int) : List Int := if k = 0 then [6, 5, 0] else if k = 1 then [11, 10, 9, 5, 0] else if k = 2 then [16, 12, 5, 0] else if k = 3 then [24, 23, 18, 17, 14, 11, 10, 7, 6, 5, 4, 3, 1, 0] else []
theorem kind_cases {k : Int} (h : isKind k = true) : k = 0 ∨ k = 1 ∨ k = 2 ∨ k = 3 := by
  simp [isKind] at h; omega
theorem kind_div {k : Int} (h : isKind k = true) : Div (kW k) (kP k) ∧ 1 ≤ kW k ∧ kW k ≤ 24 ∧ kR k < 16777216 := by
  rcases kind_cases h with rfl | rfl | rfl | rfl
  · exact ⟨⟨by decide, by decide, by decide, by decide⟩, by decide, by decide, by decide⟩
  · exact ⟨⟨by decide, by decide, by decide, by decide⟩, by decide, by decide, by decide⟩
  · exact ⟨⟨by decide, by decide, by decide, by decide⟩, by decide, by decide, by decide⟩
  · exact ⟨⟨by decide, by decide, by decide, by decide⟩, by decide, by decide, by decide⟩
set_option maxHeartbeats 1000000 in
theorem divisor_yes (k : Int) (w : World) (h : isKind k = true) :
    Calls Tryz.prog 91 #[.int .i64 k] w fun e w' => e = .returned (.tuple #[.agg #[.int .i64 (kW k), .int .u32 (kR k)], .int .i64 0]) ∧ Below w.heap.size w w' := by
  rcases kind_cases h with rfl | rfl | rfl | rfl
  all_goals
    clear h
    go_enter Tryz.func91, Tryz.ntmps91
    go_wp2
  · exact bodyPost_ret (v := .tuple #[.agg #[.int .i64 6, .int .u32 33], .int .i64 0]) (by simp [results, Tryz.results91, go_sem]) rfl ⟨rfl, (Below.refl _ _).alloc (Nat.le_refl _) _⟩
  · exact bodyPost_ret (v := .tuple #[.agg #[.int .i64 11, .int .u32 1569], .int .i64 0]) (by simp [results, Tryz.results91, go_sem]) rfl ⟨rfl, (Below.refl _ _).alloc (Nat.le_refl _) _⟩
  · exact bodyPost_ret (v := .tuple #[.agg #[.int .i64 16, .int .u32 4129], .int .i64 0]) (by simp [results, Tryz.results91, go_sem]) rfl ⟨rfl, (Below.refl _ _).alloc (Nat.le_refl _) _⟩
  · exact bodyPost_ret (v := .tuple #[.agg #[.int .i64 24, .int .u32 8801531], .int .i64 0]) (by simp [results, Tryz.results91, go_sem]) rfl ⟨rfl, (Below.refl _ _).alloc (Nat.le_refl _) _⟩
/-- The box of a divisor, behind a call. -/
theorem box2 {w w1 : World} {x y : Value} {T : TypeId} (hb : Below (w.alloc (.cells #[x, y] T)).heap.size (w.alloc (.cells #[x, y] T)) w1) :
    w1.cell? ⟨w.heap.size, 0, none⟩ = some x ∧ w1.cell? ⟨w.heap.size, 1, none⟩ = some y ∧ w1.frozen? ⟨w.heap.size, 0, none⟩ = false ∧ w1.frozen? ⟨w.heap.size, 1, none⟩ = false ∧ w.heap.size < w1.heap.size := by
  have hlt : w.heap.size < (w.alloc (.cells #[x, y] T)).heap.size := by simp
  refine ⟨(hb.cell (p := ⟨w.heap.size, 0, none⟩) hlt).trans ?_, (hb.cell (p := ⟨w.heap.size, 1, none⟩) hlt).trans ?_, (hb.frozen (p := ⟨w.heap.size, 0, none⟩) hlt).trans ?_, (hb.frozen (p := ⟨w.heap.size, 1, none⟩) hlt).trans ?_, Nat.lt_of_lt_of_le hlt hb.size⟩
  · rw [cell_of_row _ _ _ _ _ _ (heap_alloc_new w _)]; rfl
  · rw [cell_of_row _ _ _ _ _ _ (heap_alloc_new w _)]; rfl
  · exact frozen_of_row _ _ _ _ _ (heap_alloc_new w _)
  · exact frozen_of_row _ _ _ _ _ (heap_alloc_new w _)
/-- What is wrong with bits and a kind. -/
def errSum (zs : List Int) (k : Int) : Int := if errOf zs = 0 then (if isKind k then 0 else 1) else errOf zs
set_option maxHeartbeats 1000000 in
theorem checksum_ok (zs : List Int) (k : Int) (a : Option Addr) (c : Nat) (w : World) (ha : Rd .u8 w a zs) (hz : zs.length ≤ maxLen) (he : errOf zs = 0) (h : isKind k = true) :
    Calls Tryz.prog 40 #[.slice a zs.length c, .int .i64 k] w fun e w' => e = .returned (.tuple #[.agg #[.int .i64 (kW k), .int .u32 (kR k)], .int .i64 0]) ∧ Below w.heap.size w w' := by
  have HE : Hid (errOf zs = 0) := he
  clear he
  go_enter Tryz.func40, Tryz.ntmps40
  go_wp2_with fail
  refine (check_any zs a c _ (ha.below ((Below.refl _ _).alloc (Nat.le_refl _) _)) hz).mono ?_
  rintro e w1 ⟨rfl, rfl⟩
  rw [HE.out]
  go_wp2_with fail
  refine (divisor_yes k _ h).mono ?_
  rintro e w1 ⟨rfl, hb⟩
  obtain ⟨q0, q1, q2, q3, q4⟩ := box2 hb
  have hbw : Below w.heap.size w w1 := bthen ((Below.refl _ _).alloc (Nat.le_refl _) _) hb
  clear hb
  go_wp2
  exact bodyPost_ret (v := .tuple #[.agg #[.int .i64 (kW k), .int .u32 (kR k)], .int .i64 0]) (by simp [results, Tryz.results40, go_sem, q0, q1]) rfl ⟨rfl, (hbw.setCell (Nat.le_refl _) _).setCell (Nat.le_refl _) _⟩
theorem errSum_ok {zs : List Int} {k : Int} (h : errSum zs k = 0) : errOf zs = 0 ∧ isKind k = true := by
  unfold errSum at h
  split at h
  · rename_i he
    refine ⟨he, ?_⟩
    split at h
    · assumption
    · simp at h
  · contradiction
end Go.Proofs.YtplkmkbambbemadGreatDoor
namespace Go.Proofs.YtplkmkbambbemadGreatDoor
open Go.ChangeShapes Go.WideShapes Go.ChangeAt Go.RowKit
set_option maxHeartbeats 1000000 in
theorem rdivisor_yes (k : Int) (w : World) (h : isKind k = true) :
    Calls Tryz.prog 109 #[.int .i64 k] w fun e w' => e = .returned (.slice (some ⟨w.heap.size, 0, none⟩) (kD k).length (kD k).length) ∧ w'.heap[w.heap.size]? = some (.cells ((kD k).map (Value.int .i64)).toArray 3 (0, 0)) ∧ Below w.heap.size w w' := by
  rcases kind_cases h with rfl | rfl | rfl | rfl
  all_goals
    clear h
    go_enter Tryz.func109, Tryz.ntmps109
    go_wp2
    go_ret
    exact ⟨rfl, heap_alloc_new w _, (Below.refl _ _).alloc (Nat.le_refl _) _⟩
end Go.Proofs.YtplkmkbambbemadGreatDoor
namespace Go.Proofs.YtplkmkbambbemadGreatDoor
open Go.ChangeShapes Go.WideShapes Go.ChangeAt Go.RowKit
/-- The sum of bits, of a kind. -/
def ksum (zs : List Int) (k : Int) : List Int := sumL (kW k) (kP k) zs
end Go.Proofs.YtplkmkbambbemadGreatDoor
