import Derived.Test.YtplkmkbambbemaeGreatDoorM08
import Derived.Test.YtplkmkbambbemaeGreatDoorM01
namespace Go.Proofs.YtplkmkbambbemaeGreatDoor
open Go.ChangeShapes Go.WideShapes Go.ChangeAt Go.RowKit
theorem ones (x : Nat) (hx : x < 128) (w : World) :
    Calls Tryz.prog 74 #[.int .u64 x] w fun e w' => e = .returned (.int .i64 (pop x)) ∧ w = w' := by
  go_enter Tryz.func74, Tryz.ntmps74
  go_wp2_with (go_at_call 83; refine (ones64 x hx _).mono ?_; rintro e w' ⟨rfl, rfl⟩)
  go_ret
  exact ⟨rfl, rfl⟩
theorem tap_all : ∀ r : Fin 128, ((2 * (2 * (2 * 0 + pop (r.val &&& 79) % 2) + pop (r.val &&& 109) % 2) + pop (r.val &&& 87) % 2 : Nat) : Int) = wordI (r.val : Int) := by decide +kernel
theorem and_low (V t : Nat) (ht : 127 &&& t = t) : V &&& t = (V % 128) &&& t := by
  have e : V % 128 = V &&& 127 := (nat_mask7 V).symm
  rw [e, Nat.and_assoc, ht]
def tapV (k : Nat) : Nat := if k = 0 then 79 else if k = 1 then 109 else 87
/-- What word has made of the window behind k taps. -/
def accW (V : Nat) : Nat → Nat
  | 0 => 0
  | k + 1 => 2 * accW V k + pop (V &&& tapV k) % 2
theorem accW_bd (V : Nat) : ∀ k, accW V k < 2 ^ k
  | 0 => by simp [accW]
  | k + 1 => by
    have := accW_bd V k
    rw [accW, Nat.pow_succ]
    omega
theorem accW_word (V : Nat) : ((accW V 3 : Nat) : Int) = wordI (V : Int) := by
  have h := tap_all ⟨V % 128, Nat.mod_lt _ (by omega)⟩
  have e0 : accW V 3 = 2 * (2 * (2 * 0 + pop (V &&& 79) % 2) + pop (V &&& 109) % 2) + pop (V &&& 87) % 2 := rfl
  rw [e0, and_low V 79 (by decide), and_low V 109 (by decide), and_low V 87 (by decide), wordI_mod (V : Int) ((V % 128 : Nat) : Int) (by omega)]
  exact h
/-- The table of taps lies where it was laid. -/
def Taps (w : World) : Prop := ∃ T fr, w.heap[1]? = some (.cells #[.int .u64 79, .int .u64 109, .int .u64 87] T fr)
theorem Taps.cells {w : World} (h : Taps w) : w.cell? ⟨1, 0, none⟩ = some (.int .u64 79) ∧ w.cell? ⟨1, 1, none⟩ = some (.int .u64 109) ∧ w.cell? ⟨1, 2, none⟩ = some (.int .u64 87) := by
  obtain ⟨T, fr, h⟩ := h
  exact ⟨by rw [cell_of_row w 1 0 _ T fr h]; rfl, by rw [cell_of_row w 1 1 _ T fr h]; rfl, by rw [cell_of_row w 1 2 _ T fr h]; rfl⟩
theorem orw_all : ∀ a : Fin 4, ∀ b : Fin 2, bits .or .u64 ((a.val : Int) * 2) (b.val : Int) = ((2 * a.val + b.val : Nat) : Int) := by decide +kernel
theorem and1_all : ∀ p : Fin 128, bits .and .i64 ((pop p.val : Nat) : Int) 1 = ((pop p.val % 2 : Nat) : Int) := by decide +kernel
theorem step_word (V k : Nat) (hk : k < 3) : bits .and .i64 ((pop (V &&& tapV k) : Nat) : Int) 1 = ((pop (V &&& tapV k) % 2 : Nat) : Int) ∧
    bits .or .u64 ((accW V k : Int) * 2) (((pop (V &&& tapV k) : Nat) : Int) % 2) = ((accW V (k + 1) : Nat) : Int) ∧ accW V k < 4 := by
  have hb := accW_bd V k
  have h4 : accW V k < 4 := by
    have : 2 ^ k ≤ 2 ^ 2 := Nat.pow_le_pow_right (by omega) (by omega)
    omega
  have hl : V &&& tapV k < 128 := Nat.lt_of_le_of_lt Nat.and_le_right (by unfold tapV; split <;> (try split) <;> omega)
  exact ⟨and1_all ⟨_, hl⟩, orw_all ⟨_, h4⟩ ⟨_, Nat.mod_lt _ (by omega)⟩, h4⟩
set_option maxHeartbeats 1000000 in
theorem word_any (V : Nat) (hV : V < 18446744073709551616) (w : World) (hT : Taps w) :
    Calls Tryz.prog 63 #[.int .u64 V] w fun e w' => e = .returned (.int .u64 (wordI V)) ∧ w = w' := by
  obtain ⟨c0, c1, c2⟩ := hT.cells
  have HW := hid (accW_word V)
  go_enter Tryz.func63, Tryz.ntmps63
  go_wp2
  go_loop [3, 7] (fun a q => ∃ k : Nat, k ≤ 3 ∧ q = .int .i64 k ∧ a = .int .u64 (accW V k)) (fun _ q => 3 - (intOf q).toNat)
  case atStart => exact ⟨0, by omega, rfl, rfl⟩
  case round =>
    obtain ⟨k, hk, rfl, rfl⟩ := hrel
    rcases (show k = 0 ∨ k = 1 ∨ k = 2 ∨ k = 3 by omega) with rfl | rfl | rfl | rfl
    · have f1 : bits .and .u64 (V : Int) 79 = ((V &&& 79 : Nat) : Int) := u64_and_nat V 79 hV (by omega)
      have l1 : V &&& 79 < 128 := Nat.lt_of_le_of_lt Nat.and_le_right (by omega)
      have f2 := step_word V 0 (by omega)
      rw [show tapV 0 = 79 from rfl] at f2
      obtain ⟨f2, f3, l3⟩ := f2
      have F3 := hid f3
      clear f3
      generalize V &&& 79 = X at *
      generalize accW V 0 = a0 at *
      go_wp2_with (first | (go_at_call 74; refine (ones X l1 _).mono ?_; rintro e w' ⟨rfl, rfl⟩) | (refine wpList_index rfl 112 (.tmp 6) (.tmp 7) rfl 103 #[.int .u64 79, .int .u64 109, .int .u64 87] 3 0 (.int .u64 79) _ .i64 rfl rfl Tryz.underlying112 Tryz.underlying103 rfl (by kernel_rfl) (by omega) rfl ?_))
      go_round
      case rel => exact ⟨0 + 1, by omega, by go_num, congrArg (Value.int .u64) F3.out⟩
      case measure => simp [intOf]
    · have f1 : bits .and .u64 (V : Int) 109 = ((V &&& 109 : Nat) : Int) := u64_and_nat V 109 hV (by omega)
      have l1 : V &&& 109 < 128 := Nat.lt_of_le_of_lt Nat.and_le_right (by omega)
      have f2 := step_word V 1 (by omega)
      rw [show tapV 1 = 109 from rfl] at f2
      obtain ⟨f2, f3, l3⟩ := f2
      have F3 := hid f3
      clear f3
      generalize V &&& 109 = X at *
      generalize accW V 1 = a0 at *
      go_wp2_with (first | (go_at_call 74; refine (ones X l1 _).mono ?_; rintro e w' ⟨rfl, rfl⟩) | (refine wpList_index rfl 112 (.tmp 6) (.tmp 7) rfl 103 #[.int .u64 79, .int .u64 109, .int .u64 87] 3 1 (.int .u64 109) _ .i64 rfl rfl Tryz.underlying112 Tryz.underlying103 rfl (by kernel_rfl) (by omega) rfl ?_))
      go_round
      case rel => exact ⟨1 + 1, by omega, by go_num, congrArg (Value.int .u64) F3.out⟩
      case measure => simp [intOf]
    · have f1 : bits .and .u64 (V : Int) 87 = ((V &&& 87 : Nat) : Int) := u64_and_nat V 87 hV (by omega)
      have l1 : V &&& 87 < 128 := Nat.lt_of_le_of_lt Nat.and_le_right (by omega)
      have f2 := step_word V 2 (by omega)
      rw [show tapV 2 = 87 from rfl] at f2
      obtain ⟨f2, f3, l3⟩ := f2
      have F3 := hid f3
      clear f3
      generalize V &&& 87 = X at *
      generalize accW V 2 = a0 at *
      go_wp2_with (first | (go_at_call 74; refine (ones X l1 _).mono ?_; rintro e w' ⟨rfl, rfl⟩) | (refine wpList_index rfl 112 (.tmp 6) (.tmp 7) rfl 103 #[.int .u64 79, .int .u64 109, .int .u64 87] 3 2 (.int .u64 87) _ .i64 rfl rfl Tryz.underlying112 Tryz.underlying103 rfl (by kernel_rfl) (by omega) rfl ?_))
      go_round
      case rel => exact ⟨2 + 1, by omega, by go_num, congrArg (Value.int .u64) F3.out⟩
      case measure => simp [intOf]
    · go_wp2
      go_ret
      exact ⟨ret_int HW.out, rfl⟩
end Go.Proofs.YtplkmkbambbemaeGreatDoor
namespace Go.Proofs.YtplkmkbambbemaeGreatDoor
open Go.ChangeShapes Go.WideShapes Go.ChangeAt Go.RowKit
/-- A row that is filled from its head on. -/
def fillE (L : List Int) (k : Nat) : List Int := L.take k ++ List.replicate (L.length - k) 0
theorem fillE_zero (L : List Int) : fillE L 0 = List.replicate L.length 0 := by simp [fillE]
theorem fillE_all (L : List Int) : fillE L L.length = L := by simp [fillE]
theorem fillE_length (L : List Int) (k : Nat) (h : k ≤ L.length) : (fillE L k).length = L.length := by simp [fillE]; omega
theorem fillE_set (L : List Int) (k : Nat) (h : k < L.length) (x : Int) (hx : x = L.getD k 0) : (fillE L k).set k x = fillE L (k + 1) := by
  unfold fillE
  obtain ⟨m, hm⟩ : ∃ m, L.length - k = m + 1 := ⟨L.length - k - 1, by omega⟩
  rw [hm, set_fill _ k m x (by simp; omega), show L.length - (k + 1) = m by omega, hx]
  congr 1
  rw [List.take_add_one]
  simp [List.getD, h]
theorem seven (x0 x1 x2 x3 x4 x5 x6 : Int) (h0 : 0 ≤ x0 ∧ x0 ≤ 1) (h1 : 0 ≤ x1 ∧ x1 ≤ 1) (h2 : 0 ≤ x2 ∧ x2 ≤ 1) (h3 : 0 ≤ x3 ∧ x3 ≤ 1) (h4 : 0 ≤ x4 ∧ x4 ≤ 1) (h5 : 0 ≤ x5 ∧ x5 ≤ 1) (h6 : 0 ≤ x6 ∧ x6 ≤ 1) :
    (x6 * 64 + x5 * 32 + x4 * 16 + x3 * 8 + x2 * 4 + x1 * 2 + x0) % 2 = x0 ∧ (x6 * 64 + x5 * 32 + x4 * 16 + x3 * 8 + x2 * 4 + x1 * 2 + x0) / 2 % 2 = x1 ∧ (x6 * 64 + x5 * 32 + x4 * 16 + x3 * 8 + x2 * 4 + x1 * 2 + x0) / 4 % 2 = x2 ∧
    (x6 * 64 + x5 * 32 + x4 * 16 + x3 * 8 + x2 * 4 + x1 * 2 + x0) / 8 % 2 = x3 ∧ (x6 * 64 + x5 * 32 + x4 * 16 + x3 * 8 + x2 * 4 + x1 * 2 + x0) / 16 % 2 = x4 ∧ (x6 * 64 + x5 * 32 + x4 * 16 + x3 * 8 + x2 * 4 + x1 * 2 + x0) / 32 % 2 = x5 ∧
    (x6 * 64 + x5 * 32 + x4 * 16 + x3 * 8 + x2 * 4 + x1 * 2 + x0) / 64 % 2 = x6 := by omega
/-- Twice the state at the place i, the newest bit lowest. -/
def preI (zs : List Int) (i : Nat) : Int :=
  bitI zs ((i : Int) - 6) * 64 + bitI zs ((i : Int) - 5) * 32 + bitI zs ((i : Int) - 4) * 16 + bitI zs ((i : Int) - 3) * 8 + bitI zs ((i : Int) - 2) * 4 + bitI zs ((i : Int) - 1) * 2
theorem preI_bd {zs : List Int} (h : Bits zs) (i : Nat) : 0 ≤ preI zs i ∧ preI zs i < 128 := by
  have h1 := bitI_bd h ((i : Int) - 1)
  have h2 := bitI_bd h ((i : Int) - 2)
  have h3 := bitI_bd h ((i : Int) - 3)
  have h4 := bitI_bd h ((i : Int) - 4)
  have h5 := bitI_bd h ((i : Int) - 5)
  have h6 := bitI_bd h ((i : Int) - 6)
  unfold preI
  omega
theorem preI_zero (zs : List Int) : preI zs 0 = 0 := by simp [preI, bitI]
theorem preI_next {zs : List Int} (h : Bits zs) (i : Nat) : preI zs (i + 1) = 2 * ((preI zs i + bitI zs i) % 64) := by
  have e : ∀ k : Nat, bitI zs (((i + 1 : Nat) : Int) - ((k + 1 : Nat) : Int)) = bitI zs ((i : Int) - (k : Int)) := fun k => by congr 1; omega
  have e0 := e 0
  have e1 := e 1
  have e2 := e 2
  have e3 := e 3
  have e4 := e 4
  have e5 := e 5
  simp only [Nat.zero_add, Nat.reduceAdd, Int.cast_ofNat_Int, Int.sub_zero] at e0 e1 e2 e3 e4 e5
  have h0 := bitI_bd h (i : Int)
  have h1 := bitI_bd h ((i : Int) - 1)
  have h2 := bitI_bd h ((i : Int) - 2)
  have h3 := bitI_bd h ((i : Int) - 3)
  have h4 := bitI_bd h ((i : Int) - 4)
  have h5 := bitI_bd h ((i : Int) - 5)
  have h6 := bitI_bd h ((i : Int) - 6)
  unfold preI
  rw [e1, e2, e3, e4, e5]
  have e0' : bitI zs (((i + 1 : Nat) : Int) - 1) = bitI zs i := e0
  rw [e0']
  omega
/-- The three coded bits of a place are the word of its window. -/
theorem trip_word {zs : List Int} (h : Bits zs) (i : Nat) (V : Int) (hV : V % 128 = preI zs i + bitI zs i) : trip zs i = [wordI V / 4 % 2, wordI V / 2 % 2, wordI V % 2] := by
  have h0 := bitI_bd h (i : Int)
  have h1 := bitI_bd h ((i : Int) - 1)
  have h2 := bitI_bd h ((i : Int) - 2)
  have h3 := bitI_bd h ((i : Int) - 3)
  have h4 := bitI_bd h ((i : Int) - 4)
  have h5 := bitI_bd h ((i : Int) - 5)
  have h6 := bitI_bd h ((i : Int) - 6)
  have hp := preI_bd h i
  rw [wordI_mod V (preI zs i + bitI zs i) (by omega)]
  obtain ⟨p0, p1, p2, p3, p4, p5, p6⟩ := seven _ _ _ _ _ _ _ h0 h1 h2 h3 h4 h5 h6
  unfold preI wordI trip
  rw [p0, p1, p2, p3, p4, p5, p6]
  generalize bitI zs (i : Int) = x0 at *
  generalize bitI zs ((i : Int) - 1) = x1 at *
  generalize bitI zs ((i : Int) - 2) = x2 at *
  generalize bitI zs ((i : Int) - 3) = x3 at *
  generalize bitI zs ((i : Int) - 4) = x4 at *
  generalize bitI zs ((i : Int) - 5) = x5 at *
  generalize bitI zs ((i : Int) - 6) = x6 at *
  clear p0 p1 p2 p3 p4 p5 p6 hp hV
  have q0 := Int.emod_two_eq (x0 + x1 + x2 + x3 + x6)
  have q1 := Int.emod_two_eq (x0 + x2 + x3 + x5 + x6)
  have q2 := Int.emod_two_eq (x0 + x1 + x2 + x4 + x6)
  generalize (x0 + x1 + x2 + x3 + x6) % 2 = y0 at *
  generalize (x0 + x2 + x3 + x5 + x6) % 2 = y1 at *
  generalize (x0 + x1 + x2 + x4 + x6) % 2 = y2 at *
  rcases q0 with rfl | rfl <;> rcases q1 with rfl | rfl <;> rcases q2 with rfl | rfl <;> rfl
theorem win_next {zs : List Int} (h : Bits zs) (i : Nat) (V : Int) (hV : V % 128 = preI zs i + bitI zs i) : 2 * V % 128 = preI zs (i + 1) := by
  rw [preI_next h i, ← hV]
  omega
/-- What is wrong with bits that are to be coded. -/
def encErr (zs : List Int) : Int := if errOf zs = 0 then (if 400 < zs.length then 2 else 0) else errOf zs
def encL (zs : List Int) : List Int := if encErr zs = 0 then codedTo zs (zs.length + 6) else []
theorem codedTo_trip (zs : List Int) (K i : Nat) (hi : i < K) (j : Nat) (hj : j < 3) : (codedTo zs K).getD (3 * i + j) 0 = (trip zs i).getD j 0 := codedTo_at zs K i j hi hj
theorem codedTo_trip0 (zs : List Int) (K i : Nat) (hi : i < K) : (codedTo zs K).getD (3 * i) 0 = (trip zs i).getD 0 0 := codedTo_at zs K i 0 hi (by omega)
end Go.Proofs.YtplkmkbambbemaeGreatDoor
namespace Go.Proofs.YtplkmkbambbemaeGreatDoor
open Go.ChangeShapes Go.WideShapes Go.ChangeAt Go.RowKit
theorem Taps.lt {w : World} (h : Taps w) : 1 < w.heap.size := by
  obtain ⟨T, fr, e⟩ := h
  rcases Nat.lt_or_ge 1 w.heap.size with h | h
  · exact h
  · rw [Array.getElem?_eq_none h] at e; cases e
theorem Taps.below {w w' : World} (h : Taps w) (hb : Below w.heap.size w w') : Taps w' := by
  have hlt := h.lt
  obtain ⟨T, fr, h⟩ := h
  exact ⟨T, fr, (hb.block _ hlt).trans h⟩
/-- The window moves on. -/
theorem win_move {zs : List Int} (hb : Bits zs) (i V b : Nat) (hV : (2 * (V : Int)) % 128 = preI zs i) (hbit : bitI zs i = (b : Int)) :
    ∃ U : Nat, IntKind.u64.wrap ((V : Int) * 2) = (U : Int) ∧ U < 18446744073709551616 ∧ bits .or .u64 (U : Int) (b : Int) = ((U + b : Nat) : Int) ∧ U + b < 18446744073709551616 ∧ ((U + b : Nat) : Int) % 128 = preI zs i + bitI zs i := by
  have hb01 := bitI_bd hb (i : Int)
  have hp := preI_bd hb i
  refine ⟨V * 2 % 18446744073709551616, ?_, by omega, ?_, by omega, ?_⟩
  · rw [IntKind.wrap_u64]
    omega
  · rw [u64_or_nat _ _ (by omega) (by omega), nat_join 1 _ _ (by omega) (by omega)]
  · rw [hbit]
    omega
theorem low_bit (x : Nat) (h : x < 8) : ∃ y : Nat, bits .and .u64 (x : Int) 1 = (y : Int) ∧ (x : Int) % 2 = (y : Int) ∧ y ≤ 1 := by
  refine ⟨x % 2, ?_, by omega, by omega⟩
  have := u64_and_nat x 1 (by omega) (by omega)
  rw [show ((1 : Nat) : Int) = 1 from rfl] at this
  rw [this, nat_mask1]
set_option maxHeartbeats 2000000 in
theorem encode_any (zs : List Int) (a : Option Addr) (c : Nat) (w : World) (ha : Rd .u8 w a zs) (hz : zs.length ≤ maxLen) (hy : Bytes zs) (hT : Taps w) :
    Calls Tryz.prog 49 #[.slice a zs.length c] w fun e w' => ∃ v, e = .returned (.tuple #[v, .int .i64 (encErr zs)]) ∧ Own w' w.heap.size v (encL zs) ∧ Below w.heap.size w w' := by
  by_cases h0 : errOf zs = 0
  · by_cases h1 : 400 < zs.length
    · have he : encErr zs = 2 := by unfold encErr; rw [if_pos h0, if_pos h1]
      have hL : encL zs = [] := by unfold encL; rw [he]; rfl
      rw [he, hL]
      have H0 := hid h0
      clear he hL h0
      unfold maxLen at hz
      go_enter Tryz.func49, Tryz.ntmps49
      go_wp2_with (go_at_call 38; refine (check_any zs a c _ ha (by unfold maxLen; omega)).mono ?_; rintro e w' ⟨rfl, rfl⟩; rw [H0.out])
      go_ret2
      exact ⟨_, rfl, Own.nil _ _, Below.refl _ _⟩
    · have he : encErr zs = 0 := by unfold encErr; rw [if_pos h0, if_neg h1]
      have hL : encL zs = codedTo zs (zs.length + 6) := by unfold encL; rw [he]; rfl
      rw [he, hL]
      have hbits : Bits zs := fun k => ⟨(hy.at k).1, (err_zero h0).1 k⟩
      have hb := hid hbits
      have H0 := hid h0
      have h1' : zs.length ≤ 400 := by omega
      clear he hL h0 h1 hbits hz
      have HL := hid (codedTo_length zs (zs.length + 6))
      go_enter Tryz.func49, Tryz.ntmps49
      go_wp2_with (first | (go_at_call 38; refine (check_any zs a c _ ha (by unfold maxLen; omega)).mono ?_; rintro e w' ⟨rfl, rfl⟩; rw [H0.out]) | (at_make; refine wpList_makeBytes w.heap.size w (3 * (zs.length + 6)) rfl _ _ rfl _ _ rfl rfl ?_ ?_ (by omega) (Below.refl _ _) (Nat.le_refl _) ?_))
      · omega
      · omega
      intro w1 hown hbel hsz1
      have e1 : List.replicate (3 * (zs.length + 6)) (0 : Int) = fillE (codedTo zs (zs.length + 6)) (3 * 0) := by rw [Nat.mul_zero, fillE_zero, HL.out]
      rw [e1] at hown
      obtain ⟨g, HG⟩ : ∃ g, g = w.heap.size := ⟨_, rfl⟩
      have hown0 : Own w1 w.heap.size (.slice (some ⟨g, 0, none⟩) (3 * (zs.length + 6)) (3 * (zs.length + 6))) (fillE (codedTo zs (zs.length + 6)) (3 * 0)) := by rw [HG]; exact hown
      clear hown
      have hown := hown0
      clear hown0
      have hBg := hid (show w.heap.size ≤ g by omega)
      rw [← HG]
      clear HG e1
      obtain ⟨N, hN⟩ : ∃ N, N = 3 * (zs.length + 6) := ⟨_, rfl⟩
      rw [← hN] at hown
      rw [← hN]
      have HN := hid hN
      have hN2 : N ≤ 1218 := by omega
      clear hN
      go_wp2
      go_loopw [6, 26] (fun v q wr => ∃ i V : Nat, i ≤ zs.length + 6 ∧ q = .int .i64 i ∧ v = .int .u64 V ∧ V < 18446744073709551616 ∧ Hid (2 * (V : Int) % 128 = preI zs i) ∧ Own wr w.heap.size (.slice (some ⟨g, 0, none⟩) N N) (fillE (codedTo zs (zs.length + 6)) (3 * i)) ∧ Below w.heap.size w wr) (fun _ q _ => zs.length + 6 - (intOf q).toNat)
      case atStart => exact ⟨0, 0, by omega, rfl, rfl, by omega, by rw [preI_zero]; rfl, hown, hbel⟩
      case round =>
        clear hown hbel
        obtain ⟨i, V, hi, rfl, rfl, lV0, HP, hown, hbel⟩ := hrel
        by_cases hlt : i < zs.length + 6
        · have hN3 : 3 * i + 2 < N := by rw [HN.out]; omega
          by_cases hin : i < zs.length
          · skip
            obtain ⟨b1, o1, rfl, hc1⟩ := (ha.below hbel).at hin
            have g1 := hc1 i hin
            clear hc1
            have hb01 := bitI_bd hb.out (i : Int)
            obtain ⟨b, hbb⟩ := Int.eq_ofNat_of_zero_le hb01.1
            have hgd : zs.getD i 0 = (b : Int) := by rw [← hbb]; unfold bitI; rw [if_neg (by omega), Int.toNat_natCast]
            rw [hgd] at g1
            obtain ⟨U, hU, lU, hor, lV, HV0⟩ := win_move hb.out i V b HP.out hbb
            have HV := hid HV0
            have hb1 : b ≤ 1 := by omega
            clear HV0 hgd hb01
            generalize hV' : U + b = V' at *
            have HV' := hid hV'
            clear hV'
            have hTr := hT.below hbel
            obtain ⟨wv, hwv⟩ : ∃ wv : Nat, wordI (V' : Int) = (wv : Int) := Int.eq_ofNat_of_zero_le (wordI_bd _).1
            have hw8 := (wordI_bd (V' : Int)).2
            rw [hwv] at hw8
            have HT2 := hid (show trip zs i = [(wv : Int) / 4 % 2, (wv : Int) / 2 % 2, (wv : Int) / 1 % 2] by rw [trip_word hb.out i _ HV.out, hwv]; simp)
            have HP' := hid (win_next hb.out i _ HV.out)
            have HWV := hid hwv
            clear hwv
            go_wp2_with (go_at_call 63; refine (word_any V' lV _ hTr).mono ?_; rintro e w' ⟨rfl, rfl⟩; rw [HWV.out])
            go_loopw [44] (fun q wr => ∃ j : Nat, j ≤ 3 ∧ q = .int .i64 j ∧ Own wr w.heap.size (.slice (some ⟨g, 0, none⟩) N N) (fillE (codedTo zs (zs.length + 6)) (3 * i + j)) ∧ Below w.heap.size w wr) (fun q _ => 3 - (intOf q).toNat)
            case atStart => exact ⟨0, by omega, rfl, hown, hbel⟩
            case round =>
              obtain ⟨j, hj, rfl, hownI, hbI⟩ := hrel
              clear hown hbel
              rcases (show j = 0 ∨ j = 1 ∨ j = 2 ∨ j = 3 by omega) with rfl | rfl | rfl | rfl
              · obtain ⟨y, hy1, hy2, hy3⟩ := low_bit (wv / 4) (by omega)
                have hyv : bits .and .u64 ((wv : Int) / 4) 1 = (y : Int) := by rw [← hy1]; rfl
                replace hownI : Own wr w.heap.size (.slice (some ⟨g, 0, none⟩) N N) (fillE (codedTo zs (zs.length + 6)) (3 * i)) := hownI
                have hcell := hownI.cell (i := 3 * i) (by rw [fillE_length _ _ (by rw [HL.out]; omega), HL.out]; omega)
                have hfr := hownI.free (3 * i)
                have hset := hownI.set (3 * i) (y : Int)
                rw [fillE_set _ (3 * i) (by rw [HL.out]; omega) _ (by rw [codedTo_trip0 zs _ i (by omega), HT2.out]; show (y : Int) = (wv : Int) / 4 % 2; omega)] at hset
                have hbI' := hbI.setCell (p := ⟨g, 3 * i, none⟩) hBg.out (.int .u8 (y : Int))
                clear hownI hbI hy1 hy2
                go_wp2
                go_roundw
                case rel => exact ⟨0 + 1, by omega, by go_num, hset, hbI'⟩
                case measure => simp [intOf]
              · obtain ⟨y, hy1, hy2, hy3⟩ := low_bit (wv / 2) (by omega)
                have hyv : bits .and .u64 ((wv : Int) / 2) 1 = (y : Int) := by rw [← hy1]; rfl
                have hcell := hownI.cell (i := 3 * i + 1) (by rw [fillE_length _ _ (by rw [HL.out]; omega), HL.out]; omega)
                have hfr := hownI.free (3 * i + 1)
                have hset := hownI.set (3 * i + 1) (y : Int)
                rw [fillE_set _ (3 * i + 1) (by rw [HL.out]; omega) _ (by rw [codedTo_trip zs _ i (by omega) 1 (by omega), HT2.out]; show (y : Int) = (wv : Int) / 2 % 2; omega)] at hset
                have hbI' := hbI.setCell (p := ⟨g, 3 * i + 1, none⟩) hBg.out (.int .u8 (y : Int))
                clear hownI hbI hy1 hy2
                go_wp2
                go_roundw
                case rel => exact ⟨1 + 1, by omega, by go_num, hset, hbI'⟩
                case measure => simp [intOf]
              · obtain ⟨y, hy1, hy2, hy3⟩ := low_bit (wv / 1) (by omega)
                have hyv : bits .and .u64 (wv : Int) 1 = (y : Int) := by rw [← hy1, Nat.div_one]
                have hcell := hownI.cell (i := 3 * i + 2) (by rw [fillE_length _ _ (by rw [HL.out]; omega), HL.out]; omega)
                have hfr := hownI.free (3 * i + 2)
                have hset := hownI.set (3 * i + 2) (y : Int)
                rw [fillE_set _ (3 * i + 2) (by rw [HL.out]; omega) _ (by rw [codedTo_trip zs _ i (by omega) 2 (by omega), HT2.out]; show (y : Int) = (wv : Int) / 1 % 2; omega)] at hset
                have hbI' := hbI.setCell (p := ⟨g, 3 * i + 2, none⟩) hBg.out (.int .u8 (y : Int))
                clear hownI hbI hy1 hy2
                go_wp2
                go_roundw
                case rel => exact ⟨2 + 1, by omega, by go_num, hset, hbI'⟩
                case measure => simp [intOf]
              · go_wp2
                go_roundw
                case rel => exact ⟨i + 1, V', by omega, by go_num, rfl, lV, HP', hownI, hbI⟩
                case measure => simp [intOf]; omega
          · skip
            have hbb : bitI zs (i : Int) = ((0 : Nat) : Int) := by unfold bitI; rw [if_neg (by omega), Int.toNat_natCast]; simp [List.getD, Nat.le_of_not_lt hin]
            obtain ⟨U, hU, lU, _, lV, HV0⟩ := win_move hb.out i V 0 HP.out hbb
            rw [Nat.add_zero] at lV HV0
            have HV := hid HV0
            clear HV0
            obtain ⟨V', rfl⟩ : ∃ V', V' = U := ⟨_, rfl⟩
            have hTr := hT.below hbel
            obtain ⟨wv, hwv⟩ : ∃ wv : Nat, wordI (V' : Int) = (wv : Int) := Int.eq_ofNat_of_zero_le (wordI_bd _).1
            have hw8 := (wordI_bd (V' : Int)).2
            rw [hwv] at hw8
            have HT2 := hid (show trip zs i = [(wv : Int) / 4 % 2, (wv : Int) / 2 % 2, (wv : Int) / 1 % 2] by rw [trip_word hb.out i _ HV.out, hwv]; simp)
            have HP' := hid (win_next hb.out i _ HV.out)
            have HWV := hid hwv
            clear hwv
            go_wp2_with (go_at_call 63; refine (word_any V' lV _ hTr).mono ?_; rintro e w' ⟨rfl, rfl⟩; rw [HWV.out])
            go_loopw [44] (fun q wr => ∃ j : Nat, j ≤ 3 ∧ q = .int .i64 j ∧ Own wr w.heap.size (.slice (some ⟨g, 0, none⟩) N N) (fillE (codedTo zs (zs.length + 6)) (3 * i + j)) ∧ Below w.heap.size w wr) (fun q _ => 3 - (intOf q).toNat)
            case atStart => exact ⟨0, by omega, rfl, hown, hbel⟩
            case round =>
              obtain ⟨j, hj, rfl, hownI, hbI⟩ := hrel
              clear hown hbel
              rcases (show j = 0 ∨ j = 1 ∨ j = 2 ∨ j = 3 by omega) with rfl | rfl | rfl | rfl
              · obtain ⟨y, hy1, hy2, hy3⟩ := low_bit (wv / 4) (by omega)
                have hyv : bits .and .u64 ((wv : Int) / 4) 1 = (y : Int) := by rw [← hy1]; rfl
                replace hownI : Own wr w.heap.size (.slice (some ⟨g, 0, none⟩) N N) (fillE (codedTo zs (zs.length + 6)) (3 * i)) := hownI
                have hcell := hownI.cell (i := 3 * i) (by rw [fillE_length _ _ (by rw [HL.out]; omega), HL.out]; omega)
                have hfr := hownI.free (3 * i)
                have hset := hownI.set (3 * i) (y : Int)
                rw [fillE_set _ (3 * i) (by rw [HL.out]; omega) _ (by rw [codedTo_trip0 zs _ i (by omega), HT2.out]; show (y : Int) = (wv : Int) / 4 % 2; omega)] at hset
                have hbI' := hbI.setCell (p := ⟨g, 3 * i, none⟩) hBg.out (.int .u8 (y : Int))
                clear hownI hbI hy1 hy2
                go_wp2
                go_roundw
                case rel => exact ⟨0 + 1, by omega, by go_num, hset, hbI'⟩
                case measure => simp [intOf]
              · obtain ⟨y, hy1, hy2, hy3⟩ := low_bit (wv / 2) (by omega)
                have hyv : bits .and .u64 ((wv : Int) / 2) 1 = (y : Int) := by rw [← hy1]; rfl
                have hcell := hownI.cell (i := 3 * i + 1) (by rw [fillE_length _ _ (by rw [HL.out]; omega), HL.out]; omega)
                have hfr := hownI.free (3 * i + 1)
                have hset := hownI.set (3 * i + 1) (y : Int)
                rw [fillE_set _ (3 * i + 1) (by rw [HL.out]; omega) _ (by rw [codedTo_trip zs _ i (by omega) 1 (by omega), HT2.out]; show (y : Int) = (wv : Int) / 2 % 2; omega)] at hset
                have hbI' := hbI.setCell (p := ⟨g, 3 * i + 1, none⟩) hBg.out (.int .u8 (y : Int))
                clear hownI hbI hy1 hy2
                go_wp2
                go_roundw
                case rel => exact ⟨1 + 1, by omega, by go_num, hset, hbI'⟩
                case measure => simp [intOf]
              · obtain ⟨y, hy1, hy2, hy3⟩ := low_bit (wv / 1) (by omega)
                have hyv : bits .and .u64 (wv : Int) 1 = (y : Int) := by rw [← hy1, Nat.div_one]
                have hcell := hownI.cell (i := 3 * i + 2) (by rw [fillE_length _ _ (by rw [HL.out]; omega), HL.out]; omega)
                have hfr := hownI.free (3 * i + 2)
                have hset := hownI.set (3 * i + 2) (y : Int)
                rw [fillE_set _ (3 * i + 2) (by rw [HL.out]; omega) _ (by rw [codedTo_trip zs _ i (by omega) 2 (by omega), HT2.out]; show (y : Int) = (wv : Int) / 1 % 2; omega)] at hset
                have hbI' := hbI.setCell (p := ⟨g, 3 * i + 2, none⟩) hBg.out (.int .u8 (y : Int))
                clear hownI hbI hy1 hy2
                go_wp2
                go_roundw
                case rel => exact ⟨2 + 1, by omega, by go_num, hset, hbI'⟩
                case measure => simp [intOf]
              · go_wp2
                go_roundw
                case rel => exact ⟨i + 1, V', by omega, by go_num, rfl, lV, HP', hownI, hbI⟩
                case measure => simp [intOf]; omega
        · obtain rfl : i = zs.length + 6 := by omega
          go_wp2
          go_ret2
          refine ⟨_, rfl, ?_, hbel⟩
          rw [show 3 * (zs.length + 6) = (codedTo zs (zs.length + 6)).length from HL.out.symm, fillE_all] at hown
          exact hown
  · have he : encErr zs = errOf zs := by unfold encErr; rw [if_neg h0]
    have hL : encL zs = [] := by unfold encL; rw [he, if_neg h0]
    rw [he, hL]
    have hne : (errOf zs != 0) = true := by simpa using h0
    have herr := err_cases zs
    have H0 := hid h0
    clear he hL h0
    generalize HE : errOf zs = q at *
    go_enter Tryz.func49, Tryz.ntmps49
    go_wp2_with (go_at_call 38; refine (check_any zs a c _ ha hz).mono ?_; rintro e w' ⟨rfl, rfl⟩; rw [HE])
    go_ret2
    exact ⟨_, rfl, Own.nil _ _, Below.refl _ _⟩
end Go.Proofs.YtplkmkbambbemaeGreatDoor
namespace Go.Proofs.YtplkmkbambbemaeGreatDoor
open Go.ChangeShapes Go.WideShapes Go.ChangeAt Go.RowKit
theorem below_setRow {B : Nat} {a w : World} (h : Below B a w) {g : Nat} (hg : B ≤ g) (cs : Array Value) : Below B a (w.setRow g cs) :=
  h.trans ⟨rfl, rfl, rfl, by simp, fun k hk => setRow_other w g k cs (by omega)⟩
def wordsTo (n : Nat) : List Int := (List.range 64).map fun S => if S < n then wordI (2 * (S : Int)) else 0
theorem wordsTo_length (n : Nat) : (wordsTo n).length = 64 := by simp [wordsTo]
theorem wordsTo_set (n : Nat) : (wordsTo n).set n (wordI (2 * (n : Int))) = wordsTo (n + 1) := by
  refine List.ext_getElem (by simp [wordsTo]) fun j h1 h2 => ?_
  rw [List.getElem_set]
  simp only [wordsTo, List.getElem_map, List.getElem_range]
  by_cases hj : n = j
  · subst hj; simp
  · rw [if_neg hj]
    by_cases h : j < n
    · rw [if_pos h, if_pos (by omega)]
    · rw [if_neg h, if_neg (by omega)]
theorem wordsTo_at (S : Nat) (h : S < 64) : (wordsTo 64).getD S 0 = wordI (2 * (S : Int)) := by simp [wordsTo, List.getD, h]
set_option maxRecDepth 100000 in
set_option maxHeartbeats 1000000 in
theorem words_any (w : World) (hT : Taps w) :
    Calls Tryz.prog 86 #[] w fun e w' => e = .returned (.agg ((wordsTo 64).map (Value.int .u64)).toArray) ∧ Below w.heap.size w w' := by
  go_enter Tryz.func86, Tryz.ntmps86
  go_wp2
  have hsz : w.heap.size < w.heap.size + 1 := by omega
  go_loopw [3] (fun q wr => ∃ S : Nat, S ≤ 64 ∧ q = .int .i64 S ∧ ArrAt .u64 130 wr w.heap.size (List.replicate 64 0) ∧ ArrAt .u64 130 wr (w.heap.size + 1) (wordsTo S) ∧ Below w.heap.size w wr) (fun q _ => 64 - (intOf q).toNat)
  case atStart =>
    refine ⟨0, by omega, rfl, ?_, ?_, ?_⟩
    · exact (Below.heap_alloc _ _ w.heap.size (by simp)).trans (heap_alloc_new w _)
    · have := heap_alloc_new (w.alloc (.cells ((List.replicate 64 (0 : Int)).map (Value.int .u64)).toArray 130)) (.cells ((List.replicate 64 (0 : Int)).map (Value.int .u64)).toArray 130)
      have e : (w.alloc (.cells ((List.replicate 64 (0 : Int)).map (Value.int .u64)).toArray 130)).heap.size = w.heap.size + 1 := by simp
      rw [e] at this
      exact this
    · exact (((Below.refl _ _).alloc (Nat.le_refl _) _).alloc (by simp) _)
  case round =>
    obtain ⟨S, hS, rfl, hA, hB, hbel⟩ := hrel
    by_cases hlt : S < 64
    · have hc := hB.cell (j := S) (by rw [wordsTo_length]; exact hlt)
      have hf := hB.free S
      have hT' := hT.below hbel
      have hset := hB.set S (wordI (2 * (S : Int)))
      rw [wordsTo_set] at hset
      have hA' := hA.other ⟨w.heap.size + 1, S, none⟩ (.int .u64 (wordI (2 * (S : Int)))) (by show w.heap.size ≠ w.heap.size + 1; omega)
      have hbel' := hbel.setCell (p := ⟨w.heap.size + 1, S, none⟩) (by show w.heap.size ≤ w.heap.size + 1; omega) (.int .u64 (wordI (2 * (S : Int))))
      clear hA hB hbel
      have hw := wordI_bd (2 * (S : Int))
      have HE1 := hid (show (S : Int) * 2 = ((2 * S : Nat) : Int) by omega)
      have HE2 := hid (show ((2 * S : Nat) : Int) = 2 * (S : Int) by omega)
      go_wp2_with (first | (go_at_call 63; rw [HE1.out]; refine (word_any (2 * S) (by omega) _ hT').mono ?_; rintro e w' ⟨rfl, rfl⟩; rw [HE2.out]))
      go_roundw
      case rel => exact ⟨S + 1, by omega, by go_num, hA', hset, hbel'⟩
      case measure => simp [intOf]; omega
    · obtain rfl : S = 64 := by omega
      go_wp2_with (first | (refine wpList_load_row rfl 130 (.tmp 1) rfl (w.heap.size + 1) rfl 130 _ (0, 0) _ hB Tryz.underlying130 rfl (by kernel_rfl) ?_) | (refine wpList_store_row rfl 130 (.tmp 0) (.tmp 13) rfl w.heap.size 130 _ _ rfl rfl hA (by kernel_rfl) (by simp [wordsTo]) (by kernel_rfl) ?_))
      refine bodyPost_ret (results_cell_row (p := 0) (ty := 130) (by kernel_rfl) _ _ w.heap.size 130 _ (0, 0) _ rfl (setRow_heap _ _ _ _ _ _ hA) Tryz.underlying130 rfl (by kernel_rfl)) rfl ?_
      exact ⟨rfl, below_setRow hbel (Nat.le_refl _) _⟩
end Go.Proofs.YtplkmkbambbemaeGreatDoor
namespace Go.Proofs.YtplkmkbambbemaeGreatDoor
open Go.ChangeShapes Go.WideShapes Go.ChangeAt Go.RowKit
/-- What a word scores of the first j of what is heard. -/
def psum (hs : List Int) (v : Nat) : Nat → Int
  | 0 => 0
  | j + 1 => psum hs v j + sgn ((v / 2 ^ (2 - j) % 2 : Nat) : Int) (hs.getD j 0)
theorem psum_bd (hs : List Int) (v : Nat) (h : ∀ k, -100000 ≤ hs.getD k 0 ∧ hs.getD k 0 ≤ 100000) : ∀ j : Nat, -(100000 * (j : Int)) ≤ psum hs v j ∧ psum hs v j ≤ 100000 * (j : Int)
  | 0 => by simp [psum]
  | j + 1 => by
    have := psum_bd hs v h j
    have := h j
    unfold psum sgn
    split <;> omega
/-- The gains, while they are made. -/
def gainsTo (hs : List Int) (v j : Nat) : List Int := (List.range 8).map fun u => if u < v then psum hs u 3 else if u = v then psum hs v j else 0
theorem gainsTo_length (hs : List Int) (v j : Nat) : (gainsTo hs v j).length = 8 := by simp [gainsTo]
theorem gainsTo_at (hs : List Int) (v j : Nat) (h : v < 8) : (gainsTo hs v j).getD v 0 = psum hs v j := by simp [gainsTo, List.getD, h]
theorem gainsTo_set (hs : List Int) (v j : Nat) : (gainsTo hs v j).set v (psum hs v (j + 1)) = gainsTo hs v (j + 1) := by
  refine List.ext_getElem (by simp [gainsTo]) fun u h1 h2 => ?_
  rw [List.getElem_set]
  simp only [gainsTo, List.getElem_map, List.getElem_range]
  by_cases hu : v = u
  · subst hu; simp
  · have hu' : ¬ u = v := fun e => hu e.symm
    rw [if_neg hu, if_neg hu', if_neg hu']
theorem gainsTo_next (hs : List Int) (v : Nat) : gainsTo hs v 3 = gainsTo hs (v + 1) 0 := by
  refine List.ext_getElem (by simp [gainsTo]) fun u h1 h2 => ?_
  simp only [gainsTo, List.getElem_map, List.getElem_range]
  by_cases h : u < v
  · rw [if_pos h, if_pos (by omega)]
  · rw [if_neg h]
    by_cases e : u = v
    · subst e; rw [if_pos rfl, if_pos (by omega)]
    · rw [if_neg e, if_neg (by omega)]
      split
      · simp [psum]
      · rfl
theorem gainsTo_zero (hs : List Int) : gainsTo hs 0 0 = List.replicate 8 0 := by
  simp only [gainsTo, psum]
  rfl
theorem gainsTo_all (hs : List Int) (v : Nat) (h : v < 8) : (gainsTo hs 8 0).getD v 0 = psum hs v 3 := by simp [gainsTo, List.getD, h]
theorem psum_gw (soft : List Int) (i v : Nat) (hs : List Int) (h0 : hs.getD 0 0 = soft.getD (3 * i) 0) (h1 : hs.getD 1 0 = soft.getD (3 * i + 1) 0) (h2 : hs.getD 2 0 = soft.getD (3 * i + 2) 0) : psum hs v 3 = gw soft i (v : Int) := by
  show 0 + sgn ((v / 2 ^ 2 % 2 : Nat) : Int) (hs.getD 0 0) + sgn ((v / 2 ^ 1 % 2 : Nat) : Int) (hs.getD 1 0) + sgn ((v / 2 ^ 0 % 2 : Nat) : Int) (hs.getD 2 0) = _
  unfold gw
  rw [h0, h1, h2, show ((v / 2 ^ 2 % 2 : Nat) : Int) = (v : Int) / 4 % 2 by omega, show ((v / 2 ^ 1 % 2 : Nat) : Int) = (v : Int) / 2 % 2 by omega, show ((v / 2 ^ 0 % 2 : Nat) : Int) = (v : Int) % 2 by omega]
  omega
theorem and1_i64 : ∀ x : Fin 8, bits .and .i64 (x.val : Int) 1 = ((x.val % 2 : Nat) : Int) := by decide +kernel
set_option maxRecDepth 100000 in
set_option maxHeartbeats 1000000 in
theorem gains_any (hs : List Int) (a : Option Addr) (c : Nat) (w : World) (ha : Rd .i64 w a hs) (hl : hs.length = 3) (hb : ∀ k, -100000 ≤ hs.getD k 0 ∧ hs.getD k 0 ≤ 100000) :
    Calls Tryz.prog 87 #[.slice a 3 c] w fun e w' => e = .returned (.agg ((gainsTo hs 8 0).map (Value.int .i64)).toArray) ∧ Below w.heap.size w w' := by
  obtain ⟨b1, o1, rfl, hc1⟩ := ha.at (i := 0) (by omega)
  have q0 := hc1 0 (by omega)
  have q1 := hc1 1 (by omega)
  have q2 := hc1 2 (by omega)
  rw [Nat.add_zero] at q0
  have hlt1 : b1 < w.heap.size := World.block_lt_of_cell? w _ q0
  have HB := hid hb
  clear hc1 hb
  obtain ⟨B, hB⟩ : ∃ B, B = w.heap.size := ⟨_, rfl⟩
  go_enter Tryz.func87, Tryz.ntmps87
  go_wp2
  rw [← hB]
  have HBB := hid hB
  rw [← hB] at hlt1
  clear hB
  go_loopw [7] (fun q wr => ∃ v : Nat, v ≤ 8 ∧ q = .int .i64 v ∧ ArrAt .i64 111 wr B (List.replicate 8 0) ∧ ArrAt .i64 111 wr (B + 1) (gainsTo hs v 0) ∧ Below B w wr) (fun q _ => 8 - (intOf q).toNat)
  case atStart =>
    refine ⟨0, by omega, rfl, ?_, ?_, ?_⟩
    · rw [HBB.out]
      exact (Below.heap_alloc _ _ w.heap.size (by simp)).trans (heap_alloc_new w _)
    · have := heap_alloc_new (w.alloc (.cells ((List.replicate 8 (0 : Int)).map (Value.int .i64)).toArray 111)) (.cells ((List.replicate 8 (0 : Int)).map (Value.int .i64)).toArray 111)
      have e : (w.alloc (.cells ((List.replicate 8 (0 : Int)).map (Value.int .i64)).toArray 111)).heap.size = B + 1 := by simp [HBB.out]
      rw [e] at this
      rw [gainsTo_zero]
      exact this
    · exact (((Below.refl _ _).alloc (by rw [HBB.out]; exact Nat.le_refl _) _).alloc (by rw [HBB.out]; simp) _)
  case round =>
    obtain ⟨v, hv, rfl, hA, hG, hbel⟩ := hrel
    by_cases hlt : v < 8
    · go_wp2
      go_loopw [12] (fun q wr => ∃ j : Nat, j ≤ 3 ∧ q = .int .i64 j ∧ ArrAt .i64 111 wr B (List.replicate 8 0) ∧ ArrAt .i64 111 wr (B + 1) (gainsTo hs v j) ∧ Below B w wr) (fun q _ => 3 - (intOf q).toNat)
      case atStart => exact ⟨0, by omega, rfl, hA, hG, hbel⟩
      case round =>
        clear hA hG hbel
        obtain ⟨j, hj, rfl, hA, hG, hbel⟩ := hrel
        rcases (show j = 0 ∨ j = 1 ∨ j = 2 ∨ j = 3 by omega) with rfl | rfl | rfl | rfl
        · have g1 := (hbel.cell (p := ⟨b1, o1, none⟩) (by show b1 < B; omega)).trans q0
          have hc := hG.cell (j := v) (by rw [gainsTo_length]; exact hlt)
          rw [gainsTo_at hs v 0 hlt] at hc
          have hfr := hG.free v
          have hx := HB.out 0
          have hps := psum_bd hs v HB.out 0
          have hps1 := psum_bd hs v HB.out (0 + 1)
          have hsx := hid (show psum hs v (0 + 1) = psum hs v 0 + sgn ((v / 4 % 2 : Nat) : Int) (hs.getD 0 0) from rfl)
          have hset := hG.set v (psum hs v (0 + 1))
          rw [gainsTo_set] at hset
          have hA' := hA.other ⟨B + 1, v, none⟩ (.int .i64 (psum hs v (0 + 1))) (by show B ≠ B + 1; omega)
          have hbel' := hbel.setCell (p := ⟨B + 1, v, none⟩) (by show B ≤ B + 1; omega) (.int .i64 (psum hs v (0 + 1)))
          have hb1 : bits .and .i64 ((v : Int) / 4) 1 = ((v / 4 % 2 : Nat) : Int) := by
            have := and1_i64 ⟨v / 4, by omega⟩
            rw [← this]
            congr 1
          clear hA hG hbel
          obtain ⟨p0, e0⟩ : ∃ p0, p0 = psum hs v 0 := ⟨_, rfl⟩
          obtain ⟨p1, e1⟩ : ∃ p1, p1 = psum hs v (0 + 1) := ⟨_, rfl⟩
          obtain ⟨x, ex⟩ : ∃ x, x = hs.getD 0 0 := ⟨_, rfl⟩
          obtain ⟨y, ey⟩ : ∃ y, y = v / 4 % 2 := ⟨_, rfl⟩
          rw [← e0] at hc hps hsx
          rw [← e1] at hset hA' hbel' hps1 hsx
          rw [← ex] at g1 hx hsx
          rw [← ey] at hb1 hsx
          have EE := hid ey
          clear e0 e1 ex ey
          by_cases h1 : y = 1
          · subst h1
            have hv1 := hid (show p0 + -x = p1 by rw [hsx.out]; unfold sgn; rw [if_pos (by rfl)])
            go_wp2
            go_roundw
            case rel => rw [hv1.out]; exact ⟨0 + 1, by omega, by go_num, hA', hset, hbel'⟩
            case measure => simp [intOf]
          · obtain rfl : y = 0 := by have := EE.out; omega
            have hv1 := hid (show p0 + x = p1 by rw [hsx.out]; unfold sgn; rw [if_neg (by omega)])
            go_wp2
            go_roundw
            case rel => rw [hv1.out]; exact ⟨0 + 1, by omega, by go_num, hA', hset, hbel'⟩
            case measure => simp [intOf]
        · have g1 := (hbel.cell (p := ⟨b1, o1 + 1, none⟩) (by show b1 < B; omega)).trans q1
          have hc := hG.cell (j := v) (by rw [gainsTo_length]; exact hlt)
          rw [gainsTo_at hs v 1 hlt] at hc
          have hfr := hG.free v
          have hx := HB.out 1
          have hps := psum_bd hs v HB.out 1
          have hps1 := psum_bd hs v HB.out (1 + 1)
          have hsx := hid (show psum hs v (1 + 1) = psum hs v 1 + sgn ((v / 2 % 2 : Nat) : Int) (hs.getD 1 0) from rfl)
          have hset := hG.set v (psum hs v (1 + 1))
          rw [gainsTo_set] at hset
          have hA' := hA.other ⟨B + 1, v, none⟩ (.int .i64 (psum hs v (1 + 1))) (by show B ≠ B + 1; omega)
          have hbel' := hbel.setCell (p := ⟨B + 1, v, none⟩) (by show B ≤ B + 1; omega) (.int .i64 (psum hs v (1 + 1)))
          have hb1 : bits .and .i64 ((v : Int) / 2) 1 = ((v / 2 % 2 : Nat) : Int) := by
            have := and1_i64 ⟨v / 2, by omega⟩
            rw [← this]
            congr 1
          clear hA hG hbel
          obtain ⟨p0, e0⟩ : ∃ p0, p0 = psum hs v 1 := ⟨_, rfl⟩
          obtain ⟨p1, e1⟩ : ∃ p1, p1 = psum hs v (1 + 1) := ⟨_, rfl⟩
          obtain ⟨x, ex⟩ : ∃ x, x = hs.getD 1 0 := ⟨_, rfl⟩
          obtain ⟨y, ey⟩ : ∃ y, y = v / 2 % 2 := ⟨_, rfl⟩
          rw [← e0] at hc hps hsx
          rw [← e1] at hset hA' hbel' hps1 hsx
          rw [← ex] at g1 hx hsx
          rw [← ey] at hb1 hsx
          have EE := hid ey
          clear e0 e1 ex ey
          by_cases h1 : y = 1
          · subst h1
            have hv1 := hid (show p0 + -x = p1 by rw [hsx.out]; unfold sgn; rw [if_pos (by rfl)])
            go_wp2
            go_roundw
            case rel => rw [hv1.out]; exact ⟨1 + 1, by omega, by go_num, hA', hset, hbel'⟩
            case measure => simp [intOf]
          · obtain rfl : y = 0 := by have := EE.out; omega
            have hv1 := hid (show p0 + x = p1 by rw [hsx.out]; unfold sgn; rw [if_neg (by omega)])
            go_wp2
            go_roundw
            case rel => rw [hv1.out]; exact ⟨1 + 1, by omega, by go_num, hA', hset, hbel'⟩
            case measure => simp [intOf]
        · have g1 := (hbel.cell (p := ⟨b1, o1 + 2, none⟩) (by show b1 < B; omega)).trans q2
          have hc := hG.cell (j := v) (by rw [gainsTo_length]; exact hlt)
          rw [gainsTo_at hs v 2 hlt] at hc
          have hfr := hG.free v
          have hx := HB.out 2
          have hps := psum_bd hs v HB.out 2
          have hps1 := psum_bd hs v HB.out (2 + 1)
          have hsx := hid (show psum hs v (2 + 1) = psum hs v 2 + sgn ((v / 1 % 2 : Nat) : Int) (hs.getD 2 0) from rfl)
          have hset := hG.set v (psum hs v (2 + 1))
          rw [gainsTo_set] at hset
          have hA' := hA.other ⟨B + 1, v, none⟩ (.int .i64 (psum hs v (2 + 1))) (by show B ≠ B + 1; omega)
          have hbel' := hbel.setCell (p := ⟨B + 1, v, none⟩) (by show B ≤ B + 1; omega) (.int .i64 (psum hs v (2 + 1)))
          have hb1 : bits .and .i64 ((v : Int)) 1 = ((v / 1 % 2 : Nat) : Int) := by
            have := and1_i64 ⟨v / 1, by omega⟩
            rw [← this]
            congr 1
            simp
          clear hA hG hbel
          obtain ⟨p0, e0⟩ : ∃ p0, p0 = psum hs v 2 := ⟨_, rfl⟩
          obtain ⟨p1, e1⟩ : ∃ p1, p1 = psum hs v (2 + 1) := ⟨_, rfl⟩
          obtain ⟨x, ex⟩ : ∃ x, x = hs.getD 2 0 := ⟨_, rfl⟩
          obtain ⟨y, ey⟩ : ∃ y, y = v / 1 % 2 := ⟨_, rfl⟩
          rw [← e0] at hc hps hsx
          rw [← e1] at hset hA' hbel' hps1 hsx
          rw [← ex] at g1 hx hsx
          rw [← ey] at hb1 hsx
          have EE := hid ey
          clear e0 e1 ex ey
          by_cases h1 : y = 1
          · subst h1
            have hv1 := hid (show p0 + -x = p1 by rw [hsx.out]; unfold sgn; rw [if_pos (by rfl)])
            go_wp2
            go_roundw
            case rel => rw [hv1.out]; exact ⟨2 + 1, by omega, by go_num, hA', hset, hbel'⟩
            case measure => simp [intOf]
          · obtain rfl : y = 0 := by have := EE.out; omega
            have hv1 := hid (show p0 + x = p1 by rw [hsx.out]; unfold sgn; rw [if_neg (by omega)])
            go_wp2
            go_roundw
            case rel => rw [hv1.out]; exact ⟨2 + 1, by omega, by go_num, hA', hset, hbel'⟩
            case measure => simp [intOf]
        · rw [gainsTo_next] at hG
          go_wp2
          go_roundw
          case rel => exact ⟨v + 1, by omega, by go_num, hA, hG, hbel⟩
          case measure => simp [intOf]; omega
    · obtain rfl : v = 8 := by omega
      go_wp2_with (first | (refine wpList_load_row rfl 111 (.tmp 3) rfl (B + 1) rfl 111 _ (0, 0) _ hG Tryz.underlying111 rfl (by kernel_rfl) ?_) | (refine wpList_store_row rfl 111 (.tmp 2) (.tmp 33) rfl B 111 _ _ rfl rfl hA (by kernel_rfl) (by simp [gainsTo]) (by simp [gainsTo, List.range, List.range.loop, Value.oneCell']) ?_))
      refine bodyPost_ret (results_cell_row (p := 2) (ty := 111) (by kernel_rfl) _ _ B 111 _ (0, 0) _ rfl (setRow_heap _ _ _ _ _ _ hA) Tryz.underlying111 rfl (by kernel_rfl)) rfl ?_
      exact ⟨rfl, by rw [← HBB.out]; exact below_setRow hbel (Nat.le_refl _) _⟩
end Go.Proofs.YtplkmkbambbemaeGreatDoor
