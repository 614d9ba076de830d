import Derived.Test.YtdndeegpbjlibadGreatDoorK06
import Derived.Deep.WholeRow
import Derived.Test.YtdndeegpbjlibadGreatDoorK03
namespace Go.Proofs.YtdndeegpbjlibadGreatDoor
open Go.ChangeShapes Go.WideShapes Go.ChangeAt Go.RowKit

/-- How many places of a number below 128 are 1. -/
def pop (x : Nat) : Nat := x % 2 + x / 2 % 2 + x / 4 % 2 + x / 8 % 2 + x / 16 % 2 + x / 32 % 2 + x / 64 % 2
def popA (x : Int) : Int := IntKind.u64.wrap (bits .and .u64 (x / 2) 6148914691236517205 + bits .and .u64 x 6148914691236517205)
def popB (x : Int) : Int := IntKind.u64.wrap (bits .and .u64 (x / 4) 3689348814741910323 + bits .and .u64 x 3689348814741910323)
def popC (x : Int) : Int := bits .and .u64 (x / 16 + x) 1085102592571150095
def popD (x : Int) : Int := x + x / 256
def popE (x : Int) : Int := x + x / 65536
def popF (x : Int) : Int := x + x / 4294967296
theorem pop_all : ∀ x : Fin 128, bits .and .i64 (popF (popE (popD (popC (popB (popA (x.val : Int))))))) 127 = (pop x.val : Int) := by decide +kernel

theorem popA_pos : ∀ x : Fin 128, ((popA (x.val : Int)).toNat : Int) = popA (x.val : Int) ∧ (popA (x.val : Int)).toNat < 256 := by decide +kernel
theorem popB_pos : ∀ x : Fin 256, ((popB (x.val : Int)).toNat : Int) = popB (x.val : Int) ∧ (popB (x.val : Int)).toNat < 128 := by decide +kernel
theorem popC_pos : ∀ x : Fin 128, ((popC (x.val : Int)).toNat : Int) = popC (x.val : Int) ∧ (popC (x.val : Int)).toNat < 256 := by decide +kernel
theorem popD_pos : ∀ x : Fin 256, ((popD (x.val : Int)).toNat : Int) = popD (x.val : Int) ∧ (popD (x.val : Int)).toNat < 256 := by decide +kernel
theorem popE_pos : ∀ x : Fin 256, ((popE (x.val : Int)).toNat : Int) = popE (x.val : Int) ∧ (popE (x.val : Int)).toNat < 256 := by decide +kernel
theorem popF_pos : ∀ x : Fin 256, ((popF (x.val : Int)).toNat : Int) = popF (x.val : Int) ∧ (popF (x.val : Int)).toNat < 256 := by decide +kernel

set_option maxHeartbeats 400000 in
theorem ones64 (x : Nat) (hx : x < 128) (w : World) :
    Calls Tryz.prog 64 #[.int .u64 x] w fun e w' => e = .returned (.int .i64 (pop x)) ∧ w = w' := by
  have h := hid (pop_all ⟨x, hx⟩)
  obtain ⟨A, hA, lA⟩ : ∃ A : Nat, popA x = A ∧ A < 256 := ⟨_, (popA_pos ⟨x, hx⟩).1.symm, (popA_pos ⟨x, hx⟩).2⟩
  obtain ⟨B, hB, lB⟩ : ∃ B : Nat, popB A = B ∧ B < 128 := ⟨_, (popB_pos ⟨A, lA⟩).1.symm, (popB_pos ⟨A, lA⟩).2⟩
  obtain ⟨C, hC, lC⟩ : ∃ C : Nat, popC B = C ∧ C < 256 := ⟨_, (popC_pos ⟨B, lB⟩).1.symm, (popC_pos ⟨B, lB⟩).2⟩
  obtain ⟨D, hD, lD⟩ : ∃ D : Nat, popD C = D ∧ D < 256 := ⟨_, (popD_pos ⟨C, lC⟩).1.symm, (popD_pos ⟨C, lC⟩).2⟩
  obtain ⟨E, hE, lE⟩ : ∃ E : Nat, popE D = E ∧ E < 256 := ⟨_, (popE_pos ⟨D, lD⟩).1.symm, (popE_pos ⟨D, lD⟩).2⟩
  obtain ⟨F, hF, lF⟩ : ∃ F : Nat, popF E = F ∧ F < 256 := ⟨_, (popF_pos ⟨E, lE⟩).1.symm, (popF_pos ⟨E, lE⟩).2⟩
  have h2 : Hid (bits .and .i64 (F : Int) 127 = (pop x : Int)) := by
    have := h.out
    rw [hA, hB, hC, hD, hE, hF] at this
    exact this
  unfold popA at hA
  unfold popB at hB
  unfold popC at hC
  unfold popD at hD
  unfold popE at hE
  unfold popF at hF
  clear h
  go_enter Tryz.func64, Tryz.ntmps64
  go_wp2
  go_ret
  exact ⟨ret_int h2.out, rfl⟩

end Go.Proofs.YtdndeegpbjlibadGreatDoor

namespace Go.Proofs.YtdndeegpbjlibadGreatDoor
open Go.ChangeShapes Go.WideShapes Go.ChangeAt Go.RowKit

theorem ones (x : Nat) (hx : x < 128) (w : World) :
    Calls Tryz.prog 49 #[.int .u64 x] w fun e w' => e = .returned (.int .i64 (pop x)) ∧ w = w' := by
  go_enter Tryz.func49, Tryz.ntmps49
  go_wp2_with (go_at_call 64; refine (ones64 x hx _).mono ?_; rintro e w' ⟨rfl, rfl⟩)
  go_ret
  exact ⟨rfl, rfl⟩

theorem tap_all : ∀ r : Fin 128, ((2 * (2 * (2 * 0 + pop (r.val &&& 79) % 2) + pop (r.val &&& 109) % 2) + pop (r.val &&& 87) % 2 : Nat) : Int) = wordI (r.val : Int) := by decide +kernel

theorem and_low (V t : Nat) (ht : 127 &&& t = t) : V &&& t = (V % 128) &&& t := by
  have e : V % 128 = V &&& 127 := (nat_mask7 V).symm
  rw [e, Nat.and_assoc, ht]

def tapV (k : Nat) : Nat := if k = 0 then 79 else if k = 1 then 109 else 87
/-- What word has made of the window behind k taps. -/
def accW (V : Nat) : Nat → Nat
  | 0 => 0
  | k + 1 => 2 * accW V k + pop (V &&& tapV k) % 2
theorem accW_bd (V : Nat) : ∀ k, accW V k < 2 ^ k
  | 0 => by simp [accW]
  | k + 1 => by
    have := accW_bd V k
    rw [accW, Nat.pow_succ]
    omega
theorem accW_word (V : Nat) : ((accW V 3 : Nat) : Int) = wordI (V : Int) := by
  have h := tap_all ⟨V % 128, Nat.mod_lt _ (by omega)⟩
  have e0 : accW V 3 = 2 * (2 * (2 * 0 + pop (V &&& 79) % 2) + pop (V &&& 109) % 2) + pop (V &&& 87) % 2 := rfl
  rw [e0, and_low V 79 (by decide), and_low V 109 (by decide), and_low V 87 (by decide), wordI_mod (V : Int) ((V % 128 : Nat) : Int) (by omega)]
  exact h

/-- The table of taps lies where it was laid. -/
def Taps (w : World) : Prop := ∃ T fr, w.heap[0]? = some (.cells #[.int .u64 79, .int .u64 109, .int .u64 87] T fr)

theorem Taps.cells {w : World} (h : Taps w) : w.cell? ⟨0, 0, none⟩ = some (.int .u64 79) ∧ w.cell? ⟨0, 1, none⟩ = some (.int .u64 109) ∧ w.cell? ⟨0, 2, none⟩ = some (.int .u64 87) := by
  obtain ⟨T, fr, h⟩ := h
  exact ⟨by rw [cell_of_row w 0 0 _ T fr h]; rfl, by rw [cell_of_row w 0 1 _ T fr h]; rfl, by rw [cell_of_row w 0 2 _ T fr h]; rfl⟩

theorem orw_all : ∀ a : Fin 4, ∀ b : Fin 2, bits .or .u64 ((a.val : Int) * 2) (b.val : Int) = ((2 * a.val + b.val : Nat) : Int) := by decide +kernel
theorem and1_all : ∀ p : Fin 128, bits .and .i64 ((pop p.val : Nat) : Int) 1 = ((pop p.val % 2 : Nat) : Int) := by decide +kernel
theorem step_word (V k : Nat) (hk : k < 3) : bits .and .i64 ((pop (V &&& tapV k) : Nat) : Int) 1 = ((pop (V &&& tapV k) % 2 : Nat) : Int) ∧
    bits .or .u64 ((accW V k : Int) * 2) (((pop (V &&& tapV k) : Nat) : Int) % 2) = ((accW V (k + 1) : Nat) : Int) ∧ accW V k < 4 := by
  have hb := accW_bd V k
  have h4 : accW V k < 4 := by
    have : 2 ^ k ≤ 2 ^ 2 := Nat.pow_le_pow_right (by omega) (by omega)
    omega
  have hl : V &&& tapV k < 128 := Nat.lt_of_le_of_lt Nat.and_le_right (by unfold tapV; split <;> (try split) <;> omega)
  exact ⟨and1_all ⟨_, hl⟩, orw_all ⟨_, h4⟩ ⟨_, Nat.mod_lt _ (by omega)⟩, h4⟩

set_option maxHeartbeats 1000000 in
theorem word_any (V : Nat) (hV : V < 18446744073709551616) (w : World) (hT : Taps w) :
    Calls Tryz.prog 30 #[.int .u64 V] w fun e w' => e = .returned (.int .u64 (wordI V)) ∧ w = w' := by
  obtain ⟨c0, c1, c2⟩ := hT.cells
  have HW := hid (accW_word V)
  go_enter Tryz.func30, Tryz.ntmps30
  go_wp2
  go_loop [3, 7] (fun a q => ∃ k : Nat, k ≤ 3 ∧ q = .int .i64 k ∧ a = .int .u64 (accW V k)) (fun _ q => 3 - (intOf q).toNat)
  case atStart => exact ⟨0, by omega, rfl, rfl⟩
  case round =>
    obtain ⟨k, hk, rfl, rfl⟩ := hrel
    rcases (show k = 0 ∨ k = 1 ∨ k = 2 ∨ k = 3 by omega) with rfl | rfl | rfl | rfl
    · have f1 : bits .and .u64 (V : Int) 79 = ((V &&& 79 : Nat) : Int) := u64_and_nat V 79 hV (by omega)
      have l1 : V &&& 79 < 128 := Nat.lt_of_le_of_lt Nat.and_le_right (by omega)
      have f2 := step_word V 0 (by omega)
      rw [show tapV 0 = 79 from rfl] at f2
      obtain ⟨f2, f3, l3⟩ := f2
      have F3 := hid f3
      clear f3
      generalize V &&& 79 = X at *
      generalize accW V 0 = a0 at *
      go_wp2_with (first | (go_at_call 49; refine (ones X l1 _).mono ?_; rintro e w' ⟨rfl, rfl⟩) | (refine wpList_index rfl 89 (.tmp 6) (.tmp 7) rfl 62 #[.int .u64 79, .int .u64 109, .int .u64 87] 3 0 (.int .u64 79) _ .i64 rfl rfl Tryz.underlying89 Tryz.underlying62 rfl (by kernel_rfl) (by omega) rfl ?_))
      go_round
      case rel => exact ⟨0 + 1, by omega, by go_num, congrArg (Value.int .u64) F3.out⟩
      case measure => simp [intOf]
    · have f1 : bits .and .u64 (V : Int) 109 = ((V &&& 109 : Nat) : Int) := u64_and_nat V 109 hV (by omega)
      have l1 : V &&& 109 < 128 := Nat.lt_of_le_of_lt Nat.and_le_right (by omega)
      have f2 := step_word V 1 (by omega)
      rw [show tapV 1 = 109 from rfl] at f2
      obtain ⟨f2, f3, l3⟩ := f2
      have F3 := hid f3
      clear f3
      generalize V &&& 109 = X at *
      generalize accW V 1 = a0 at *
      go_wp2_with (first | (go_at_call 49; refine (ones X l1 _).mono ?_; rintro e w' ⟨rfl, rfl⟩) | (refine wpList_index rfl 89 (.tmp 6) (.tmp 7) rfl 62 #[.int .u64 79, .int .u64 109, .int .u64 87] 3 1 (.int .u64 109) _ .i64 rfl rfl Tryz.underlying89 Tryz.underlying62 rfl (by kernel_rfl) (by omega) rfl ?_))
      go_round
      case rel => exact ⟨1 + 1, by omega, by go_num, congrArg (Value.int .u64) F3.out⟩
      case measure => simp [intOf]
    · have f1 : bits .and .u64 (V : Int) 87 = ((V &&& 87 : Nat) : Int) := u64_and_nat V 87 hV (by omega)
      have l1 : V &&& 87 < 128 := Nat.lt_of_le_of_lt Nat.and_le_right (by omega)
      have f2 := step_word V 2 (by omega)
      rw [show tapV 2 = 87 from rfl] at f2
      obtain ⟨f2, f3, l3⟩ := f2
      have F3 := hid f3
      clear f3
      generalize V &&& 87 = X at *
      generalize accW V 2 = a0 at *
      go_wp2_with (first | (go_at_call 49; refine (ones X l1 _).mono ?_; rintro e w' ⟨rfl, rfl⟩) | (refine wpList_index rfl 89 (.tmp 6) (.tmp 7) rfl 62 #[.int .u64 79, .int .u64 109, .int .u64 87] 3 2 (.int .u64 87) _ .i64 rfl rfl Tryz.underlying89 Tryz.underlying62 rfl (by kernel_rfl) (by omega) rfl ?_))
      go_round
      case rel => exact ⟨2 + 1, by omega, by go_num, congrArg (Value.int .u64) F3.out⟩
      case measure => simp [intOf]
    · go_wp2
      go_ret
      exact ⟨ret_int HW.out, rfl⟩
end Go.Proofs.YtdndeegpbjlibadGreatDoor

namespace Go.Proofs.YtdndeegpbjlibadGreatDoor
open Go.ChangeShapes Go.WideShapes Go.ChangeAt Go.RowKit

/-- A row that is filled from its head on. -/
def fillE (L : List Int) (k : Nat) : List Int := L.take k ++ List.replicate (L.length - k) 0
theorem fillE_zero (L : List Int) : fillE L 0 = List.replicate L.length 0 := by simp [fillE]
theorem fillE_all (L : List Int) : fillE L L.length = L := by simp [fillE]
theorem fillE_length (L : List Int) (k : Nat) (h : k ≤ L.length) : (fillE L k).length = L.length := by simp [fillE]; omega
theorem fillE_set (L : List Int) (k : Nat) (h : k < L.length) (x : Int) (hx : x = L.getD k 0) : (fillE L k).set k x = fillE L (k + 1) := by
  unfold fillE
  obtain ⟨m, hm⟩ : ∃ m, L.length - k = m + 1 := ⟨L.length - k - 1, by omega⟩
  rw [hm, set_fill _ k m x (by simp; omega), show L.length - (k + 1) = m by omega, hx]
  congr 1
  rw [List.take_add_one]
  simp [List.getD, h]

theorem seven (x0 x1 x2 x3 x4 x5 x6 : Int) (h0 : 0 ≤ x0 ∧ x0 ≤ 1) (h1 : 0 ≤ x1 ∧ x1 ≤ 1) (h2 : 0 ≤ x2 ∧ x2 ≤ 1) (h3 : 0 ≤ x3 ∧ x3 ≤ 1) (h4 : 0 ≤ x4 ∧ x4 ≤ 1) (h5 : 0 ≤ x5 ∧ x5 ≤ 1) (h6 : 0 ≤ x6 ∧ x6 ≤ 1) :
    (x6 * 64 + x5 * 32 + x4 * 16 + x3 * 8 + x2 * 4 + x1 * 2 + x0) % 2 = x0 ∧ (x6 * 64 + x5 * 32 + x4 * 16 + x3 * 8 + x2 * 4 + x1 * 2 + x0) / 2 % 2 = x1 ∧ (x6 * 64 + x5 * 32 + x4 * 16 + x3 * 8 + x2 * 4 + x1 * 2 + x0) / 4 % 2 = x2 ∧
    (x6 * 64 + x5 * 32 + x4 * 16 + x3 * 8 + x2 * 4 + x1 * 2 + x0) / 8 % 2 = x3 ∧ (x6 * 64 + x5 * 32 + x4 * 16 + x3 * 8 + x2 * 4 + x1 * 2 + x0) / 16 % 2 = x4 ∧ (x6 * 64 + x5 * 32 + x4 * 16 + x3 * 8 + x2 * 4 + x1 * 2 + x0) / 32 % 2 = x5 ∧
    (x6 * 64 + x5 * 32 + x4 * 16 + x3 * 8 + x2 * 4 + x1 * 2 + x0) / 64 % 2 = x6 := by omega

/-- Twice the state at the place i, the newest bit lowest. -/
def preI (zs : List Int) (i : Nat) : Int :=
  bitI zs ((i : Int) - 6) * 64 + bitI zs ((i : Int) - 5) * 32 + bitI zs ((i : Int) - 4) * 16 + bitI zs ((i : Int) - 3) * 8 + bitI zs ((i : Int) - 2) * 4 + bitI zs ((i : Int) - 1) * 2

theorem preI_bd {zs : List Int} (h : Bits zs) (i : Nat) : 0 ≤ preI zs i ∧ preI zs i < 128 := by
  have h1 := bitI_bd h ((i : Int) - 1)
  have h2 := bitI_bd h ((i : Int) - 2)
  have h3 := bitI_bd h ((i : Int) - 3)
  have h4 := bitI_bd h ((i : Int) - 4)
  have h5 := bitI_bd h ((i : Int) - 5)
  have h6 := bitI_bd h ((i : Int) - 6)
  unfold preI
  omega
theorem preI_zero (zs : List Int) : preI zs 0 = 0 := by simp [preI, bitI]
theorem preI_next {zs : List Int} (h : Bits zs) (i : Nat) : preI zs (i + 1) = 2 * ((preI zs i + bitI zs i) % 64) := by
  have e : ∀ k : Nat, bitI zs (((i + 1 : Nat) : Int) - ((k + 1 : Nat) : Int)) = bitI zs ((i : Int) - (k : Int)) := fun k => by congr 1; omega
  have e0 := e 0
  have e1 := e 1
  have e2 := e 2
  have e3 := e 3
  have e4 := e 4
  have e5 := e 5
  simp only [Nat.zero_add, Nat.reduceAdd, Int.cast_ofNat_Int, Int.sub_zero] at e0 e1 e2 e3 e4 e5
  have h0 := bitI_bd h (i : Int)
  have h1 := bitI_bd h ((i : Int) - 1)
  have h2 := bitI_bd h ((i : Int) - 2)
  have h3 := bitI_bd h ((i : Int) - 3)
  have h4 := bitI_bd h ((i : Int) - 4)
  have h5 := bitI_bd h ((i : Int) - 5)
  have h6 := bitI_bd h ((i : Int) - 6)
  unfold preI
  rw [e1, e2, e3, e4, e5]
  have e0' : bitI zs (((i + 1 : Nat) : Int) - 1) = bitI zs i := e0
  rw [e0']
  omega

/-- The three coded bits of a place are the word of its window. -/
theorem trip_word {zs : List Int} (h : Bits zs) (i : Nat) (V : Int) (hV : V % 128 = preI zs i + bitI zs i) : trip zs i = [wordI V / 4 % 2, wordI V / 2 % 2, wordI V % 2] := by
  have h0 := bitI_bd h (i : Int)
  have h1 := bitI_bd h ((i : Int) - 1)
  have h2 := bitI_bd h ((i : Int) - 2)
  have h3 := bitI_bd h ((i : Int) - 3)
  have h4 := bitI_bd h ((i : Int) - 4)
  have h5 := bitI_bd h ((i : Int) - 5)
  have h6 := bitI_bd h ((i : Int) - 6)
  have hp := preI_bd h i
  rw [wordI_mod V (preI zs i + bitI zs i) (by omega)]
  obtain ⟨p0, p1, p2, p3, p4, p5, p6⟩ := seven _ _ _ _ _ _ _ h0 h1 h2 h3 h4 h5 h6
  unfold preI wordI trip
  rw [p0, p1, p2, p3, p4, p5, p6]
  generalize bitI zs (i : Int) = x0 at *
  generalize bitI zs ((i : Int) - 1) = x1 at *
  generalize bitI zs ((i : Int) - 2) = x2 at *
  generalize bitI zs ((i : Int) - 3) = x3 at *
  generalize bitI zs ((i : Int) - 4) = x4 at *
  generalize bitI zs ((i : Int) - 5) = x5 at *
  generalize bitI zs ((i : Int) - 6) = x6 at *
  clear p0 p1 p2 p3 p4 p5 p6 hp hV
  have q0 := Int.emod_two_eq (x0 + x1 + x2 + x3 + x6)
  have q1 := Int.emod_two_eq (x0 + x2 + x3 + x5 + x6)
  have q2 := Int.emod_two_eq (x0 + x1 + x2 + x4 + x6)
  generalize (x0 + x1 + x2 + x3 + x6) % 2 = y0 at *
  generalize (x0 + x2 + x3 + x5 + x6) % 2 = y1 at *
  generalize (x0 + x1 + x2 + x4 + x6) % 2 = y2 at *
  rcases q0 with rfl | rfl <;> rcases q1 with rfl | rfl <;> rcases q2 with rfl | rfl <;> rfl

theorem win_next {zs : List Int} (h : Bits zs) (i : Nat) (V : Int) (hV : V % 128 = preI zs i + bitI zs i) : 2 * V % 128 = preI zs (i + 1) := by
  rw [preI_next h i, ← hV]
  omega

/-- What is wrong with bits that are to be coded. -/
def encErr (zs : List Int) : Int := if errOf zs = 0 then (if 400 < zs.length then 2 else 0) else errOf zs
def encL (zs : List Int) : List Int := if encErr zs = 0 then codedTo zs (zs.length + 6) else []
theorem codedTo_trip (zs : List Int) (K i : Nat) (hi : i < K) (j : Nat) (hj : j < 3) : (codedTo zs K).getD (3 * i + j) 0 = (trip zs i).getD j 0 := codedTo_at zs K i j hi hj
theorem codedTo_trip0 (zs : List Int) (K i : Nat) (hi : i < K) : (codedTo zs K).getD (3 * i) 0 = (trip zs i).getD 0 0 := codedTo_at zs K i 0 hi (by omega)
end Go.Proofs.YtdndeegpbjlibadGreatDoor
