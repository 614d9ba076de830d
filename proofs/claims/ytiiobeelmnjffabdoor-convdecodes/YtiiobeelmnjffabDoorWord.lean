import Derived.Test.YtiiobeelmnjffabDoorArr
namespace Go.Proofs.YtiiobeelmnjffabDoor
open Go.ChangeShapes Go.WideShapes Go.ChangeAt Go.RowKit

theorem ones (x : Nat) (hx : x < 128) (w : World) :
    Calls Tryd.prog 24 #[.int .u64 x] w fun e w' => e = .returned (.int .i64 (pop x)) ∧ w = w' := by
  go_enter Tryd.func24, Tryd.ntmps24
  go_wp2_with (go_at_call 28; refine (ones64 x hx _).mono ?_; rintro e w' ⟨rfl, rfl⟩)
  go_ret
  exact ⟨rfl, rfl⟩

theorem tap_all : ∀ r : Fin 128, ((2 * (2 * (2 * 0 + pop (r.val &&& 79) % 2) + pop (r.val &&& 109) % 2) + pop (r.val &&& 87) % 2 : Nat) : Int) = wordI (r.val : Int) := by decide +kernel

theorem and_low (V t : Nat) (ht : 127 &&& t = t) : V &&& t = (V % 128) &&& t := by
  have e : V % 128 = V &&& 127 := (nat_mask7 V).symm
  rw [e, Nat.and_assoc, ht]

def tapV (k : Nat) : Nat := if k = 0 then 79 else if k = 1 then 109 else 87
/-- What word has made of the window behind k taps. -/
def accW (V : Nat) : Nat → Nat
  | 0 => 0
  | k + 1 => 2 * accW V k + pop (V &&& tapV k) % 2
theorem accW_bd (V : Nat) : ∀ k, accW V k < 2 ^ k
  | 0 => by simp [accW]
  | k + 1 => by
    have := accW_bd V k
    rw [accW, Nat.pow_succ]
    omega
theorem accW_word (V : Nat) : ((accW V 3 : Nat) : Int) = wordI (V : Int) := by
  have h := tap_all ⟨V % 128, Nat.mod_lt _ (by omega)⟩
  have e0 : accW V 3 = 2 * (2 * (2 * 0 + pop (V &&& 79) % 2) + pop (V &&& 109) % 2) + pop (V &&& 87) % 2 := rfl
  rw [e0, and_low V 79 (by decide), and_low V 109 (by decide), and_low V 87 (by decide), wordI_mod (V : Int) ((V % 128 : Nat) : Int) (by omega)]
  exact h

/-- The table of taps lies where it was laid. -/
def Taps (w : World) : Prop := ∃ T fr, w.heap[0]? = some (.cells #[.int .u64 79, .int .u64 109, .int .u64 87] T fr)

theorem Taps.cells {w : World} (h : Taps w) : w.cell? ⟨0, 0, none⟩ = some (.int .u64 79) ∧ w.cell? ⟨0, 1, none⟩ = some (.int .u64 109) ∧ w.cell? ⟨0, 2, none⟩ = some (.int .u64 87) := by
  obtain ⟨T, fr, h⟩ := h
  exact ⟨by rw [cell_of_row w 0 0 _ T fr h]; rfl, by rw [cell_of_row w 0 1 _ T fr h]; rfl, by rw [cell_of_row w 0 2 _ T fr h]; rfl⟩

theorem orw_all : ∀ a : Fin 4, ∀ b : Fin 2, bits .or .u64 ((a.val : Int) * 2) (b.val : Int) = ((2 * a.val + b.val : Nat) : Int) := by decide +kernel
theorem and1_all : ∀ p : Fin 128, bits .and .i64 ((pop p.val : Nat) : Int) 1 = ((pop p.val % 2 : Nat) : Int) := by decide +kernel
theorem step_word (V k : Nat) (hk : k < 3) : bits .and .i64 ((pop (V &&& tapV k) : Nat) : Int) 1 = ((pop (V &&& tapV k) % 2 : Nat) : Int) ∧
    bits .or .u64 ((accW V k : Int) * 2) (((pop (V &&& tapV k) : Nat) : Int) % 2) = ((accW V (k + 1) : Nat) : Int) ∧ accW V k < 4 := by
  have hb := accW_bd V k
  have h4 : accW V k < 4 := by
    have : 2 ^ k ≤ 2 ^ 2 := Nat.pow_le_pow_right (by omega) (by omega)
    omega
  have hl : V &&& tapV k < 128 := Nat.lt_of_le_of_lt Nat.and_le_right (by unfold tapV; split <;> (try split) <;> omega)
  exact ⟨and1_all ⟨_, hl⟩, orw_all ⟨_, h4⟩ ⟨_, Nat.mod_lt _ (by omega)⟩, h4⟩

set_option maxHeartbeats 1000000 in
theorem word_any (V : Nat) (hV : V < 18446744073709551616) (w : World) (hT : Taps w) :
    Calls Tryd.prog 20 #[.int .u64 V] w fun e w' => e = .returned (.int .u64 (wordI V)) ∧ w = w' := by
  obtain ⟨c0, c1, c2⟩ := hT.cells
  have HW := hid (accW_word V)
  go_enter Tryd.func20, Tryd.ntmps20
  go_wp2
  go_loop [3, 7] (fun a q => ∃ k : Nat, k ≤ 3 ∧ q = .int .i64 k ∧ a = .int .u64 (accW V k)) (fun _ q => 3 - (intOf q).toNat)
  case atStart => exact ⟨0, by omega, rfl, rfl⟩
  case round =>
    obtain ⟨k, hk, rfl, rfl⟩ := hrel
    rcases (show k = 0 ∨ k = 1 ∨ k = 2 ∨ k = 3 by omega) with rfl | rfl | rfl | rfl
    · have f1 : bits .and .u64 (V : Int) 79 = ((V &&& 79 : Nat) : Int) := u64_and_nat V 79 hV (by omega)
      have l1 : V &&& 79 < 128 := Nat.lt_of_le_of_lt Nat.and_le_right (by omega)
      have f2 := step_word V 0 (by omega)
      rw [show tapV 0 = 79 from rfl] at f2
      obtain ⟨f2, f3, l3⟩ := f2
      have F3 := hid f3
      clear f3
      generalize V &&& 79 = X at *
      generalize accW V 0 = a0 at *
      go_wp2_with (first | (go_at_call 24; refine (ones X l1 _).mono ?_; rintro e w' ⟨rfl, rfl⟩) | (refine wpList_index rfl 55 (.tmp 6) (.tmp 7) rfl 43 #[.int .u64 79, .int .u64 109, .int .u64 87] 3 0 (.int .u64 79) _ .i64 rfl rfl Tryd.underlying55 Tryd.underlying43 rfl (by kernel_rfl) (by omega) rfl ?_))
      go_round
      case rel => exact ⟨0 + 1, by omega, by go_num, congrArg (Value.int .u64) F3.out⟩
      case measure => simp [intOf]
    · have f1 : bits .and .u64 (V : Int) 109 = ((V &&& 109 : Nat) : Int) := u64_and_nat V 109 hV (by omega)
      have l1 : V &&& 109 < 128 := Nat.lt_of_le_of_lt Nat.and_le_right (by omega)
      have f2 := step_word V 1 (by omega)
      rw [show tapV 1 = 109 from rfl] at f2
      obtain ⟨f2, f3, l3⟩ := f2
      have F3 := hid f3
      clear f3
      generalize V &&& 109 = X at *
      generalize accW V 1 = a0 at *
      go_wp2_with (first | (go_at_call 24; refine (ones X l1 _).mono ?_; rintro e w' ⟨rfl, rfl⟩) | (refine wpList_index rfl 55 (.tmp 6) (.tmp 7) rfl 43 #[.int .u64 79, .int .u64 109, .int .u64 87] 3 1 (.int .u64 109) _ .i64 rfl rfl Tryd.underlying55 Tryd.underlying43 rfl (by kernel_rfl) (by omega) rfl ?_))
      go_round
      case rel => exact ⟨1 + 1, by omega, by go_num, congrArg (Value.int .u64) F3.out⟩
      case measure => simp [intOf]
    · have f1 : bits .and .u64 (V : Int) 87 = ((V &&& 87 : Nat) : Int) := u64_and_nat V 87 hV (by omega)
      have l1 : V &&& 87 < 128 := Nat.lt_of_le_of_lt Nat.and_le_right (by omega)
      have f2 := step_word V 2 (by omega)
      rw [show tapV 2 = 87 from rfl] at f2
      obtain ⟨f2, f3, l3⟩ := f2
      have F3 := hid f3
      clear f3
      generalize V &&& 87 = X at *
      generalize accW V 2 = a0 at *
      go_wp2_with (first | (go_at_call 24; refine (ones X l1 _).mono ?_; rintro e w' ⟨rfl, rfl⟩) | (refine wpList_index rfl 55 (.tmp 6) (.tmp 7) rfl 43 #[.int .u64 79, .int .u64 109, .int .u64 87] 3 2 (.int .u64 87) _ .i64 rfl rfl Tryd.underlying55 Tryd.underlying43 rfl (by kernel_rfl) (by omega) rfl ?_))
      go_round
      case rel => exact ⟨2 + 1, by omega, by go_num, congrArg (Value.int .u64) F3.out⟩
      case measure => simp [intOf]
    · go_wp2
      go_ret
      exact ⟨ret_int HW.out, rfl⟩
end Go.Proofs.YtiiobeelmnjffabDoor
