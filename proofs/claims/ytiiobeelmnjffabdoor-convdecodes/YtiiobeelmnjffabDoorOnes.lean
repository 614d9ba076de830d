import Derived.Test.YtiiobeelmnjffabDoorConvD
import Derived.Deep.WholeRow
namespace Go.Proofs.YtiiobeelmnjffabDoor
open Go.ChangeShapes Go.WideShapes Go.ChangeAt Go.RowKit

/-- How many places of a number below 128 are 1. -/
def pop (x : Nat) : Nat := x % 2 + x / 2 % 2 + x / 4 % 2 + x / 8 % 2 + x / 16 % 2 + x / 32 % 2 + x / 64 % 2
def popA (x : Int) : Int := IntKind.u64.wrap (bits .and .u64 (x / 2) 6148914691236517205 + bits .and .u64 x 6148914691236517205)
def popB (x : Int) : Int := IntKind.u64.wrap (bits .and .u64 (x / 4) 3689348814741910323 + bits .and .u64 x 3689348814741910323)
def popC (x : Int) : Int := bits .and .u64 (x / 16 + x) 1085102592571150095
def popD (x : Int) : Int := x + x / 256
def popE (x : Int) : Int := x + x / 65536
def popF (x : Int) : Int := x + x / 4294967296
theorem pop_all : ∀ x : Fin 128, bits .and .i64 (popF (popE (popD (popC (popB (popA (x.val : Int))))))) 127 = (pop x.val : Int) := by decide +kernel

theorem popA_pos : ∀ x : Fin 128, ((popA (x.val : Int)).toNat : Int) = popA (x.val : Int) ∧ (popA (x.val : Int)).toNat < 256 := by decide +kernel
theorem popB_pos : ∀ x : Fin 256, ((popB (x.val : Int)).toNat : Int) = popB (x.val : Int) ∧ (popB (x.val : Int)).toNat < 128 := by decide +kernel
theorem popC_pos : ∀ x : Fin 128, ((popC (x.val : Int)).toNat : Int) = popC (x.val : Int) ∧ (popC (x.val : Int)).toNat < 256 := by decide +kernel
theorem popD_pos : ∀ x : Fin 256, ((popD (x.val : Int)).toNat : Int) = popD (x.val : Int) ∧ (popD (x.val : Int)).toNat < 256 := by decide +kernel
theorem popE_pos : ∀ x : Fin 256, ((popE (x.val : Int)).toNat : Int) = popE (x.val : Int) ∧ (popE (x.val : Int)).toNat < 256 := by decide +kernel
theorem popF_pos : ∀ x : Fin 256, ((popF (x.val : Int)).toNat : Int) = popF (x.val : Int) ∧ (popF (x.val : Int)).toNat < 256 := by decide +kernel

set_option maxHeartbeats 400000 in
theorem ones64 (x : Nat) (hx : x < 128) (w : World) :
    Calls Tryd.prog 28 #[.int .u64 x] w fun e w' => e = .returned (.int .i64 (pop x)) ∧ w = w' := by
  have h := hid (pop_all ⟨x, hx⟩)
  obtain ⟨A, hA, lA⟩ : ∃ A : Nat, popA x = A ∧ A < 256 := ⟨_, (popA_pos ⟨x, hx⟩).1.symm, (popA_pos ⟨x, hx⟩).2⟩
  obtain ⟨B, hB, lB⟩ : ∃ B : Nat, popB A = B ∧ B < 128 := ⟨_, (popB_pos ⟨A, lA⟩).1.symm, (popB_pos ⟨A, lA⟩).2⟩
  obtain ⟨C, hC, lC⟩ : ∃ C : Nat, popC B = C ∧ C < 256 := ⟨_, (popC_pos ⟨B, lB⟩).1.symm, (popC_pos ⟨B, lB⟩).2⟩
  obtain ⟨D, hD, lD⟩ : ∃ D : Nat, popD C = D ∧ D < 256 := ⟨_, (popD_pos ⟨C, lC⟩).1.symm, (popD_pos ⟨C, lC⟩).2⟩
  obtain ⟨E, hE, lE⟩ : ∃ E : Nat, popE D = E ∧ E < 256 := ⟨_, (popE_pos ⟨D, lD⟩).1.symm, (popE_pos ⟨D, lD⟩).2⟩
  obtain ⟨F, hF, lF⟩ : ∃ F : Nat, popF E = F ∧ F < 256 := ⟨_, (popF_pos ⟨E, lE⟩).1.symm, (popF_pos ⟨E, lE⟩).2⟩
  have h2 : Hid (bits .and .i64 (F : Int) 127 = (pop x : Int)) := by
    have := h.out
    rw [hA, hB, hC, hD, hE, hF] at this
    exact this
  unfold popA at hA
  unfold popB at hB
  unfold popC at hC
  unfold popD at hD
  unfold popE at hE
  unfold popF at hF
  clear h
  go_enter Tryd.func28, Tryd.ntmps28
  go_wp2
  go_ret
  exact ⟨ret_int h2.out, rfl⟩

end Go.Proofs.YtiiobeelmnjffabDoor
