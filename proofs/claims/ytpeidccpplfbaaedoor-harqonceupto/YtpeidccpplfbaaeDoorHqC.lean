import Derived.Test.YtpeidccpplfbaaeDoorHqB
import Derived.Test.YtpeidccpplfbaaeDoorHqP
import Derived.BigRegion
namespace Go.Proofs.YtpeidccpplfbaaeDoor
open Go.ChangeShapes Go.WideShapes Go.ChangeAt Go.RowKit

/-! THE PROGRAM'S checkProcess, checkShot. -/

def shotErr (x : ShotM) : Int := if shotOk x = false then 1 else if 1500 < x.data.size then 2 else 0

theorem shot_cases (x : ShotM) : (procErr x.process = 1 ∧ shotErr x = 1) ∨ (procErr x.process = 0 ∧ x.version < 0 ∧ shotErr x = 1) ∨ (procErr x.process = 0 ∧ 0 ≤ x.version ∧ 4 ≤ x.version ∧ shotErr x = 1) ∨ (procErr x.process = 0 ∧ 0 ≤ x.version ∧ x.version < 4 ∧ 1500 < x.data.size ∧ shotErr x = 2) ∨ (procErr x.process = 0 ∧ 0 ≤ x.version ∧ x.version < 4 ∧ x.data.size ≤ 1500 ∧ shotErr x = 0) := by
  unfold shotErr procErr shotOk
  by_cases hp : 0 ≤ x.process ∧ x.process ≤ 7
  · rw [if_pos hp]
    by_cases h0 : x.version < 0
    · rw [decide_eq_false (by omega)]; simp [h0]
    · by_cases h4 : 4 ≤ x.version
      · rw [decide_eq_false (by omega)]; simp; omega
      · rw [decide_eq_true (by omega)]
        by_cases hs : 1500 < x.data.size
        · simp [hs]; omega
        · simp [hs]; omega
  · rw [if_neg hp, decide_eq_false (by omega)]
    simp

set_option maxHeartbeats 400000 in
theorem pcheckShot_any (x : ShotM) (w : World) : Calls Tryd.prog 19 #[x.val] w fun e w' => e = .returned (.int .i64 (shotErr x)) ∧ Below w.heap.size w w' := by
  have hcp := fun wz => pcheckProcess_any x.process wz
  have hb0 : Below w.heap.size w (w.alloc (.cells #[.int .i64 x.process, .int .i64 x.version, .bool x.flag, .string x.data] 38)) := (Below.refl _ w).alloc (Nat.le_refl _) _
  unfold ShotM.val
  rcases shot_cases x with ⟨hp, hE⟩ | ⟨hp, h0, hE⟩ | ⟨hp, h0, h4, hE⟩ | ⟨hp, h0, h4, hs, hE⟩ | ⟨hp, h0, h4, hs, hE⟩
  · have HE := hid hE.symm
    rw [hp] at hcp
    clear hE hp
    go_enter Tryd.func19, Tryd.ntmps19
    go_wp2_with (go_at_call 20; refine (hcp _).mono ?_; rintro e w1 ⟨rfl, rfl⟩)
    go_ret
    exact ⟨by rw [← HE.out]; rfl, hb0⟩
  · have HE := hid hE.symm
    rw [hp] at hcp
    have d0 : decide (x.version < 0) = true := decide_eq_true h0
    clear hE hp h0
    go_enter Tryd.func19, Tryd.ntmps19
    go_wp2_with (go_at_call 20; refine (hcp _).mono ?_; rintro e w1 ⟨rfl, rfl⟩)
    go_ret
    exact ⟨by rw [← HE.out]; rfl, hb0⟩
  · have HE := hid hE.symm
    rw [hp] at hcp
    have d0 : decide (x.version < 0) = false := decide_eq_false (by omega)
    have d4 : decide (4 ≤ x.version) = true := decide_eq_true h4
    clear hE hp h0 h4
    go_enter Tryd.func19, Tryd.ntmps19
    go_wp2_with (go_at_call 20; refine (hcp _).mono ?_; rintro e w1 ⟨rfl, rfl⟩)
    go_ret
    exact ⟨by rw [← HE.out]; rfl, hb0⟩
  · have HE := hid hE.symm
    rw [hp] at hcp
    have d0 : decide (x.version < 0) = false := decide_eq_false (by omega)
    have d4 : decide (4 ≤ x.version) = false := decide_eq_false (by omega)
    have d5 : decide ((1500 : Int) < (x.data.size : Int)) = true := decide_eq_true (by omega)
    clear hE hp h0 h4 hs
    go_enter Tryd.func19, Tryd.ntmps19
    go_wp2_with (go_at_call 20; refine (hcp _).mono ?_; rintro e w1 ⟨rfl, rfl⟩)
    go_ret
    exact ⟨by rw [← HE.out]; rfl, hb0⟩
  · have HE := hid hE.symm
    rw [hp] at hcp
    have d0 : decide (x.version < 0) = false := decide_eq_false (by omega)
    have d4 : decide (4 ≤ x.version) = false := decide_eq_false (by omega)
    have d5 : decide ((1500 : Int) < (x.data.size : Int)) = false := decide_eq_false (by omega)
    clear hE hp h0 h4 hs
    go_enter Tryd.func19, Tryd.ntmps19
    go_wp2_with (go_at_call 20; refine (hcp _).mono ?_; rintro e w1 ⟨rfl, rfl⟩)
    go_ret
    exact ⟨by rw [← HE.out]; rfl, hb0⟩
end Go.Proofs.YtpeidccpplfbaaeDoor
