import Derived.Test.YtpeidccpplfbaaeDoorHqV
namespace Go.Proofs.YtpeidccpplfbaaeDoor
open Go.ChangeShapes Go.WideShapes Go.ChangeAt Go.RowKit

/-! THE PROGRAM'S checkProcess. -/

set_option maxHeartbeats 400000 in
theorem pcheckProcess_any (p : Int) (w : World) : Calls Tryd.prog 20 #[.int .i64 p] w fun e w' => e = .returned (.int .i64 (procErr p)) ∧ w = w' := by
  by_cases h0 : p < 0
  · have HV := hid (show (1 : Int) = procErr p by unfold procErr; rw [if_neg (by omega)])
    have d0 : decide (p < 0) = true := decide_eq_true h0
    clear h0
    go_enter Tryd.func20, Tryd.ntmps20
    go_wp2
    go_ret
    exact ⟨by rw [← HV.out]; rfl, rfl⟩
  · have d0 : decide (p < 0) = false := decide_eq_false h0
    by_cases h7 : 8 ≤ p
    · have HV := hid (show (1 : Int) = procErr p by unfold procErr; rw [if_neg (by omega)])
      have d7 : decide (8 ≤ p) = true := decide_eq_true h7
      clear h0 h7
      go_enter Tryd.func20, Tryd.ntmps20
      go_wp2
      go_ret
      exact ⟨by rw [← HV.out]; rfl, rfl⟩
    · have HV := hid (show (0 : Int) = procErr p by unfold procErr; rw [if_pos (by omega)])
      have d7 : decide (8 ≤ p) = false := decide_eq_false h7
      clear h0 h7
      go_enter Tryd.func20, Tryd.ntmps20
      go_wp2
      go_ret
      exact ⟨by rw [← HV.out]; rfl, rfl⟩

end Go.Proofs.YtpeidccpplfbaaeDoor
