import Derived.Test.YtaggbkhpoaacjacDoorSoft
import Derived.Test.YtaggbkhpoaacjacDoorCheck
namespace Go.Proofs.YtaggbkhpoaacjacDoor
open Go.ChangeShapes Go.WideShapes Go.ChangeAt Go.RowKit

def softErr (l : List Int) : Int := if softOk l then 0 else 1

set_option maxHeartbeats 400000 in
theorem csoft_any (l : List Int) (a : Option Addr) (c : Nat) (w : World) (ha : Rd .i64 w a l) (hl : l.length ≤ maxLen) :
    Calls Tryd.prog 29 #[.slice a l.length c] w fun e w' => e = .returned (.int .i64 (softErr l)) ∧ w = w' := by
  unfold maxLen at hl
  go_enter Tryd.func29, Tryd.ntmps29
  go_wp2
  go_loop [7] (fun i => ∃ k : Nat, k ≤ l.length ∧ i = .int .i64 k ∧ Hid (SoftTo l k)) (fun i => l.length - (intOf i).toNat)
  case atStart => exact ⟨0, Nat.zero_le _, rfl, fun j hj => by omega⟩
  case round =>
    obtain ⟨k, hk, rfl, hok⟩ := hrel
    by_cases hlt : k < l.length
    · obtain ⟨b1, o1, rfl, hc1⟩ := ha.at hlt
      have g1 := hc1 k hlt
      clear hc1
      obtain ⟨x, hx⟩ : ∃ x, x = l.getD k 0 := ⟨_, rfl⟩
      rw [← hx] at g1
      have HX := hid hx
      clear hx
      by_cases h1 : x < -100000
      · go_wp2
        go_ret
        exact ⟨ret_int (by unfold softErr; rw [soft_bad (l := l) (k := k) (by rw [← HX.out]; omega)]; rfl), rfl⟩
      · have d1 : decide (x < -100000) = false := decide_eq_false h1
        by_cases h2 : 100000 < x
        · go_wp2
          go_ret
          exact ⟨ret_int (by unfold softErr; rw [soft_bad (l := l) (k := k) (by rw [← HX.out]; omega)]; rfl), rfl⟩
        · have d2 : decide (100000 < x) = false := decide_eq_false h2
          have hstep : Hid (SoftTo l (k + 1)) := fun j hj => by
            by_cases e : j = k
            · subst e; rw [← HX.out]; omega
            · exact hok.out j (by omega)
          go_wp2
          go_round
          case rel => exact ⟨k + 1, by omega, by go_num, hstep⟩
          case measure => simp [intOf]; omega
    · obtain rfl : k = l.length := by omega
      go_wp2
      go_ret
      exact ⟨ret_int (by unfold softErr; rw [soft_all hok.out]; rfl), rfl⟩
end Go.Proofs.YtaggbkhpoaacjacDoor
