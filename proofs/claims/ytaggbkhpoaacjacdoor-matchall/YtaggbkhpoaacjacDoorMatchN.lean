import Derived.Test.YtaggbkhpoaacjacDoorMatchL
namespace Go.Proofs.YtaggbkhpoaacjacDoor
open Go.ChangeShapes Go.WideShapes Go.ChangeAt Go.RowKit

/-! THE PROGRAM'S SMALL CHECKS. -/

def sizeOk (n : Int) : Bool := decide (1 ≤ n ∧ n ≤ 4096)
def sizeErr (n : Int) : Int := if sizeOk n then 0 else 1
def verErr (v : Int) : Int := if verOk v then 0 else 1

set_option maxHeartbeats 400000 in
theorem checkSize_any (n : Int) (w : World) : Calls Tryd.prog 32 #[.int .i64 n] w fun e w' => e = .returned (.int .i64 (sizeErr n)) ∧ w = w' := by
  by_cases h0 : n < 1
  · have d0 : decide (n < 1) = true := decide_eq_true h0
    have HV := hid (show (1 : Int) = sizeErr n by unfold sizeErr; rw [show sizeOk n = false from decide_eq_false (by omega)]; rfl)
    clear h0
    go_enter Tryd.func32, Tryd.ntmps32
    go_wp2
    go_ret
    exact ⟨ret_int HV.out, rfl⟩
  · have d0 : decide (n < 1) = false := decide_eq_false h0
    by_cases h1 : 4096 < n
    · have d1 : decide (4096 < n) = true := decide_eq_true h1
      have HV := hid (show (1 : Int) = sizeErr n by unfold sizeErr; rw [show sizeOk n = false from decide_eq_false (by omega)]; rfl)
      clear h0 h1
      go_enter Tryd.func32, Tryd.ntmps32
      go_wp2
      go_ret
      exact ⟨ret_int HV.out, rfl⟩
    · have d1 : decide (4096 < n) = false := decide_eq_false h1
      have HV := hid (show (0 : Int) = sizeErr n by unfold sizeErr; rw [show sizeOk n = true from decide_eq_true (by omega)]; rfl)
      clear h0 h1
      go_enter Tryd.func32, Tryd.ntmps32
      go_wp2
      go_ret
      exact ⟨ret_int HV.out, rfl⟩

set_option maxHeartbeats 400000 in
theorem checkVersion_any (v : Int) (w : World) : Calls Tryd.prog 33 #[.int .i64 v] w fun e w' => e = .returned (.int .i64 (verErr v)) ∧ w = w' := by
  by_cases h0 : v < 0
  · have d0 : decide (v < 0) = true := decide_eq_true h0
    have HV := hid (show (1 : Int) = verErr v by unfold verErr; rw [show verOk v = false from decide_eq_false (by omega)]; rfl)
    clear h0
    go_enter Tryd.func33, Tryd.ntmps33
    go_wp2
    go_ret
    exact ⟨ret_int HV.out, rfl⟩
  · have d0 : decide (v < 0) = false := decide_eq_false h0
    by_cases h1 : 4 ≤ v
    · have d1 : decide (4 ≤ v) = true := decide_eq_true h1
      have HV := hid (show (1 : Int) = verErr v by unfold verErr; rw [show verOk v = false from decide_eq_false (by omega)]; rfl)
      clear h0 h1
      go_enter Tryd.func33, Tryd.ntmps33
      go_wp2
      go_ret
      exact ⟨ret_int HV.out, rfl⟩
    · have d1 : decide (4 ≤ v) = false := decide_eq_false h1
      have HV := hid (show (0 : Int) = verErr v by unfold verErr; rw [show verOk v = true from decide_eq_true (by omega)]; rfl)
      clear h0 h1
      go_enter Tryd.func33, Tryd.ntmps33
      go_wp2
      go_ret
      exact ⟨ret_int HV.out, rfl⟩

set_option maxHeartbeats 400000 in
theorem beginOf_any (n v : Nat) (w : World) (hn : n ≤ 4096) (hv : v ≤ 3) : Calls Tryd.prog 34 #[.int .i64 n, .int .i64 v] w fun e w' => e = .returned (.int .i64 ((v * n / 4 : Nat) : Int)) ∧ w = w' := by
  have hmul : (v : Int) * (n : Int) = ((v * n : Nat) : Int) := by simp
  have hnv : v * n ≤ 12288 := by
    have := Nat.mul_le_mul hv hn
    omega
  obtain ⟨p, ep⟩ : ∃ p, p = v * n := ⟨_, rfl⟩
  rw [← ep] at hmul hnv
  rw [← ep]
  have hquo : (p : Int).tdiv 4 = ((p / 4 : Nat) : Int) := by rw [Int.tdiv_eq_ediv_of_nonneg (by omega)]; simp
  have hwm : IntKind.i64.wrap ((v : Int) * (n : Int)) = (p : Int) := by rw [hmul, IntKind.wrap_i64]; omega
  clear ep hmul
  go_enter Tryd.func34, Tryd.ntmps34
  go_wp2
  go_ret
  exact ⟨rfl, rfl⟩
end Go.Proofs.YtaggbkhpoaacjacDoor
