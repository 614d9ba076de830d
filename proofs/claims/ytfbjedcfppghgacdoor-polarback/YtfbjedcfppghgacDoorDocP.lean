import Derived.Test.YtfbjedcfppghgacDoorPTurn
import Derived.Test.YtfbjedcfppghgacDoorAdded
import Derived.Test.YtfbjedcfppghgacDoorZeros
import Derived.Test.YtfbjedcfppghgacDoorInts
import Derived.Test.YtfbjedcfppghgacDoorSoft
import Derived.Test.YtfbjedcfppghgacDoorPlacesQ
namespace Go.Proofs.YtfbjedcfppghgacDoor
open Go.ChangeShapes Go.WideShapes Go.ChangeAt Go.RowKit

/-! THE DOCUMENT'S Power, Turn, Worth. -/

theorem addTo_addLN {xs ys : List Int} {n : Nat} (hx : xs.length = n) (hy : ys.length = n) : addTo xs ys n = addL xs ys := by
  refine List.ext_getElem (by simp [addTo, addL, hx, hy]) fun j h1 h2 => ?_
  have hj : j < n := by simpa [addTo] using h1
  simp [addTo, addL, List.getD, hx, hy, hj]


def noPow (n : Int) (j : Nat) : Prop := ∀ i, i < j → n ≠ ((2 ^ i : Nat) : Int)
theorem noPow_all {n : Int} (h : noPow n 10) : powI n = false := by
  cases hp : powI n with
  | false => rfl
  | true =>
    obtain ⟨m, hm, e⟩ := pow_of hp
    exact absurd e (h m (by omega))

set_option maxHeartbeats 400000 in
theorem rpower_any (n : Int) (w : World) :
    Calls Tryd.prog 6 #[.int .i64 n] w fun e w' => e = .returned (.bool (powI n)) ∧ w = w' := by
  go_enter Tryd.func6, Tryd.ntmps6
  go_wp2
  go_loop [3] (fun q => ∃ j p : Nat, j ≤ 10 ∧ Hid (p = 2 ^ j) ∧ p ≤ 1024 ∧ 1 ≤ p ∧ q = .int .i64 p ∧ Hid (noPow n j)) (fun q => 1025 - (intOf q).toNat)
  case atStart => exact ⟨0, 1, by omega, rfl, by omega, by omega, rfl, fun i hi => by omega⟩
  case round =>
    obtain ⟨j, p, hj, HP, hp, hp1, rfl, hno⟩ := hrel
    by_cases h5 : p ≤ 512
    · have hj9 : j ≤ 9 := by
        rcases Nat.lt_or_ge j 10 with h | h
        · omega
        · have : 2 ^ 10 ≤ p := by rw [HP.out]; exact Nat.pow_le_pow_right (by omega) h
          omega
      by_cases he : (p : Int) = n
      · have hb : ((p : Int) == n) = true := by simpa using he
        have HV := hid (show powI n = true by rw [← he, HP.out]; exact of_pow hj9)
        clear he
        go_wp2
        go_ret
        exact ⟨ret_bool HV.out.symm, rfl⟩
      · have hb : ((p : Int) == n) = false := by simpa using he
        have hno' : Hid (noPow n (j + 1)) := fun i hi => by
          by_cases e : i = j
          · subst e; rw [← HP.out]; exact fun h => he h.symm
          · exact hno.out i (by omega)
        have HP' : Hid (2 * p = 2 ^ (j + 1)) := by unfold Hid; rw [Nat.pow_succ, ← HP.out]; omega
        clear he
        go_wp2
        go_round
        case rel => exact ⟨j + 1, 2 * p, by omega, HP', by omega, by omega, by go_num, hno'⟩
        case measure => simp [intOf]; omega
    · have hj10 : j = 10 := by
        rcases Nat.lt_or_ge j 10 with h | h
        · have : p ≤ 2 ^ 9 := by rw [HP.out]; exact Nat.pow_le_pow_right (by omega) (by omega)
          omega
        · omega
      subst hj10
      go_wp2
      go_ret
      exact ⟨ret_bool (noPow_all hno.out).symm, rfl⟩

theorem tab9 (k : Nat) (h : k < 9) : 1000 ≤ wTab.getD k 0 ∧ wTab.getD k 0 ≤ 4000 := by
  have : k = 0 ∨ k = 1 ∨ k = 2 ∨ k = 3 ∨ k = 4 ∨ k = 5 ∨ k = 6 ∨ k = 7 ∨ k = 8 := by omega
  rcases this with rfl | rfl | rfl | rfl | rfl | rfl | rfl | rfl | rfl <;> decide
theorem worthTo_bd (p : Nat) : ∀ k, k ≤ 9 → 0 ≤ worthTo p k ∧ worthTo p k ≤ 4000 * k
  | 0, _ => by simp [worthTo]
  | k + 1, h => by
    have ih := worthTo_bd p k (by omega)
    have t := tab9 k (by omega)
    rw [worthTo]
    split <;> omega
theorem worthI_bd (p : Nat) : 0 ≤ worthI p ∧ worthI p ≤ 36000 := worthTo_bd p 9 (Nat.le_refl _)

end Go.Proofs.YtfbjedcfppghgacDoor
