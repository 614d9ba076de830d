import Derived.Test.YtaggbkhpoaacjacDoorConvM
import Derived.Test.YtaggbkhpoaacjacDoorPush
namespace Go.Proofs.YtaggbkhpoaacjacDoor
open Go.ChangeShapes Go.WideShapes Go.ChangeAt Go.RowKit

/-- Soft numbers: each within the bound. -/
def softOk (l : List Int) : Bool := l.all fun x => decide (-100000 ≤ x ∧ x ≤ 100000)
def SoftTo (l : List Int) (k : Nat) : Prop := ∀ j, j < k → -100000 ≤ l.getD j 0 ∧ l.getD j 0 ≤ 100000

theorem soft_all {l : List Int} (h : SoftTo l l.length) : softOk l = true := by
  unfold softOk
  rw [List.all_eq_true]
  intro x hx
  obtain ⟨k, hk, rfl⟩ := List.getElem_of_mem hx
  have := h k hk
  have e : l.getD k 0 = l[k] := by simp [List.getD, hk]
  rw [e] at this
  simpa using this
theorem soft_at {l : List Int} (h : softOk l = true) (k : Nat) : -100000 ≤ l.getD k 0 ∧ l.getD k 0 ≤ 100000 := by
  unfold softOk at h
  rw [List.all_eq_true] at h
  by_cases hk : k < l.length
  · have := h _ (List.getElem_mem hk)
    have e : l.getD k 0 = l[k] := by simp [List.getD, hk]
    rw [e]
    simpa using this
  · have : l.getD k 0 = 0 := by simp [List.getD, Nat.le_of_not_lt hk]
    rw [this]; omega
theorem soft_bad {l : List Int} {k : Nat} (h : l.getD k 0 < -100000 ∨ 100000 < l.getD k 0) : softOk l = false := by
  cases hs : softOk l with
  | false => rfl
  | true => have := soft_at hs k; omega
theorem ret_bool {a b : Bool} (h : a = b) : Ending.returned (.bool a) = .returned (.bool b) := by rw [h]

set_option maxHeartbeats 400000 in
theorem rsoft_any (l : List Int) (a : Option Addr) (c : Nat) (w : World) (ha : Rd .i64 w a l) (hl : l.length ≤ maxLen) :
    Calls Tryd.prog 22 #[.slice a l.length c] w fun e w' => e = .returned (.bool (softOk l)) ∧ w = w' := by
  unfold maxLen at hl
  go_enter Tryd.func22, Tryd.ntmps22
  go_wp2
  go_loop [3] (fun i => ∃ k : Nat, k ≤ l.length ∧ i = .int .i64 k ∧ Hid (SoftTo l k)) (fun i => l.length - (intOf i).toNat)
  case atStart => exact ⟨0, Nat.zero_le _, rfl, fun j hj => by omega⟩
  case round =>
    obtain ⟨k, hk, rfl, hok⟩ := hrel
    by_cases hlt : k < l.length
    · obtain ⟨b1, o1, rfl, hc1⟩ := ha.at hlt
      have g1 := hc1 k hlt
      clear hc1
      obtain ⟨x, hx⟩ : ∃ x, x = l.getD k 0 := ⟨_, rfl⟩
      rw [← hx] at g1
      have HX := hid hx
      clear hx
      by_cases h1 : 100000 < x
      · go_wp2
        go_ret
        exact ⟨ret_bool (soft_bad (k := k) (by rw [← HX.out]; omega)).symm, rfl⟩
      · have d1 : decide (100000 < x) = false := decide_eq_false h1
        by_cases h2 : x < -100000
        · go_wp2
          go_ret
          exact ⟨ret_bool (soft_bad (k := k) (by rw [← HX.out]; omega)).symm, rfl⟩
        · have d2 : decide (x < -100000) = false := decide_eq_false h2
          have hstep : Hid (SoftTo l (k + 1)) := fun j hj => by
            by_cases e : j = k
            · subst e; rw [← HX.out]; omega
            · exact hok.out j (by omega)
          go_wp2
          go_round
          case rel => exact ⟨k + 1, by omega, by go_num, hstep⟩
          case measure => simp [intOf]; omega
    · obtain rfl : k = l.length := by omega
      go_wp2
      go_ret
      exact ⟨ret_bool (soft_all hok.out).symm, rfl⟩

/-- What coded bits score. -/
def scoreTo (cs l : List Int) : Nat → Int
  | 0 => 0
  | k + 1 => scoreTo cs l k + sgn (cs.getD k 0) (l.getD k 0)

theorem scoreTo_bd (cs l : List Int) (h : ∀ k, -100000 ≤ l.getD k 0 ∧ l.getD k 0 ≤ 100000) : ∀ k : Nat, -(100000 * (k : Int)) ≤ scoreTo cs l k ∧ scoreTo cs l k ≤ 100000 * (k : Int)
  | 0 => by simp [scoreTo]
  | k + 1 => by
    have := scoreTo_bd cs l h k
    have := h k
    unfold scoreTo sgn
    split <;> omega

end Go.Proofs.YtaggbkhpoaacjacDoor
