import Derived.Test.YtfbjedcfppghgacDoorConvM
import Derived.Test.YtfbjedcfppghgacDoorPush
namespace Go.Proofs.YtfbjedcfppghgacDoor
open Go.ChangeShapes Go.WideShapes Go.ChangeAt Go.RowKit

/-- Soft numbers: each within the bound. -/
def softOk (l : List Int) : Bool := l.all fun x => decide (-100000 ≤ x ∧ x ≤ 100000)
def SoftTo (l : List Int) (k : Nat) : Prop := ∀ j, j < k → -100000 ≤ l.getD j 0 ∧ l.getD j 0 ≤ 100000

theorem soft_all {l : List Int} (h : SoftTo l l.length) : softOk l = true := by
  unfold softOk
  rw [List.all_eq_true]
  intro x hx
  obtain ⟨k, hk, rfl⟩ := List.getElem_of_mem hx
  have := h k hk
  have e : l.getD k 0 = l[k] := by simp [List.getD, hk]
  rw [e] at this
  simpa using this
theorem soft_at {l : List Int} (h : softOk l = true) (k : Nat) : -100000 ≤ l.getD k 0 ∧ l.getD k 0 ≤ 100000 := by
  unfold softOk at h
  rw [List.all_eq_true] at h
  by_cases hk : k < l.length
  · have := h _ (List.getElem_mem hk)
    have e : l.getD k 0 = l[k] := by simp [List.getD, hk]
    rw [e]
    simpa using this
  · have : l.getD k 0 = 0 := by simp [List.getD, Nat.le_of_not_lt hk]
    rw [this]; omega
theorem soft_bad {l : List Int} {k : Nat} (h : l.getD k 0 < -100000 ∨ 100000 < l.getD k 0) : softOk l = false := by
  cases hs : softOk l with
  | false => rfl
  | true => have := soft_at hs k; omega
theorem ret_bool {a b : Bool} (h : a = b) : Ending.returned (.bool a) = .returned (.bool b) := by rw [h]

/-- What coded bits score. -/
def scoreTo (cs l : List Int) : Nat → Int
  | 0 => 0
  | k + 1 => scoreTo cs l k + sgn (cs.getD k 0) (l.getD k 0)

theorem scoreTo_bd (cs l : List Int) (h : ∀ k, -100000 ≤ l.getD k 0 ∧ l.getD k 0 ≤ 100000) : ∀ k : Nat, -(100000 * (k : Int)) ≤ scoreTo cs l k ∧ scoreTo cs l k ≤ 100000 * (k : Int)
  | 0 => by simp [scoreTo]
  | k + 1 => by
    have := scoreTo_bd cs l h k
    have := h k
    unfold scoreTo sgn
    split <;> omega

end Go.Proofs.YtfbjedcfppghgacDoor
