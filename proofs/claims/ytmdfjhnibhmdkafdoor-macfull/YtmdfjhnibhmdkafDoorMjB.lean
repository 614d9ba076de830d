import Derived.Test.YtmdfjhnibhmdkafDoorMjA
import Derived.Deep.Cut
namespace Go.Proofs.YtmdfjhnibhmdkafDoor
open Go.ChangeShapes Go.WideShapes Go.ChangeAt Go.RowKit

/-! THE DOCUMENT'S Join. -/

theorem all_false {l : List ItemM} {k : Nat} (hk : k < l.length) (h : (l.getD k .zero).ok = false) : l.all ItemM.ok = false := by
  rw [List.all_eq_false]
  refine ⟨l[k], List.getElem_mem hk, ?_⟩
  have e : l.getD k .zero = l[k] := by simp [List.getD, hk]
  rw [← e, h]
  decide
theorem all_true {l : List ItemM} (h : ∀ j, j < l.length → (l.getD j .zero).ok = true) : l.all ItemM.ok = true := by
  rw [List.all_eq_true]
  intro x hx
  obtain ⟨i, hi, rfl⟩ := List.getElem_of_mem hx
  have := h i hi
  simpa [List.getD, hi] using this

def sliceLen : Value → Nat
  | .slice _ m _ => m
  | _ => 0

end Go.Proofs.YtmdfjhnibhmdkafDoor
