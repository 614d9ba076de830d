import Derived.Test.YtmdfjhnibhmdkafDoorMjD
import Derived.Deep.RegionLaw
namespace Go.Proofs.YtmdfjhnibhmdkafDoor
open Go.ChangeShapes Go.WideShapes Go.ChangeAt Go.RowKit

/-! THE DOCUMENT'S Split. -/

theorem textNe {a b : ByteArray} (h : a ≠ b) : (a.toList == b.toList) = false := by
  rw [ByteArray.toList_eq, ByteArray.toList_eq]
  cases hq : (a.data.toList == b.data.toList) with
  | false => rfl
  | true => exact absurd (WideShapes.bytes_inj (by simpa using hq)) h
theorem parse_stop {s : ByteArray} {f p : Nat} (hf : 0 < f) (h : ¬ (p < s.size ∧ byteN s p ≠ 63)) : parseM s f p = some [] := by
  obtain ⟨g, rfl⟩ : ∃ g, f = g + 1 := ⟨f - 1, by omega⟩
  unfold parseM
  rw [if_neg h]
theorem parse_short {s : ByteArray} {f p : Nat} (hf : 0 < f) (h : p < s.size ∧ byteN s p ≠ 63) (h2 : s.size < p + 3 ∨ s.size < p + 3 + partN s p) : parseM s f p = none := by
  obtain ⟨g, rfl⟩ : ∃ g, f = g + 1 := ⟨f - 1, by omega⟩
  unfold parseM
  rw [if_pos h]
  by_cases h3 : s.size < p + 3
  · rw [if_pos h3]
  · rw [if_neg h3, if_pos (by omega)]
theorem parse_step {s : ByteArray} {f p : Nat} (h : p < s.size ∧ byteN s p ≠ 63) (h2 : p + 3 + partN s p ≤ s.size) : parseM s (f + 1) p = (parseM s f (p + 3 + partN s p)).map (partI s p :: ·) := by
  show (if p < s.size ∧ byteN s p ≠ 63 then _ else _) = _
  rw [if_pos h, if_neg (by omega), if_neg (by omega)]

end Go.Proofs.YtmdfjhnibhmdkafDoor
