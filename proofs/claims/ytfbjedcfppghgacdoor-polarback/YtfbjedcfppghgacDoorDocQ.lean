import Derived.Test.YtfbjedcfppghgacDoorDocP
namespace Go.Proofs.YtfbjedcfppghgacDoor
open Go.ChangeShapes Go.WideShapes Go.ChangeAt Go.RowKit

/-! THE DOCUMENT'S Places, Halved. -/

def placesTo (n k i : Nat) : List Int := ints ((List.range i).filter (isPlace n k))
theorem placesTo_yes {n k i : Nat} (h : isPlace n k i = true) : placesTo n k (i + 1) = placesTo n k i ++ [(i : Int)] := by
  unfold placesTo ints
  rw [List.range_succ, List.filter_append, List.map_append]
  simp [h]
theorem placesTo_no {n k i : Nat} (h : isPlace n k i = false) : placesTo n k (i + 1) = placesTo n k i := by
  unfold placesTo ints
  rw [List.range_succ, List.filter_append, List.map_append]
  simp [h]
theorem placesTo_le (n k i : Nat) : (placesTo n k i).length ≤ i := by
  unfold placesTo
  rw [ints_length]
  have := List.length_filter_le (isPlace n k) (List.range i)
  simpa using this

theorem betterTo_le (i m : Nat) : betterTo i m ≤ m := by
  unfold betterTo
  have := List.length_filter_le (fun j => btr j i) (List.range m)
  simpa using this
theorem bthenB {B : Nat} {w w1 w2 : World} (h1 : Below B w w1) (h2 : Below w1.heap.size w1 w2) (hB : B ≤ w1.heap.size) : Below B w w2 := h1.trans (h2.mono hB)

/-- A list of numbers of one's own, as a slice. -/
theorem OwnI.slice {w : World} {B : Nat} {v : Value} {L : List Int} {k : Nat} (h : OwnI w B v L) (hk : L.length = k) : ∃ a c, v = .slice a k c ∧ k ≤ c ∧ c ≤ maxLen ∧ Rd .i64 w a L ∧ (∀ g o, a = some ⟨g, o, none⟩ → B ≤ g) := by
  obtain ⟨a, c, rfl, h1, h2⟩ := h.shape
  subst hk
  refine ⟨a, c, rfl, h1, h2, h.rd, ?_⟩
  rintro g o rfl
  exact ownI_blocks h g rfl
theorem places_at {n k i : Nat} (hk : k ≤ n) (hi : i < k) : (placesM n k).getD i 0 < n := by
  have hl := places_length hk
  have e : (placesM n k).getD i 0 = (placesM n k)[i] := by simp [List.getD, hl, hi]
  rw [e]
  exact places_lt (List.getElem_mem _)

end Go.Proofs.YtfbjedcfppghgacDoor
