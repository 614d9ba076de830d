import Derived.Test.YtfbjedcfppghgacDoorPush
namespace Go.Proofs.YtfbjedcfppghgacDoor
open Go.ChangeShapes Go.WideShapes Go.ChangeAt Go.RowKit

/-- Two lists of bits, added place by place (as bytes are). -/
def addTo (xs ys : List Int) (k : Nat) : List Int := (List.range k).map fun i => (xs.getD i 0 + ys.getD i 0) % 2
theorem addTo_length (xs ys : List Int) (k : Nat) : (addTo xs ys k).length = k := by simp [addTo]
theorem addTo_succ (xs ys : List Int) (k : Nat) : addTo xs ys (k + 1) = addTo xs ys k ++ [(xs.getD k 0 + ys.getD k 0) % 2] := by simp [addTo, List.range_succ]

end Go.Proofs.YtfbjedcfppghgacDoor
