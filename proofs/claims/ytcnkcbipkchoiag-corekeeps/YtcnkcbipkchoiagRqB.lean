import Derived.Test.YtcnkcbipkchoiagRqA
import Derived.BigRegion
import Derived.BigQuiet
import Derived.Deep.Cut
namespace Go.Proofs.Ytcnkcbipkchoiag
open Go.ChangeShapes Go.WideShapes Go.ChangeAt Go.RowKit

/-! THE LAW RepeatOnce: its functions 'come' and 'whole'. -/

theorem drop_take_getD {l : List ByteArray} {a k i : Nat} (hi : i < k) : ((l.drop a).take k).getD i ByteArray.empty = l.getD (a + i) ByteArray.empty := by
  simp only [List.getD_eq_getElem?_getD]
  rw [List.getElem?_take_of_lt hi, List.getElem?_drop]

end Go.Proofs.Ytcnkcbipkchoiag
