import Derived.Test.YtmdfjhnibhmdkafDoorMjB
import Derived.BigRegion
namespace Go.Proofs.YtmdfjhnibhmdkafDoor
open Go.ChangeShapes Go.WideShapes Go.ChangeAt Go.RowKit

/-! Join of anything; two lists of items that are one. -/

end Go.Proofs.YtmdfjhnibhmdkafDoor
