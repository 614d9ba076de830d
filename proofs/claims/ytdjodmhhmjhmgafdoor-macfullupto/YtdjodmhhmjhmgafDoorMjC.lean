import Derived.Test.YtdjodmhhmjhmgafDoorMjB
import Derived.BigRegion
namespace Go.Proofs.YtdjodmhhmjhmgafDoor
open Go.ChangeShapes Go.WideShapes Go.ChangeAt Go.RowKit

/-! Join of anything; two lists of items that are one. -/

end Go.Proofs.YtdjodmhhmjhmgafDoor
