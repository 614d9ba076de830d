import Derived.Test.YtbmdjfolfmgmmagRqB
namespace Go.Proofs.Ytbmdjfolfmgmmag
open Go.ChangeShapes Go.WideShapes Go.ChangeAt Go.RowKit

/-! THE LAW RepeatOnce: what stands in memory all the while. -/

end Go.Proofs.Ytbmdjfolfmgmmag
