import Derived.Test.YtbmdjfolfmgmmagRqC
namespace Go.Proofs.Ytbmdjfolfmgmmag
open Go.ChangeShapes Go.WideShapes Go.ChangeAt Go.RowKit

/-! THE LAW RepeatOnce: rounds without loss. -/

end Go.Proofs.Ytbmdjfolfmgmmag
