/- slices.Max of int64s. -/
import Derived.Test.YtbnocnadlleibaaInts
import Derived.Test.YtbnocnadlleibaaMeasOf
namespace Go.Proofs.Ytbnocnadlleibaa
open Go.RowKit

end Go.Proofs.Ytbnocnadlleibaa
