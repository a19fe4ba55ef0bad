/- Two rows of numbers that are alike, to the laws. -/
import Derived.Test.YtbnocnadlleibaaInts
import Derived.Test.YtbnocnadlleibaaIntRow
namespace Go.Proofs.Ytbnocnadlleibaa
open Go.RowKit

end Go.Proofs.Ytbnocnadlleibaa
