/- A slice of int64s that came in, opened; the law's copy of one. -/
import Derived.Test.YtbnocnadlleibaaInts
import Derived.Test.YtbnocnadlleibaaL6S
import Derived.Test.YtbnocnadlleibaaIntsOpen
namespace Go.Proofs.Ytbnocnadlleibaa
open Go.ChangeShapes Go.WideShapes Go.ChangeAt Go.RowKit Go.Joins Go.Deep

end Go.Proofs.Ytbnocnadlleibaa
