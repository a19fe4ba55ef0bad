/- A slice of int64s that came in, opened; the law's copy of one. -/
import Derived.Test.YtmaojjjdepgaeaaInts
import Derived.Test.YtmaojjjdepgaeaaIntsOpen
namespace Go.Proofs.Ytmaojjjdepgaeaa
open Go.ChangeShapes Go.WideShapes Go.ChangeAt Go.RowKit Go.Joins Go.Deep

end Go.Proofs.Ytmaojjjdepgaeaa
