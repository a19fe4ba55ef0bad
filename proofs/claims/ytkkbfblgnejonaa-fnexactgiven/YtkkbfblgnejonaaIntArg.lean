/- A slice of int64s that came in, opened; the law's copy of one. -/
import Derived.Test.YtkkbfblgnejonaaInts
import Derived.Test.YtkkbfblgnejonaaIntsOpen
namespace Go.Proofs.Ytkkbfblgnejonaa
open Go.ChangeShapes Go.WideShapes Go.ChangeAt Go.RowKit Go.Joins Go.Deep

end Go.Proofs.Ytkkbfblgnejonaa
