/- A slice of int64s that came in, opened; the law's copy of one. -/
import Derived.Test.YtcmpenlgkccgkaaInts
import Derived.Test.YtcmpenlgkccgkaaIntsOpen
namespace Go.Proofs.Ytcmpenlgkccgkaa
open Go.ChangeShapes Go.WideShapes Go.ChangeAt Go.RowKit Go.Joins Go.Deep

end Go.Proofs.Ytcmpenlgkccgkaa
