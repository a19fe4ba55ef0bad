/- A slice of int64s that came in, opened; the law's copy of one. -/
import Derived.Test.YtplcpiglciplkaaInts
import Derived.Test.YtplcpiglciplkaaIntsOpen
namespace Go.Proofs.Ytplcpiglciplkaa
open Go.ChangeShapes Go.WideShapes Go.ChangeAt Go.RowKit Go.Joins Go.Deep

end Go.Proofs.Ytplcpiglciplkaa
