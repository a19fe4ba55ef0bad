/- slices.Max of int64s. -/
import Derived.Test.YtmaojjjdepgaeaaInts
import Derived.Test.YtmaojjjdepgaeaaMeasOf
namespace Go.Proofs.Ytmaojjjdepgaeaa
open Go.RowKit

end Go.Proofs.Ytmaojjjdepgaeaa
