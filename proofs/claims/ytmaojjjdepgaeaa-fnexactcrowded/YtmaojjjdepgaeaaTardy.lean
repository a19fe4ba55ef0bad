/- One after the other: what is measured by the clock, at the closure that Tardy hands over. -/
import Derived.Test.YtmaojjjdepgaeaaMeasOf
namespace Go.Proofs.Ytmaojjjdepgaeaa
open Go.RowKit

end Go.Proofs.Ytmaojjjdepgaeaa
