/- Several texts in one. -/
import Derived.Test.YtmaojjjdepgaeaaMeasOf
/- One after the other: what is measured by the clock, at the closure that Ends hands over. -/
namespace Go.Proofs.Ytmaojjjdepgaeaa
open Go.RowKit

end Go.Proofs.Ytmaojjjdepgaeaa

/- One after the other: what is measured by the clock, at the closure that Lateness hands over. -/
namespace Go.Proofs.Ytmaojjjdepgaeaa
open Go.RowKit

end Go.Proofs.Ytmaojjjdepgaeaa

/- One after the other: what is measured by the clock, at the closure that Weighted hands over. -/
namespace Go.Proofs.Ytmaojjjdepgaeaa
open Go.RowKit

end Go.Proofs.Ytmaojjjdepgaeaa

/- One after the other: what is measured by the clock, at the closure that Tardy hands over. -/
namespace Go.Proofs.Ytmaojjjdepgaeaa
open Go.RowKit

end Go.Proofs.Ytmaojjjdepgaeaa

/- One after the other: what is measured by the clock, at the closure that Waiting hands over. -/
namespace Go.Proofs.Ytmaojjjdepgaeaa
open Go.RowKit

end Go.Proofs.Ytmaojjjdepgaeaa
