/- Several texts in one. -/
import Derived.Test.YtbnocnadlleibaaMeasOf
/- One after the other: what is measured by the clock, at the closure that Ends hands over. -/
namespace Go.Proofs.Ytbnocnadlleibaa
open Go.RowKit

end Go.Proofs.Ytbnocnadlleibaa

/- One after the other: what is measured by the clock, at the closure that Lateness hands over. -/
namespace Go.Proofs.Ytbnocnadlleibaa
open Go.RowKit

end Go.Proofs.Ytbnocnadlleibaa

/- One after the other: what is measured by the clock, at the closure that Weighted hands over. -/
namespace Go.Proofs.Ytbnocnadlleibaa
open Go.RowKit

end Go.Proofs.Ytbnocnadlleibaa

/- One after the other: what is measured by the clock, at the closure that Tardy hands over. -/
namespace Go.Proofs.Ytbnocnadlleibaa
open Go.RowKit

end Go.Proofs.Ytbnocnadlleibaa

/- One after the other: what is measured by the clock, at the closure that Waiting hands over. -/
namespace Go.Proofs.Ytbnocnadlleibaa
open Go.RowKit

end Go.Proofs.Ytbnocnadlleibaa
