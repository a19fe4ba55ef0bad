/- One after the other: what is measured by the clock, at the closure that Lateness hands over. -/
import Derived.Test.YtbnocnadlleibaaMeasOf
namespace Go.Proofs.Ytbnocnadlleibaa
open Go.RowKit

end Go.Proofs.Ytbnocnadlleibaa
