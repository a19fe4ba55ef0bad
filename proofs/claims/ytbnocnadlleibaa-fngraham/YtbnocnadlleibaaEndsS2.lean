/- One after the other: Ends, Lateness, Weighted, Tardy, Waiting of the model. -/
import Derived.Test.YtbnocnadlleibaaEndsI
namespace Go.Proofs.Ytbnocnadlleibaa
open Go.RowKit

end Go.Proofs.Ytbnocnadlleibaa
