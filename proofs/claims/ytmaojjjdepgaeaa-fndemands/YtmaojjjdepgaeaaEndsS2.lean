/- One after the other: Ends, Lateness, Weighted, Tardy, Waiting of the model. -/
import Derived.Test.YtmaojjjdepgaeaaEndsI
namespace Go.Proofs.Ytmaojjjdepgaeaa
open Go.RowKit

end Go.Proofs.Ytmaojjjdepgaeaa
