/- One after the other: Ends, Lateness, Weighted, Tardy, Waiting of the model. -/
import Derived.Test.YtcomohobkjkhiaaEndsI
namespace Go.Proofs.Ytcomohobkjkhiaa
open Go.RowKit

end Go.Proofs.Ytcomohobkjkhiaa
