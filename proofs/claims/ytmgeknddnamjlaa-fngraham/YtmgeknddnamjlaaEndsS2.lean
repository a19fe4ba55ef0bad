/- One after the other: Ends, Lateness, Weighted, Tardy, Waiting of the model. -/
import Derived.Test.YtmgeknddnamjlaaEndsI
namespace Go.Proofs.Ytmgeknddnamjlaa
open Go.RowKit

end Go.Proofs.Ytmgeknddnamjlaa
