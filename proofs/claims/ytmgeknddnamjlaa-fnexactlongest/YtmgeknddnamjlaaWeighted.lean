/- One after the other: what is measured by the clock, at the closure that Weighted hands over. -/
import Derived.Test.YtmgeknddnamjlaaMeasOf
namespace Go.Proofs.Ytmgeknddnamjlaa
open Go.RowKit

end Go.Proofs.Ytmgeknddnamjlaa
