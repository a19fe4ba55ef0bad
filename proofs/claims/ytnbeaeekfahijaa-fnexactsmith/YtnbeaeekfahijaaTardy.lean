/- One after the other: what is measured by the clock, at the closure that Tardy hands over. -/
import Derived.Test.YtnbeaeekfahijaaMeasOf
namespace Go.Proofs.Ytnbeaeekfahijaa
open Go.RowKit

end Go.Proofs.Ytnbeaeekfahijaa
