/- Several texts in one. -/
import Derived.Test.YtcomohobkjkhiaaMeasOf
/- One after the other: what is measured by the clock, at the closure that Ends hands over. -/
namespace Go.Proofs.Ytcomohobkjkhiaa
open Go.RowKit

end Go.Proofs.Ytcomohobkjkhiaa

/- One after the other: what is measured by the clock, at the closure that Lateness hands over. -/
namespace Go.Proofs.Ytcomohobkjkhiaa
open Go.RowKit

end Go.Proofs.Ytcomohobkjkhiaa

/- One after the other: what is measured by the clock, at the closure that Weighted hands over. -/
namespace Go.Proofs.Ytcomohobkjkhiaa
open Go.RowKit

end Go.Proofs.Ytcomohobkjkhiaa

/- One after the other: what is measured by the clock, at the closure that Tardy hands over. -/
namespace Go.Proofs.Ytcomohobkjkhiaa
open Go.RowKit

end Go.Proofs.Ytcomohobkjkhiaa

/- One after the other: what is measured by the clock, at the closure that Waiting hands over. -/
namespace Go.Proofs.Ytcomohobkjkhiaa
open Go.RowKit

end Go.Proofs.Ytcomohobkjkhiaa
