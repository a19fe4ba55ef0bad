/- slices.Max of int64s. -/
import Derived.Test.YtcomohobkjkhiaaInts
import Derived.Test.YtcomohobkjkhiaaMeasOf
namespace Go.Proofs.Ytcomohobkjkhiaa
open Go.RowKit

end Go.Proofs.Ytcomohobkjkhiaa
