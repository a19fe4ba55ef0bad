/- slices.Max of int64s. -/
import Derived.Test.YtnbeaeekfahijaaInts
import Derived.Test.YtnbeaeekfahijaaMeasOf
namespace Go.Proofs.Ytnbeaeekfahijaa
open Go.RowKit

end Go.Proofs.Ytnbeaeekfahijaa
