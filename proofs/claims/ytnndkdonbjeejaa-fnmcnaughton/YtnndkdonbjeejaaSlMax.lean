/- slices.Max of int64s. -/
import Derived.Test.YtnndkdonbjeejaaInts
import Derived.Test.YtnndkdonbjeejaaMeasOf
namespace Go.Proofs.Ytnndkdonbjeejaa
open Go.RowKit

end Go.Proofs.Ytnndkdonbjeejaa
