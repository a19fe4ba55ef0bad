/- slices.Max of int64s. -/
import Derived.Test.YtaoimijeaacaiaaInts
import Derived.Test.YtaoimijeaacaiaaMeasOf
namespace Go.Proofs.Ytaoimijeaacaiaa
open Go.RowKit

end Go.Proofs.Ytaoimijeaacaiaa
