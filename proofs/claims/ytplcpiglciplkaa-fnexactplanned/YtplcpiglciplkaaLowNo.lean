/- Lower where one of the two is not right. -/
import Derived.Test.YtplcpiglciplkaaLowImpl2
namespace Go.Proofs.Ytplcpiglciplkaa
open Go.RowKit

end Go.Proofs.Ytplcpiglciplkaa
