/- Two rows of numbers that are alike, to the laws. -/
import Derived.Test.YtcomohobkjkhiaaInts
import Derived.Test.YtcomohobkjkhiaaIntRow
namespace Go.Proofs.Ytcomohobkjkhiaa
open Go.RowKit

end Go.Proofs.Ytcomohobkjkhiaa
