/- toJob and Ahead, told by what they lay. -/
import Derived.Test.YtcomohobkjkhiaaJobCmp
import Derived.Shelf.SlSortCmp.QuietGrown
namespace Go.Proofs.Ytcomohobkjkhiaa
open Go.RowKit Go.Sort

end Go.Proofs.Ytcomohobkjkhiaa
