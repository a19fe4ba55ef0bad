/- A call's own entries, held. -/
import Derived.Test.YtdgfkcobhhlfbaaGreatEntMk
namespace Go.Proofs.YtdgfkcobhhlfbaaGreat
open Go.RowKit Go.Sort

end Go.Proofs.YtdgfkcobhhlfbaaGreat
