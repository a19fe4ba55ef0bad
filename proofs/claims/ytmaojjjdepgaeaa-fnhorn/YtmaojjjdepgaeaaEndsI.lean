/- Ends, Lateness, Weighted, Tardy, Waiting of the program. -/
import Derived.Test.YtmaojjjdepgaeaaMeasD
import Derived.Test.YtmaojjjdepgaeaaSlMax
namespace Go.Proofs.Ytmaojjjdepgaeaa
open Go.RowKit

theorem meas_ends (ls : List Jb) (n : Nat) : meas gEnds ls n = endsL ls n := rfl

/-- the greatest of all that is told; 0 where nothing is -/
noncomputable def lateV (ls : List Jb) : Int := if jsB ls = true ∧ 0 < ls.length then maxTo (meas gLateness ls ls.length) (ls.length - 1) else 0

/-- a sum of all that is told; -1 where they are not right -/
noncomputable def sumV (g : Jb → Int → Int) (ls : List Jb) : Int := if jsB ls = true then sumG g ls ls.length else -1

end Go.Proofs.Ytmaojjjdepgaeaa
