/- The program's chapter 12 over its two tables. -/
import Derived.Test.YtppnnnijdfbgpaaDoorCmdI3
import Derived.Test.YtppnnnijdfbgpaaDoorCmdLaid
namespace Go.Proofs.YtppnnnijdfbgpaaDoor
open Go.RowKit

/-- both tables hold what their texts lay -/
def ShT (W : World) : Prop := ShIs W ∧ Lib.TabIs Tryd.prog W "internal/strconv.uint64pow10" .u64 Lib.pow10Tab
theorem ShT.keep {w w' : World} (h : ShT w) (hb : Below w.heap.size w w') : ShT w' :=
  ⟨h.1.keep hb h.1.pos, Joins.tab_stays (by kernel_rfl : Tryd.prog.globalNamed "internal/strconv.uint64pow10" = some 1) h.2 hb (Nat.le_refl _)⟩
theorem cmdOk_t (k a b c : Int) (w : World) (h : ShT w) :
    Calls Tryd.prog 14 #[.agg #[.int .i64 k, .int .i64 a, .int .i64 b, .int .i64 c]] w fun e w' => e = .returned (.bool (cmB k a b c)) ∧ Below w.heap.size w w' := implCommandOk_any k a b c w h.1
theorem showCommand_t (k a b c : Int) (w : World) (h : ShT w) :
    Calls Tryd.prog 9 #[.agg #[.int .i64 k, .int .i64 a, .int .i64 b, .int .i64 c]] w fun e w' => e = .returned (.string ⟨(if cmB k a b c = true then cmSh k a b c else []).toArray⟩) ∧ Below w.heap.size w w' := implShowCommand_any k a b c w h.1 h.2
theorem readCommand_t (l : List UInt8) (hl : l.length ≤ 2000000) (w : World) (h : ShT w) :
    Calls Tryd.prog 11 #[.string ⟨l.toArray⟩] w fun e w' => ∃ (k a b c : Int) (is : Bool), e = .returned (.tuple #[.agg #[.int .i64 k, .int .i64 a, .int .i64 b, .int .i64 c], .bool is]) ∧ IsRd l k a b c is ∧ Below w.heap.size w w' := implReadCommand_any l hl w h.1

end Go.Proofs.YtppnnnijdfbgpaaDoor
