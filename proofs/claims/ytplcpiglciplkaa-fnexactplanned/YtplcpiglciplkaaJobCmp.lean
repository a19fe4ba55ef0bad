/- The order of a queue: cmp.Compare, cmp.Or, inQueue; Ahead of the program. -/
import Derived.Test.YtplcpiglciplkaaJobOk
import Derived.Test.YtplcpiglciplkaaCmp
import Derived.StillTailTactics
import Derived.Lib.SmallJoins
import Derived.Sort.Grow
namespace Go.Proofs.Ytplcpiglciplkaa
open Go.RowKit Go.Sort

/-- what inQueue tells -/
def inQ (i r a i' r' a' : Int) : Int := or3 (cmpI r' r) (cmpI a a') (cmpI i i')

theorem inQ_ahead (i r a i' r' a' : Int) : decide (inQ i r a i' r' a' < 0) = aheadB i r a i' r' a' := by
  unfold inQ or3 aheadB
  by_cases c1 : r = r'
  · have e : ¬ (cmpI r' r ≠ 0) := fun h => h (cmpI_zero.2 c1.symm)
    have d : ¬ (r ≠ r') := fun h => h c1
    rw [if_neg e, if_neg d]
    by_cases c2 : a = a'
    · have e : ¬ (cmpI a a' ≠ 0) := fun h => h (cmpI_zero.2 c2)
      have d : ¬ (a ≠ a') := fun h => h c2
      rw [if_neg e, if_neg d]
      exact decide_eq_decide.2 cmpI_neg
    · have e : cmpI a a' ≠ 0 := fun h => c2 (cmpI_zero.1 h)
      rw [if_pos e, if_pos c2]
      exact decide_eq_decide.2 cmpI_neg
  · have e : cmpI r' r ≠ 0 := fun h => c1 (cmpI_zero.1 h).symm
    rw [if_pos e, if_pos c1]
    exact decide_eq_decide.2 cmpI_neg

end Go.Proofs.Ytplcpiglciplkaa
