/- Part: the plain struct. -/
import Derived.KernelRfl
namespace Go.Proofs.YtdgfkcobhhlfbaaGreat

structure Pt where
  node : Int
  cores : Int


def pt0 : Pt := ⟨0, 0⟩

/-- its cells, in order -/
def ptc (j : Pt) : Nat → Int
  | 0 => j.node
  | _ => j.cores

/-- number i of a list -/
def ptg (ls : List Pt) (i : Nat) : Pt := ls[i]?.getD pt0
theorem ptg_get {l : List Pt} {i : Nat} (h : i < l.length) : ptg l i = l[i] := by simp [ptg, h]

/-- each number fits -/
def ptwf (j : Pt) : Prop := ∀ c, c < 2 → -9223372036854775808 ≤ ptc j c ∧ ptc j c ≤ 9223372036854775807

end Go.Proofs.YtdgfkcobhhlfbaaGreat
