/- Node: the plain struct. -/
import Derived.KernelRfl
namespace Go.Proofs.YtdgfkcobhhlfbaaGreat

structure Nd where
  cores : Int
  state : Int


def nd0 : Nd := ⟨0, 0⟩

/-- its cells, in order -/
def ndc (j : Nd) : Nat → Int
  | 0 => j.cores
  | _ => j.state

/-- number i of a list -/
def ndg (ls : List Nd) (i : Nat) : Nd := ls[i]?.getD nd0
theorem ndg_get {l : List Nd} {i : Nat} (h : i < l.length) : ndg l i = l[i] := by simp [ndg, h]

/-- each number fits -/
def ndwf (j : Nd) : Prop := ∀ c, c < 2 → -9223372036854775808 ≤ ndc j c ∧ ndc j c ≤ 9223372036854775807

end Go.Proofs.YtdgfkcobhhlfbaaGreat
