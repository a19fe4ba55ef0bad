/- Command: the plain struct. -/
import Derived.KernelRfl
namespace Go.Proofs.YtppnnnijdfbgpaaDoor

structure Cm where
  kind : Int
  a : Int
  b : Int
  c : Int


def cm0 : Cm := ⟨0, 0, 0, 0⟩

/-- its cells, in order -/
def cmc (j : Cm) : Nat → Int
  | 0 => j.kind
  | 1 => j.a
  | 2 => j.b
  | _ => j.c

/-- number i of a list -/
def cmg (ls : List Cm) (i : Nat) : Cm := ls[i]?.getD cm0
theorem cmg_get {l : List Cm} {i : Nat} (h : i < l.length) : cmg l i = l[i] := by simp [cmg, h]

/-- each number fits -/
def cmwf (j : Cm) : Prop := ∀ c, c < 4 → -9223372036854775808 ≤ cmc j c ∧ cmc j c ≤ 9223372036854775807

end Go.Proofs.YtppnnnijdfbgpaaDoor
