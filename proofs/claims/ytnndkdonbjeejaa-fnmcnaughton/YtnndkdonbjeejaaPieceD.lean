/- Piece: the plain struct. -/
import Derived.KernelRfl
namespace Go.Proofs.Ytnndkdonbjeejaa

structure Pc where
  job : Int
  mac : Int
  fr : Int
  up : Int


def pc0 : Pc := ⟨0, 0, 0, 0⟩

/-- its cells, in order -/
def pcc (j : Pc) : Nat → Int
  | 0 => j.job
  | 1 => j.mac
  | 2 => j.fr
  | _ => j.up

/-- number i of a list -/
def pcg (ls : List Pc) (i : Nat) : Pc := ls[i]?.getD pc0
theorem pcg_get {l : List Pc} {i : Nat} (h : i < l.length) : pcg l i = l[i] := by simp [pcg, h]

/-- each number fits -/
def pcwf (j : Pc) : Prop := ∀ c, c < 4 → -9223372036854775808 ≤ pcc j c ∧ pcc j c ≤ 9223372036854775807

end Go.Proofs.Ytnndkdonbjeejaa
