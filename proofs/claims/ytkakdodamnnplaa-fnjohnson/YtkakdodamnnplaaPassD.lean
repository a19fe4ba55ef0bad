/- Pass: the plain struct. -/
import Derived.KernelRfl
namespace Go.Proofs.Ytkakdodamnnplaa

structure Pz where
  id : Int
  a : Int
  b : Int


def pz0 : Pz := ⟨0, 0, 0⟩

/-- its cells, in order -/
def pzc (j : Pz) : Nat → Int
  | 0 => j.id
  | 1 => j.a
  | _ => j.b

/-- number i of a list -/
def pzg (ls : List Pz) (i : Nat) : Pz := ls[i]?.getD pz0
theorem pzg_get {l : List Pz} {i : Nat} (h : i < l.length) : pzg l i = l[i] := by simp [pzg, h]

/-- each number fits -/
def pzwf (j : Pz) : Prop := ∀ c, c < 3 → -9223372036854775808 ≤ pzc j c ∧ pzc j c ≤ 9223372036854775807

end Go.Proofs.Ytkakdodamnnplaa
