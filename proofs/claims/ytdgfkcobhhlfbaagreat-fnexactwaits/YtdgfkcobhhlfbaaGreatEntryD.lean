/- An Entry: the plain struct. -/
import Derived.Test.YtdgfkcobhhlfbaaGreatJob
import Derived.Test.YtdgfkcobhhlfbaaGreatPartD
import Derived.Test.YtdgfkcobhhlfbaaGreatNodeD
namespace Go.Proofs.YtdgfkcobhhlfbaaGreat

structure En where
  job : Jb
  ph : Int
  st : Int
  ep : Int
  ps : List Pt

def en0 : En := ⟨jb0, 0, 0, 0, []⟩

/-- its numbers, in order -/
def enc (e : En) (c : Nat) : Int := if c < 7 then jc e.job c else if c = 7 then e.ph else if c = 8 then e.st else e.ep

/-- number i of a list -/
def eng (ls : List En) (i : Nat) : En := ls[i]?.getD en0
theorem eng_get {l : List En} {i : Nat} (h : i < l.length) : eng l i = l[i] := by simp [eng, h]

/-- each number fits, the parts' too -/
def enwf (e : En) : Prop := (∀ c, c < 10 → -9223372036854775808 ≤ enc e c ∧ enc e c ≤ 9223372036854775807) ∧ ∀ i, i < e.ps.length → ptwf (ptg e.ps i)

/-- a state -/
structure St where
  now : Int
  nodes : List Nd
  ents : List En
  next : Int
  eps : Int

end Go.Proofs.YtdgfkcobhhlfbaaGreat
