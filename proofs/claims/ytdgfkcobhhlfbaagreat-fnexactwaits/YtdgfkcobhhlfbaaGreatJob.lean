/- Jobs: the plain mathematics. No program. -/
import Derived.KernelRfl
namespace Go.Proofs.YtdgfkcobhhlfbaaGreat

structure Jb where
  id : Int
  cores : Int
  long : Int
  due : Int
  wt : Int
  rank : Int
  at_ : Int

/-- the zero job -/
def jb0 : Jb := ⟨0, 0, 0, 0, 0, 0, 0⟩

/-- the cells of a job, in order -/
def jc (j : Jb) : Nat → Int
  | 0 => j.id
  | 1 => j.cores
  | 2 => j.long
  | 3 => j.due
  | 4 => j.wt
  | 5 => j.rank
  | _ => j.at_

/-- job number i of a list -/
def jg (ls : List Jb) (i : Nat) : Jb := ls[i]?.getD jb0

/-- each number fits -/
def jwf (j : Jb) : Prop := ∀ c, c < 7 → -9223372036854775808 ≤ jc j c ∧ jc j c ≤ 9223372036854775807

theorem jc_ext {a b : Jb} (h : ∀ c, c < 7 → jc a c = jc b c) : a = b := by
  obtain ⟨a0, a1, a2, a3, a4, a5, a6⟩ := a
  obtain ⟨b0, b1, b2, b3, b4, b5, b6⟩ := b
  have h0 := h 0 (by omega); have h1 := h 1 (by omega); have h2 := h 2 (by omega); have h3 := h 3 (by omega); have h4 := h 4 (by omega); have h5 := h 5 (by omega); have h6 := h 6 (by omega)
  simp only [jc] at h0 h1 h2 h3 h4 h5 h6
  subst h0 h1 h2 h3 h4 h5 h6
  rfl

end Go.Proofs.YtdgfkcobhhlfbaaGreat
