/- One after the other: the model's ends, lateness, weights. -/
import Derived.Test.YtmaojjjdepgaeaaInts
import Derived.Test.YtmaojjjdepgaeaaIntRow
import Derived.Test.YtmaojjjdepgaeaaJOk
namespace Go.Proofs.Ytmaojjjdepgaeaa
open Go.RowKit

/-- the sum of the first k lengths -/
def sumTo (ls : List Jb) : Nat → Int
  | 0 => 0
  | k + 1 => sumTo ls k + (jg ls k).long
/-- the ends -/
def endsL (ls : List Jb) (k : Nat) : List Int := (List.range k).map fun i => sumTo ls (i + 1)
theorem endsL_len (ls : List Jb) (k : Nat) : (endsL ls k).length = k := by simp [endsL]
theorem endsL_g (ls : List Jb) {k i : Nat} (h : i < k) : zg (endsL ls k) i = sumTo ls (i + 1) := by simp [endsL, zg, h]
theorem endsL_succ (ls : List Jb) (k : Nat) : endsL ls (k + 1) = endsL ls k ++ [sumTo ls (k + 1)] := by simp [endsL, List.range_succ]

/-- what a right job's numbers keep -/
theorem jok_bd {j : Jb} (h : jok j = true) : 1 ≤ j.long ∧ j.long ≤ 10000 ∧ 0 ≤ j.due ∧ j.due ≤ 1000000000 ∧ 0 ≤ j.wt ∧ j.wt ≤ 1000 := by
  unfold jok jobB at h
  simp only [Bool.and_eq_true] at h
  obtain ⟨⟨⟨⟨⟨⟨_, _⟩, h3⟩, h4⟩, h5⟩, _⟩, _⟩ := h
  unfold inB at h3 h5
  unfold okB inB at h4
  simp at h3 h4 h5
  omega

theorem sumTo_bd {ls : List Jb} {n : Nat} (h : jokTo ls n) : ∀ k, k ≤ n → 0 ≤ sumTo ls k ∧ sumTo ls k ≤ 10000 * (k : Int)
  | 0, _ => by simp [sumTo]
  | k + 1, hk => by
    have := sumTo_bd h k (by omega)
    have := jok_bd (h k (by omega)).1
    simp only [sumTo]
    omega

end Go.Proofs.Ytmaojjjdepgaeaa
