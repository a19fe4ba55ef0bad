/- Queue of the program; Place, of both. -/
import Derived.Test.YtmaojjjdepgaeaaJobQS
import Derived.Test.YtmaojjjdepgaeaaJobSort
namespace Go.Proofs.Ytmaojjjdepgaeaa
open Go.RowKit Go.Sort

theorem IsQ.wf {ls ys : List Jb} (h : IsQ ls ys) (wf : ∀ i, i < ls.length → jwf (jg ls i)) : ∀ i, i < ys.length → jwf (jg ys i) := by
  intro i hi
  rcases h with ⟨_, rfl⟩ | ⟨_, h1, _⟩
  · simp at hi
  · have hmem : jg ys i ∈ ls := h1.subset (by rw [jg_get hi]; exact List.getElem_mem hi)
    obtain ⟨j, hjl, e⟩ := List.getElem_of_mem hmem
    rw [← e, ← jg_get hjl]
    exact wf j hjl

/-- where in the queue this one is -/
def IsPlace (ls : List Jb) (id r : Int) : Prop := ∃ ys, IsQ ls ys ∧ IsNum ys ys.length id r
theorem IsPlace.uniq {ls : List Jb} {id r s : Int} (h : IsPlace ls id r) (g : IsPlace ls id s) : r = s := by
  obtain ⟨ys, h1, h2⟩ := h
  obtain ⟨zs, g1, g2⟩ := g
  obtain rfl := h1.uniq g1
  exact h2.uniq g2

end Go.Proofs.Ytmaojjjdepgaeaa
