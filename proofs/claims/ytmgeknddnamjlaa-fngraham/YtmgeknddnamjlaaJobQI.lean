/- Queue of the program; Place, of both. -/
import Derived.Test.YtmgeknddnamjlaaJobQS
namespace Go.Proofs.Ytmgeknddnamjlaa
open Go.RowKit Go.Sort

theorem IsQ.wf {ls ys : List Jb} (h : IsQ ls ys) (wf : ∀ i, i < ls.length → jwf (jg ls i)) : ∀ i, i < ys.length → jwf (jg ys i) := by
  intro i hi
  rcases h with ⟨_, rfl⟩ | ⟨_, h1, _⟩
  · simp at hi
  · have hmem : jg ys i ∈ ls := h1.subset (by rw [jg_get hi]; exact List.getElem_mem hi)
    obtain ⟨j, hjl, e⟩ := List.getElem_of_mem hmem
    rw [← e, ← jg_get hjl]
    exact wf j hjl

theorem JobS.nil_ (w : World) : JobS w none 0 0 [] := ⟨rfl, Nat.le_refl _, Nat.zero_le _, fun _ => rfl, fun i hi => by omega, fun h => by omega⟩

theorem markNilJ_any (k0 : Int) (w : World) :
    Calls Try.prog 30 #[.slice none 0 0, .int .i64 k0] w fun e w' => e = .returned (.int .i64 k0) ∧ w' = w := by
  go_enter Try.func30, Try.ntmps30
  go_wp2
  refine wp_loop_rounds 1 ?_
  rw [rounds_succ]
  go_wp2
  go_ret
  exact ⟨rfl, rfl⟩

theorem heldNilJ_any (k0 : Int) (w : World) :
    Calls Try.prog 34 #[.slice none 0 0, .int .i64 k0] w fun e w' => e = .returned (.int .i64 k0) ∧ w' = w := by
  go_enter Try.func34, Try.ntmps34
  go_wp2
  refine wp_loop_rounds 1 ?_
  rw [rounds_succ]
  go_wp2
  go_ret
  exact ⟨rfl, rfl⟩

/-- where in the queue this one is -/
def IsPlace (ls : List Jb) (id r : Int) : Prop := ∃ ys, IsQ ls ys ∧ IsNum ys ys.length id r
theorem IsPlace.uniq {ls : List Jb} {id r s : Int} (h : IsPlace ls id r) (g : IsPlace ls id s) : r = s := by
  obtain ⟨ys, h1, h2⟩ := h
  obtain ⟨zs, g1, g2⟩ := g
  obtain rfl := h1.uniq g1
  exact h2.uniq g2

end Go.Proofs.Ytmgeknddnamjlaa
