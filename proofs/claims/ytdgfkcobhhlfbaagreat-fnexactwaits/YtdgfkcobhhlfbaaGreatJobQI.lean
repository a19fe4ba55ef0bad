/- Queue of the program; Place, of both. -/
import Derived.Test.YtdgfkcobhhlfbaaGreatPd
import Derived.Test.YtdgfkcobhhlfbaaGreatJobSort
namespace Go.Proofs.YtdgfkcobhhlfbaaGreat
open Go.RowKit Go.Sort

theorem IsQ.wf {ls ys : List Jb} (h : IsQ ls ys) (wf : ∀ i, i < ls.length → jwf (jg ls i)) : ∀ i, i < ys.length → jwf (jg ys i) := by
  intro i hi
  rcases h with ⟨_, rfl⟩ | ⟨_, h1, _⟩
  · simp at hi
  · have hmem : jg ys i ∈ ls := h1.subset (by rw [jg_get hi]; exact List.getElem_mem hi)
    obtain ⟨j, hjl, e⟩ := List.getElem_of_mem hmem
    rw [← e, ← jg_get hjl]
    exact wf j hjl

theorem implQueue_yes (a : Option Addr) (n cap : Nat) (ls : List Jb) (w : World) (h : JobS w a n cap ls) (hq : jsB ls = true) :
    Calls Tryz.prog 20 #[.slice a n cap] w fun e w' => ∃ B ys, e = .returned (.slice (some ⟨B, 0, none⟩) n n) ∧ w.heap.size ≤ B ∧ JobB w' B n n ys ∧ ys.length = n ∧ IsQ ls ys ∧ Below w.heap.size w w' := by
  have hn := (jsB_t hq).n
  have hlen := h.len
  go_enter Tryz.func20, Tryz.ntmps20
  go_wp2_with fail
  refine (implJobsOk_any a n cap ls _ h).mono ?_
  rw [hq]
  rintro e w1 ⟨rfl, hb1⟩
  go_wp2_with fail
  refine (implSorted_any a n cap ls _ (h.below hb1) (by omega)).mono ?_
  rintro e w2 ⟨B, ys, rfl, hB, hp, hl, hs, hJ, hb2⟩
  have z1 := hb1.size
  go_wp2
  go_ret
  exact ⟨B, ys, rfl, by omega, hJ, hl, Or.inr ⟨hq, hp, hs⟩, hb1.then hb2 hb1.size⟩

theorem implQueue_no (a : Option Addr) (n cap : Nat) (ls : List Jb) (w : World) (h : JobS w a n cap ls) (hq : jsB ls = false) :
    Calls Tryz.prog 20 #[.slice a n cap] w fun e w' => e = .returned (.slice none 0 0) ∧ Below w.heap.size w w' := by
  go_enter Tryz.func20, Tryz.ntmps20
  go_wp2_with fail
  refine (implJobsOk_any a n cap ls _ h).mono ?_
  rw [hq]
  rintro e w1 ⟨rfl, hb1⟩
  go_wp2
  go_ret
  exact ⟨rfl, hb1⟩

/-- where in the queue this one is -/
def IsPlace (ls : List Jb) (id r : Int) : Prop := ∃ ys, IsQ ls ys ∧ IsNum ys ys.length id r
theorem IsPlace.uniq {ls : List Jb} {id r s : Int} (h : IsPlace ls id r) (g : IsPlace ls id s) : r = s := by
  obtain ⟨ys, h1, h2⟩ := h
  obtain ⟨zs, g1, g2⟩ := g
  obtain rfl := h1.uniq g1
  exact h2.uniq g2

end Go.Proofs.YtdgfkcobhhlfbaaGreat
