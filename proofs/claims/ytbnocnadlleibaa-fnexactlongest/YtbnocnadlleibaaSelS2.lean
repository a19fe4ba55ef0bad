/- Jackson and Shortest of the model. -/
import Derived.Test.YtbnocnadlleibaaSelS
namespace Go.Proofs.Ytbnocnadlleibaa
open Go.RowKit Go.Sort

/-- the keys of the first k -/
def keysL (κ : Jb → Int) (ls : List Jb) (k : Nat) : List Int := (ls.take k).map κ
/-- an empty row of the call's own -/
theorem own_nil (w : World) : OwnJ (w.alloc (.cells #[] 37)) w.heap.size w.heap.size 0 [] := ⟨World.ownsRow_made w #[] 0 (Nat.le_refl _) (Nat.zero_le _) rfl, Nat.le_refl _, Nat.zero_le _, Nat.le_refl _, by simp⟩
theorem OwnJ.lower {w : World} {base base' g cap : Nat} {ys : List Jb} (h : OwnJ w base g cap ys) (hb : base' ≤ base) : OwnJ w base' g cap ys := by
  refine ⟨⟨h.own.1, ?_⟩, h.le, h.mx, Nat.le_trans hb h.base, h.lt⟩
  rcases h.own.2 with ⟨e, _⟩ | ⟨g', cap', cur, e, hg, r⟩
  · cases e
  · exact .inr ⟨g', cap', cur, e, Nat.le_trans hb hg, r⟩

theorem mapκ_succ (κ : Jb → Int) (ls : List Jb) {k : Nat} (h : k < ls.length) : keysL κ ls (k + 1) = keysL κ ls k ++ [κ (jg ls k)] := by
  unfold keysL; rw [take_one h, List.map_append]; rfl

end Go.Proofs.Ytbnocnadlleibaa
