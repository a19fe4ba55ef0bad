/- The draws of lists of jobs. -/
import Derived.Test.YtmaojjjdepgaeaaJobDs
namespace Go.Proofs.Ytmaojjjdepgaeaa
open Go.RowKit Go.Sort

theorem OwnJ.low {w : World} {base base' g cap : Nat} {ys : List Jb} (h : OwnJ w base g cap ys) (hb : base' ≤ base) : OwnJ w base' g cap ys := by
  refine ⟨⟨h.own.1, ?_⟩, h.le, h.mx, Nat.le_trans hb h.base, h.lt⟩
  rcases h.own.2 with e | ⟨g', cap', cur, e, hg, r⟩
  · exact .inl e
  · exact .inr ⟨g', cap', cur, e, Nat.le_trans hb hg, r⟩

end Go.Proofs.Ytmaojjjdepgaeaa
