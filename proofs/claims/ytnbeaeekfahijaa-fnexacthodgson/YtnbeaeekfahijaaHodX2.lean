/- Hodgson of both, whatever list. -/
import Derived.Test.YtnbeaeekfahijaaHodS
namespace Go.Proofs.Ytnbeaeekfahijaa
open Go.RowKit Go.Sort

theorem implHodgson_any (a : Option Addr) (n cap : Nat) (ls : List Jb) (w : World) (h : JobS w a n cap ls) :
    Calls Try.prog 25 #[.slice a n cap] w fun e w' => ∃ v c ys, e = .returned (.slice v ys.length c) ∧ LJ w' w.heap.size v ys.length c ys ∧ IsHod ls ys ∧ Below w.heap.size w w' := by
  rcases hq : jsB ls with _ | _
  · exact implHodgson_no a n cap ls w h hq
  · exact implHodgson_yes a n cap ls w h hq

theorem IsHod.len {ls ys : List Jb} (h : IsHod ls ys) : ys.length ≤ 40 := by
  rcases hq : jsB ls with _ | _
  · rcases h with ⟨_, rfl⟩ | ⟨h0, _⟩
    · simp
    · rw [hq] at h0; cases h0
  · rw [(h.perm hq).length_eq]; exact (jsB_t hq).n

end Go.Proofs.Ytnbeaeekfahijaa
