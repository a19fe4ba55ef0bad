/- Johnson of the program. -/
import Derived.Test.YtkakdodamnnplaaPassJ
import Derived.Test.YtkakdodamnnplaaPassMark
namespace Go.Proofs.Ytkakdodamnnplaa
open Go.RowKit Go.Sort

set_option maxHeartbeats 1000000 in
theorem implJohnson_any (a : Option Addr) (n cap : Nat) (ls : List Pz) (w : World) (h : PassS w a n cap ls) :
    Calls Try.prog 11 #[.slice a n cap] w fun e w' => ∃ v c ys, e = .returned (.slice v ys.length c) ∧ LPass w' w.heap.size v ys.length c ys ∧ IsJ ls ys ∧ Below w.heap.size w w' := by
  rcases hq : psB ls with _ | _
  · go_enter Try.func11, Try.ntmps11
    go_wp2_with (go_at_call 18; refine (implPassesOk_any _ _ _ _ _ h).mono ?_; rw [hq]; rintro e w1 ⟨rfl, hb1⟩)
    go_ret
    exact ⟨none, 0, [], rfl, ⟨rfl, Or.inl ⟨rfl, rfl, rfl⟩⟩, Or.inl ⟨hq, rfl⟩, hb1⟩
  · go_enter Try.func11, Try.ntmps11
    go_wp2_with (first | (go_at_call 18; refine (implPassesOk_any _ _ _ _ _ h).mono ?_; rw [hq]; rintro e w1 ⟨rfl, hb1⟩) | (go_at_call 28; refine (inHalves_any a n cap ls w1.heap.size _ ((h.below hb1).below box_below0) hq (by simp) (by simp) (by simp) (by simp)).mono ?_; rintro e w2 ⟨g, c, ys, rfl, hO, hJ, hb2⟩; have HO : Hid _ := hO; clear hO))
    go_ret
    have z1 := hb1.size
    exact ⟨_, c, ys, rfl, ⟨rfl, Or.inr ⟨g, rfl, HO.out.low (by simp; omega)⟩⟩, hJ, (hb1.alloc z1 _).then hb2 (by simp; omega)⟩

end Go.Proofs.Ytkakdodamnnplaa
