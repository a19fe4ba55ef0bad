/- The orders of the model, told as slices of jobs. -/
import Derived.Test.YtnbeaeekfahijaaSelS3
namespace Go.Proofs.Ytnbeaeekfahijaa
open Go.RowKit Go.Sort

theorem specJacksonQ_any (a : Option Addr) (n cap : Nat) (ls : List Jb) (w : World) (h : JobS w a n cap ls) :
    Calls Try.prog 15 #[.slice a n cap] w fun e w' => ∃ v m cap' ys, e = .returned (.slice v m cap') ∧ JobS w' v m cap' ys ∧ IsBy ltDue ls ys ∧ Below w.heap.size w w' := by
  have hlen := h.len
  refine (specJackson_any a n cap ls w h).mono ?_
  rintro e w' ⟨g, c, ys, rfl, O, hQ, hb⟩
  exact ⟨_, _, _, ys, rfl, O.toS (hQ.wf (fun i hi => h.wf i (by omega))), hQ, hb⟩

theorem specSmithQ_any (a : Option Addr) (n cap : Nat) (ls : List Jb) (w : World) (h : JobS w a n cap ls) :
    Calls Try.prog 16 #[.slice a n cap] w fun e w' => ∃ v m cap' ys, e = .returned (.slice v m cap') ∧ JobS w' v m cap' ys ∧ IsBy ltSm ls ys ∧ Below w.heap.size w w' := by
  have hlen := h.len
  refine (specSmith_any a n cap ls w h).mono ?_
  rintro e w' ⟨g, c, ys, rfl, O, hQ, hb⟩
  exact ⟨_, _, _, ys, rfl, O.toS (hQ.wf (fun i hi => h.wf i (by omega))), hQ, hb⟩

theorem specShortestQ_any (a : Option Addr) (n cap : Nat) (ls : List Jb) (w : World) (h : JobS w a n cap ls) :
    Calls Try.prog 17 #[.slice a n cap] w fun e w' => ∃ v m cap' ys, e = .returned (.slice v m cap') ∧ JobS w' v m cap' ys ∧ IsBy ltLong ls ys ∧ Below w.heap.size w w' := by
  have hlen := h.len
  refine (specShortest_any a n cap ls w h).mono ?_
  rintro e w' ⟨g, c, ys, rfl, O, hQ, hb⟩
  exact ⟨_, _, _, ys, rfl, O.toS (hQ.wf (fun i hi => h.wf i (by omega))), hQ, hb⟩

end Go.Proofs.Ytnbeaeekfahijaa
