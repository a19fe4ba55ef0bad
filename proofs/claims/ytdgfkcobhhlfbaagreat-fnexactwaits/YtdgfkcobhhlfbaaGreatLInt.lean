/- A row of numbers that a call tells: none, or a row of its own. -/
import Derived.Test.YtdgfkcobhhlfbaaGreatInts
namespace Go.Proofs.YtdgfkcobhhlfbaaGreat
open Go.RowKit

def LInt (w : World) (base : Nat) (v : Option Addr) (n c : Nat) (ys : List Int) : Prop :=
  n = ys.length ∧ ((v = none ∧ c = 0 ∧ ys = []) ∨ ∃ g, v = some ⟨g, 0, none⟩ ∧ base ≤ g ∧ IntB w g n ys ∧ n ≤ c ∧ c ≤ maxLen)
theorem LInt.toS {w : World} {base : Nat} {v : Option Addr} {n c : Nat} {ys : List Int} (h : LInt w base v n c ys) : IntS w v n c ys := by
  obtain ⟨rfl, ⟨rfl, rfl, rfl⟩ | ⟨g, rfl, _, I, h1, h2⟩⟩ := h
  · exact IntS.nil_ w
  · exact I.toS rfl h1 h2
theorem LInt.own {w : World} {base g c : Nat} {ys : List Int} (h : w.ownsRow base 2 1 (.slice (some ⟨g, 0, none⟩) ys.length c) ys.length (ys.map (Value.int .i64))) : LInt w base (some ⟨g, 0, none⟩) ys.length c ys := by
  obtain ⟨h1, _, h3, h4, h5⟩ := own_ints h
  exact ⟨rfl, Or.inr ⟨g, rfl, h5, h1, h3, h4⟩⟩
theorem LInt.below {w w' : World} {base : Nat} {v : Option Addr} {n c : Nat} {ys : List Int} (h : LInt w base v n c ys) (hb : Below w.heap.size w w') : LInt w' base v n c ys := by
  obtain ⟨e, h⟩ := h
  refine ⟨e, h.imp id ?_⟩
  rintro ⟨g, e, h1, h2, h3, h4⟩
  exact ⟨g, e, h1, h2.below hb, h3, h4⟩
theorem LInt.low {w : World} {base base' : Nat} {v : Option Addr} {n c : Nat} {ys : List Int} (h : LInt w base v n c ys) (hb : base' ≤ base) : LInt w base' v n c ys := by
  obtain ⟨e, h⟩ := h
  refine ⟨e, h.imp id ?_⟩
  rintro ⟨g, e, h1, h2⟩
  exact ⟨g, e, Nat.le_trans hb h1, h2⟩

end Go.Proofs.YtdgfkcobhhlfbaaGreat
