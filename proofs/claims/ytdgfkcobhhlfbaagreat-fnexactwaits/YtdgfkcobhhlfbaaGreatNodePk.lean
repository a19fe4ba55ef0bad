/- Chapter 11's model: Picked. -/
import Derived.Test.YtdgfkcobhhlfbaaGreatNodeS
namespace Go.Proofs.YtdgfkcobhhlfbaaGreat
open Go.RowKit Go.Sort

/-- parts that a call tells: none, or a row of its own -/
def PLst (w : World) (base : Nat) (v : Option Addr) (n c : Nat) (ps : List Pt) : Prop :=
  n = ps.length ∧ ((v = none ∧ c = 0 ∧ ps = []) ∨ ∃ g, v = some ⟨g, 0, none⟩ ∧ OwnPart w base g c ps)
theorem PLst.below {w w' : World} {base : Nat} {v : Option Addr} {n c : Nat} {ps : List Pt} (h : PLst w base v n c ps) (hb : Below w.heap.size w w') : PLst w' base v n c ps := by
  obtain ⟨e, h⟩ := h
  refine ⟨e, h.imp id ?_⟩
  rintro ⟨g, e, h⟩
  exact ⟨g, e, h.below hb⟩
theorem PLst.low {w : World} {base base' : Nat} {v : Option Addr} {n c : Nat} {ps : List Pt} (h : PLst w base v n c ps) (hb : base' ≤ base) : PLst w base' v n c ps := by
  obtain ⟨e, h⟩ := h
  refine ⟨e, h.imp id ?_⟩
  rintro ⟨g, e, h⟩
  exact ⟨g, e, h.low hb⟩
theorem PLst.toS {w : World} {base : Nat} {v : Option Addr} {n c : Nat} {ps : List Pt} (h : PLst w base v n c ps) (wf : ∀ i, i < ps.length → ptwf (ptg ps i)) : PartS w v n c ps := by
  obtain ⟨rfl, ⟨rfl, rfl, rfl⟩ | ⟨g, rfl, h⟩⟩ := h
  · exact PartS.nil_ w
  · exact h.toS wf
def PkA (w w' : World) (v : Option Addr) (n c : Nat) (b : Bool) : Option (List Pt) → Prop
  | none => b = false ∧ PLst w' w.heap.size v n c []
  | some ps => b = true ∧ PLst w' w.heap.size v n c ps

end Go.Proofs.YtdgfkcobhhlfbaaGreat
