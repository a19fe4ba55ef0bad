/- A map's key that is a pair of numbers in a struct, over any program. -/
import Derived.Test.YthgdjecbaomffaaMem
import Derived.Maps.OwnSet
import Derived.DeepKeys4
namespace Go.Proofs.Ythgdjecbaomffaa
open Go.RowKit Go.Maps

theorem keyOf_two {P : Program} {k t : TypeId} {f0 f1 : Field} (hu : P.underlying k = some (.struct #[f0, f1])) (h0 : f0.type = t ∧ f0.offset = 0 ∧ f0.name ≠ "_") (h1 : f1.type = t ∧ f1.offset = 1 ∧ f1.name ≠ "_") (ht : P.underlying t = some (.int .i64))
    (hk : P.keyType k = true) (hc : P.cellsOf k = 2) (hc1 : P.cellsOf t = 1) (hsz : ∃ m, P.types.size = m + 1) {a b : Int} (wa : (Lit.int .i64 a).wf = true) (wb : (Lit.int .i64 b).wf = true) :
    keyOf P k (.agg #[.int .i64 a, .int .i64 b]) = some (.string (keyBytes [.int .i64 a, .int .i64 b])) := by
  obtain ⟨m, hm⟩ := hsz
  unfold keyOf
  simp only [hu]
  rw [if_pos (by simp [hk, Value.formed, hu, hc]), hm]
  unfold Program.keyLits
  simp only [hu, Value.cells]
  rw [if_pos (by rw [hc]; simp [h0.2.2, h1.2.2])]
  simp [h0.1, h0.2.1, h1.1, h1.2.1, hc1, Program.keyLits, ht, wa, wb]

/-- what the key of (i, e) reads as -/
def mkL (i e : Int) : Lit := .string (keyBytes [.int .i64 i, .int .i64 e])

end Go.Proofs.Ythgdjecbaomffaa
