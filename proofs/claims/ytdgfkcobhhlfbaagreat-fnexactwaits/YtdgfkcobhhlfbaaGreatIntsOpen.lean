/- A struct whose fields are all int64, and a slice of such, opened: the cells are integers. -/
import Derived.Test.YtdgfkcobhhlfbaaGreatRows
import Derived.ProofKit
import Derived.WalkKit
import Derived.OpenShut
import Derived.Deep.Slices
import Derived.Lib.SmallJoins
namespace Go.Proofs.YtdgfkcobhhlfbaaGreat
open Go.ChangeShapes Go.WideShapes Go.ChangeAt Go.RowKit Go.Joins Go.Deep

/-- the fields are int64, one cell each, one behind the other -/
def allInts (P : Program) (fs : Array Field) : Prop := ∀ (i : Nat) (f : Field), fs[i]? = some f → P.underlying f.type = some (.int .i64) ∧ f.offset = i ∧ P.cellsOf f.type = 1

theorem open_ints_cells {H : Type} {enc : TypeId × Value → H} {P : Program} {w : World} {base : Nat} {spare : Nat → Bool} {held : Bool} {t : TypeId} {fs : Array Field} {fuel : Nat} {cs : List Value} {x : DataW H × List MemPlace}
    (ht : P.underlying t = some (.struct fs)) (hall : allInts P fs) (hc : P.cellsOf t = fs.size) (h : DataW.trod enc P w base spare held fuel t cs = some x) :
    ∃ zs : List Int, zs.length = fs.size ∧ cs = zs.map (Value.int .i64) ∧ ∀ z ∈ zs, (Lit.int .i64 z).wf = true := by
  obtain ⟨xs, n, _, rfl, hl, hlen, hf⟩ := DataW.trod_struct ht h
  have hx : ∀ i, i < fs.size → ∃ z : Int, cs[i]? = some (.int .i64 z) ∧ (Lit.int .i64 z).wf = true := by
    intro i hi
    have hfi : fs[i]? = some fs[i] := by simp [hi]
    obtain ⟨e1, e2, e3⟩ := hall i _ hfi
    have hxs : xs[i]? = some xs[i] := by simp
    have g := hf i _ hfi
    rw [e2, e3, hxs] at g
    obtain ⟨z, hz, _, wz⟩ := DataW.trod_int e1 g
    refine ⟨z, ?_, wz⟩
    have h1 : (List.take 1 (List.drop i cs))[0]? = some (.int .i64 z) := by rw [hz]; rfl
    rw [List.getElem?_take, if_pos (by omega), List.getElem?_drop] at h1
    simpa using h1
  obtain ⟨f, hf'⟩ := choose_lt hx
  refine ⟨(List.range fs.size).map f, by simp, ?_, ?_⟩
  · apply List.ext_getElem?
    intro i
    by_cases hi : i < fs.size
    · rw [(hf' i hi).1]; simp [hi]
    · rw [List.getElem?_eq_none (by omega), List.getElem?_eq_none (by simp; omega)]
  · intro z hz
    obtain ⟨i, hi, rfl⟩ := List.mem_map.1 hz
    exact (hf' i (by simpa using hi)).2

/-- a struct of int64s by value -/
theorem open_ints_agg {H : Type} {enc : TypeId × Value → H} {P : Program} {w : World} {base b0 : Nat} {spare : Nat → Bool} {held : Bool} {r : Reach} {t : TypeId} {fs : Array Field} {v : Value} {d : DataW H} {p : List MemPlace}
    (ht : P.underlying t = some (.struct fs)) (hall : allInts P fs) (hc : P.cellsOf t = fs.size) (hv : Value.okWide P w r b0 t v) (h : DataW.Trod enc P w base spare held t v d p) :
    ∃ zs : List Int, zs.length = fs.size ∧ v = .agg (zs.map (Value.int .i64)).toArray ∧ ∀ z ∈ zs, (Lit.int .i64 z).wf = true := by
  obtain ⟨cs, rfl, hsz⟩ := okWide_struct ht hv
  obtain ⟨fuel, hf⟩ := h
  obtain ⟨zs, h1, h2, h3⟩ := open_ints_cells ht hall hc hf
  refine ⟨zs, h1, ?_, h3⟩
  have h2' : cs.toList = zs.map (Value.int .i64) := by simpa [Value.cells] using h2
  rw [← h2']

/-- a slice of such structs: each one's cells -/
theorem open_ints_slice {H : Type} {enc : TypeId × Value → H} {P : Program} {w : World} {base : Nat} {held : Bool} {t e : TypeId} {fs : Array Field} {fuel : Nat} {c : Value} {x : DataW H × List MemPlace}
    (ht : P.underlying t = some (.slice e)) (he : P.underlying e = some (.struct fs)) (hall : allInts P fs) (hc : P.cellsOf e = fs.size) (h : DataW.trod enc P w base (fun _ => true) held fuel t [c] = some x) :
    c = .slice none 0 0 ∨ ∃ (a : Addr) (n cap : Nat) (Z : Nat → List Int), c = .slice (some a) n cap ∧ n ≤ cap ∧ cap ≤ maxLen ∧
      ∀ i, i < cap → (Z i).length = fs.size ∧ (∀ j, j < fs.size → w.cell? (a.add (i * fs.size + j)) = some (.int .i64 ((Z i).getD j 0))) ∧ ∀ z ∈ Z i, (Lit.int .i64 z).wf = true := by
  rcases open_slice ht h with ⟨h0, _⟩ | ⟨a, n, cap, m, k, D, Pl, hcs, hb, hl, hm, hmm, _, hx⟩
  · left; simpa using h0
  right
  have hmc : m = cap := by simpa using hmm
  subst hmc
  have each : ∀ i, i < m → ∃ zs : List Int, zs.length = fs.size ∧ (∀ j, j < fs.size → w.cell? (a.add (i * fs.size + j)) = some (.int .i64 (zs.getD j 0))) ∧ ∀ z ∈ zs, (Lit.int .i64 z).wf = true := by
    intro i hi
    obtain ⟨cs', g1, g2⟩ := hx i hi
    rw [hc] at g1
    obtain ⟨_, hlen, hcell⟩ := World.cells?_some g1
    obtain ⟨zs, z1, z2, z3⟩ := open_ints_cells he hall hc g2
    refine ⟨zs, z1, fun j hj => ?_, z3⟩
    have e := hcell j (by omega)
    rw [add_add] at e
    rw [e, z2]
    simp [List.getD, show j < zs.length by omega]
  obtain ⟨Z, hZ⟩ := choose_lt each
  exact ⟨a, n, m, Z, by simpa using hcs, hl, hm, hZ⟩

end Go.Proofs.YtdgfkcobhhlfbaaGreat
