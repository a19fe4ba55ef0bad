/- A profile that came in, opened: its value, and the levels that lie there. -/
import Derived.Test.YtplcpiglciplkaaLevIn
import Derived.ProofKit
import Derived.OpenShut
import Derived.Deep.SlicePairs
import Derived.Lib.SmallJoins
namespace Go.Proofs.Ytplcpiglciplkaa
open Go.ChangeShapes Go.WideShapes Go.ChangeAt Go.RowKit Go.Joins Go.Deep

theorem cellsP : Try.prog.cellsOf 51 = 2 := by kernel_rfl
theorem cellsL : Try.prog.cellsOf 110 = 2 := by kernel_rfl
theorem cellsI : Try.prog.cellsOf 2 = 1 := by kernel_rfl

set_option maxRecDepth 8000 in
theorem open_levels {H : Type} {enc : TypeId × Value → H} {W : World} {base fuel : Nat} {c : Value} {x : DataW H × List MemPlace}
    (h : DataW.trod enc Try.prog W base (fun _ => true) true fuel 49 [c] = some x) :
    ∃ (a : Option Addr) (n cap : Nat) (ls : List Lev), c = .slice a n cap ∧ LevS W a n cap ls := by
  rcases open_slice_pairs Try.underlying49 Try.underlying110 cellsL rfl rfl cellsI cellsI h with ⟨hcs, _⟩ | ⟨a, n, cap, m, k, V0, V1, D0, D1, P0, P1, hcs, hb, hl, hm, hmm, _, hx⟩
  · simp at hcs
    exact ⟨none, 0, 0, [], hcs, rfl, Nat.le_refl _, Nat.zero_le _, fun _ => rfl, fun i hi => by omega, fun hi => by omega⟩
  · simp at hcs
    subst hcs
    have hmc : m = cap := by simpa using hmm
    subst hmc
    have q : ∀ i, i < m → ∃ l : Lev, V0 i = .int .i64 l.1 ∧ V1 i = .int .i64 l.2 ∧ (Lit.int .i64 l.1).wf = true ∧ (Lit.int .i64 l.2).wf = true := by
      intro i hi
      obtain ⟨_, _, h0, h1⟩ := hx i hi
      obtain ⟨f, e0, _, w0⟩ := DataW.trod_int Try.underlying2 h0
      obtain ⟨r, e1, _, w1⟩ := DataW.trod_int Try.underlying2 h1
      simp at e0 e1
      exact ⟨(f, r), e0, e1, w0, w1⟩
    obtain ⟨g, hg⟩ := choose_lt q
    refine ⟨some a, n, m, (List.range n).map g, rfl, by simp, hl, hm, (fun h => by cases h), fun i hi => ?_, fun hn => ?_⟩
    · obtain ⟨_, _, w0, w1⟩ := hg i (by omega)
      have e0 : fr ((List.range n).map g) i = (g i).1 := by simp [fr, hi]
      have e1 : fe ((List.range n).map g) i = (g i).2 := by simp [fe, hi]
      rw [e0, e1]
      exact ⟨bounds_i64 w0, bounds_i64 w1⟩
    · obtain ⟨b, off, spot⟩ := a
      have hc := (hx 0 (by omega)).1
      have hspot : spot = none := by simpa [Addr.add] using World.cell?_spot hc
      subst hspot
      refine ⟨b, off, rfl, by simpa [Addr.add] using World.block_lt_of_cell? W _ hc, fun i hi => ?_⟩
      have hi' : i < n := by simpa using hi
      obtain ⟨c0, c1, _, _⟩ := hx i (by omega)
      obtain ⟨v0, v1, _, _⟩ := hg i (by omega)
      have e0 : fr ((List.range n).map g) i = (g i).1 := by simp [fr, hi']
      have e1 : fe ((List.range n).map g) i = (g i).2 := by simp [fe, hi']
      rw [e0, e1, ← v0, ← v1]
      rw [add_plain] at c0 c1
      exact ⟨c0, by simpa [Nat.add_assoc] using c1⟩

set_option maxRecDepth 8000 in
theorem open_profile {H : Type} {enc : TypeId × Value → H} {W : World} {b0 : Nat} {v : Value} {d : DataW H} {p : List MemPlace}
    (hv : Value.okWide Try.prog W .any b0 51 v) (h : DataW.Trod enc Try.prog W 0 (fun _ => true) true 51 v d p) :
    ∃ (t : Int) (a : Option Addr) (n cap : Nat) (ls : List Lev), v = .agg #[.int .i64 t, .slice a n cap] ∧ (Lit.int .i64 t).wf = true ∧ LevS W a n cap ls := by
  obtain ⟨c0, c1, y0, y1, m, rfl, _, _, hy0, hy1⟩ := open_agg2 Try.underlying51 (by kernel_rfl) cellsP hv h
  obtain ⟨t, e0, _, wt⟩ := DataW.trod_int Try.underlying2 hy0
  obtain ⟨a, n, cap, ls, rfl, hl⟩ := open_levels hy1
  simp at e0
  subst e0
  exact ⟨t, a, n, cap, ls, rfl, wt, hl⟩

end Go.Proofs.Ytplcpiglciplkaa
