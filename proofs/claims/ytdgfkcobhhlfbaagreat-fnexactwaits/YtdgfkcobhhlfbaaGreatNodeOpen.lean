/- A Node, and a slice of them, that came in, opened. -/
import Derived.Test.YtdgfkcobhhlfbaaGreatNodeIn
import Derived.Test.YtdgfkcobhhlfbaaGreatIntsOpen
namespace Go.Proofs.YtdgfkcobhhlfbaaGreat
open Go.ChangeShapes Go.WideShapes Go.ChangeAt Go.RowKit Go.Joins Go.Deep

theorem ndfields {zs : List Int} (h : zs.length = 2) : ∃ j : Nd, zs = [j.cores, j.state] := by
  match zs, h with
  | [z0, z1], _ => exact ⟨⟨z0, z1⟩, rfl⟩

theorem ndwf_of {j : Nd} (h : ∀ z ∈ [j.cores, j.state], (Lit.int .i64 z).wf = true) : ndwf j := by
  intro c hc
  obtain rfl | rfl : c = 0 ∨ c = 1 := by omega
  all_goals exact bounds_i64 (h _ (by simp [ndc]))

theorem fieldsNode : ∃ fs, Tryz.prog.underlying 72 = some (.struct fs) ∧ fs.size = 2 ∧ allInts Tryz.prog fs := by
  refine ⟨_, Tryz.underlying72, rfl, fun i f hf => ?_⟩
  have hi : i < 2 := by
    rcases Nat.lt_or_ge i 2 with h | h
    · exact h
    · rw [Array.getElem?_eq_none (by simpa using h)] at hf; cases hf
  obtain rfl | rfl : i = 0 ∨ i = 1 := by omega
  all_goals (simp at hf; subst hf; exact ⟨Tryz.underlying2, rfl, by kernel_rfl⟩)

theorem cellsNode : Tryz.prog.cellsOf 72 = 2 := by kernel_rfl

set_option maxRecDepth 8000 in
theorem open_nd {H : Type} {enc : TypeId × Value → H} {W : World} {b0 : Nat} {v : Value} {d : DataW H} {p : List MemPlace}
    (hv : Value.okWide Tryz.prog W .any b0 72 v) (h : DataW.Trod enc Tryz.prog W 0 (fun _ => true) true 72 v d p) :
    ∃ j : Nd, v = .agg #[.int .i64 j.cores, .int .i64 j.state] ∧ ndwf j := by
  obtain ⟨fs, hu, hz, hall⟩ := fieldsNode
  obtain ⟨zs, hl, rfl, hw⟩ := open_ints_agg hu hall (cellsNode.trans hz.symm) hv h
  obtain ⟨j, rfl⟩ := ndfields (hl.trans hz)
  exact ⟨j, rfl, ndwf_of hw⟩

set_option maxRecDepth 8000 in
theorem open_nds {H : Type} {enc : TypeId × Value → H} {W : World} {b0 : Nat} {v : Value} {d : DataW H} {p : List MemPlace}
    (hv : Value.okWide Tryz.prog W .any b0 22 v) (h : DataW.Trod enc Tryz.prog W 0 (fun _ => true) true 22 v d p) :
    ∃ (a : Option Addr) (n cap : Nat) (ls : List Nd), v = .slice a n cap ∧ NodeS W a n cap ls := by
  obtain ⟨fs, hu, hz, hall⟩ := fieldsNode
  obtain ⟨a0, n0, cap0, rfl⟩ := okWide_slice Tryz.underlying22 hv
  obtain ⟨fuel, hf⟩ := h
  simp only [Value.cells] at hf
  rcases open_ints_slice Tryz.underlying22 hu hall (cellsNode.trans hz.symm) hf with hcs | ⟨a, n, cap, Z, hcs, hl, hm, hx⟩
  · exact ⟨none, 0, 0, [], hcs, rfl, Nat.le_refl _, Nat.zero_le _, fun _ => rfl, fun i hi => by omega, fun hi => by omega⟩
  · rw [hz] at hx
    haveI : Inhabited Nd := ⟨nd0⟩
    have q : ∀ i, i < cap → ∃ j : Nd, Z i = [j.cores, j.state] := fun i hi => ndfields (hx i hi).1
    obtain ⟨g, hg⟩ := choose_lt q
    refine ⟨some a, n, cap, (List.range n).map g, hcs, by simp, hl, hm, (fun h => by cases h), fun i hi => ?_, fun hn => ?_⟩
    · have e : ndg ((List.range n).map g) i = g i := by simp [ndg, hi]
      rw [e]
      exact ndwf_of (by rw [← hg i (by omega)]; exact (hx i (by omega)).2.2)
    · obtain ⟨b, off, spot⟩ := a
      have h0 := (hx 0 (by omega)).2.1 0 (by omega)
      have hspot : spot = none := by simpa [Addr.add] using World.cell?_spot h0
      subst hspot
      refine ⟨b, off, rfl, by simpa [Addr.add] using World.block_lt_of_cell? W _ h0, fun i hi c hcc => ?_⟩
      have hi' : i < n := by simpa using hi
      have e : ndg ((List.range n).map g) i = g i := by simp [ndg, hi']
      have := (hx i (by omega)).2.1 c hcc
      rw [add_plain, hg i (by omega)] at this
      rw [e, Nat.add_assoc, this]
      obtain rfl | rfl : c = 0 ∨ c = 1 := by omega
      all_goals rfl

end Go.Proofs.YtdgfkcobhhlfbaaGreat
