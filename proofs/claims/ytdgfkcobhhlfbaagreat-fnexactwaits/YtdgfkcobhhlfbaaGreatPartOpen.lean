/- A Part, and a slice of them, that came in, opened. -/
import Derived.Test.YtdgfkcobhhlfbaaGreatPartIn
import Derived.Test.YtdgfkcobhhlfbaaGreatIntsOpen
namespace Go.Proofs.YtdgfkcobhhlfbaaGreat
open Go.ChangeShapes Go.WideShapes Go.ChangeAt Go.RowKit Go.Joins Go.Deep

theorem ptfields {zs : List Int} (h : zs.length = 2) : ∃ j : Pt, zs = [j.node, j.cores] := by
  match zs, h with
  | [z0, z1], _ => exact ⟨⟨z0, z1⟩, rfl⟩

theorem ptwf_of {j : Pt} (h : ∀ z ∈ [j.node, j.cores], (Lit.int .i64 z).wf = true) : ptwf j := by
  intro c hc
  obtain rfl | rfl : c = 0 ∨ c = 1 := by omega
  all_goals exact bounds_i64 (h _ (by simp [ptc]))

theorem fieldsPart : ∃ fs, Tryz.prog.underlying 104 = some (.struct fs) ∧ fs.size = 2 ∧ allInts Tryz.prog fs := by
  refine ⟨_, Tryz.underlying104, rfl, fun i f hf => ?_⟩
  have hi : i < 2 := by
    rcases Nat.lt_or_ge i 2 with h | h
    · exact h
    · rw [Array.getElem?_eq_none (by simpa using h)] at hf; cases hf
  obtain rfl | rfl : i = 0 ∨ i = 1 := by omega
  all_goals (simp at hf; subst hf; exact ⟨Tryz.underlying2, rfl, by kernel_rfl⟩)

theorem cellsPart : Tryz.prog.cellsOf 104 = 2 := by kernel_rfl

set_option maxRecDepth 8000 in
theorem open_pt {H : Type} {enc : TypeId × Value → H} {W : World} {b0 : Nat} {v : Value} {d : DataW H} {p : List MemPlace}
    (hv : Value.okWide Tryz.prog W .any b0 104 v) (h : DataW.Trod enc Tryz.prog W 0 (fun _ => true) true 104 v d p) :
    ∃ j : Pt, v = .agg #[.int .i64 j.node, .int .i64 j.cores] ∧ ptwf j := by
  obtain ⟨fs, hu, hz, hall⟩ := fieldsPart
  obtain ⟨zs, hl, rfl, hw⟩ := open_ints_agg hu hall (cellsPart.trans hz.symm) hv h
  obtain ⟨j, rfl⟩ := ptfields (hl.trans hz)
  exact ⟨j, rfl, ptwf_of hw⟩

set_option maxRecDepth 8000 in
theorem open_pts {H : Type} {enc : TypeId × Value → H} {W : World} {b0 : Nat} {v : Value} {d : DataW H} {p : List MemPlace}
    (hv : Value.okWide Tryz.prog W .any b0 56 v) (h : DataW.Trod enc Tryz.prog W 0 (fun _ => true) true 56 v d p) :
    ∃ (a : Option Addr) (n cap : Nat) (ls : List Pt), v = .slice a n cap ∧ PartS W a n cap ls := by
  obtain ⟨fs, hu, hz, hall⟩ := fieldsPart
  obtain ⟨a0, n0, cap0, rfl⟩ := okWide_slice Tryz.underlying56 hv
  obtain ⟨fuel, hf⟩ := h
  simp only [Value.cells] at hf
  rcases open_ints_slice Tryz.underlying56 hu hall (cellsPart.trans hz.symm) hf with hcs | ⟨a, n, cap, Z, hcs, hl, hm, hx⟩
  · exact ⟨none, 0, 0, [], hcs, rfl, Nat.le_refl _, Nat.zero_le _, fun _ => rfl, fun i hi => by omega, fun hi => by omega⟩
  · rw [hz] at hx
    haveI : Inhabited Pt := ⟨pt0⟩
    have q : ∀ i, i < cap → ∃ j : Pt, Z i = [j.node, j.cores] := fun i hi => ptfields (hx i hi).1
    obtain ⟨g, hg⟩ := choose_lt q
    refine ⟨some a, n, cap, (List.range n).map g, hcs, by simp, hl, hm, (fun h => by cases h), fun i hi => ?_, fun hn => ?_⟩
    · have e : ptg ((List.range n).map g) i = g i := by simp [ptg, hi]
      rw [e]
      exact ptwf_of (by rw [← hg i (by omega)]; exact (hx i (by omega)).2.2)
    · obtain ⟨b, off, spot⟩ := a
      have h0 := (hx 0 (by omega)).2.1 0 (by omega)
      have hspot : spot = none := by simpa [Addr.add] using World.cell?_spot h0
      subst hspot
      refine ⟨b, off, rfl, by simpa [Addr.add] using World.block_lt_of_cell? W _ h0, fun i hi c hcc => ?_⟩
      have hi' : i < n := by simpa using hi
      have e : ptg ((List.range n).map g) i = g i := by simp [ptg, hi']
      have := (hx i (by omega)).2.1 c hcc
      rw [add_plain, hg i (by omega)] at this
      rw [e, Nat.add_assoc, this]
      obtain rfl | rfl : c = 0 ∨ c = 1 := by omega
      all_goals rfl

end Go.Proofs.YtdgfkcobhhlfbaaGreat
