/- A Pass, and a slice of them, that came in, opened. -/
import Derived.Test.YtkakdodamnnplaaPassIn
import Derived.Test.YtkakdodamnnplaaIntsOpen
namespace Go.Proofs.Ytkakdodamnnplaa
open Go.ChangeShapes Go.WideShapes Go.ChangeAt Go.RowKit Go.Joins Go.Deep

theorem pzfields {zs : List Int} (h : zs.length = 3) : ∃ j : Pz, zs = [j.id, j.a, j.b] := by
  match zs, h with
  | [z0, z1, z2], _ => exact ⟨⟨z0, z1, z2⟩, rfl⟩

theorem pzwf_of {j : Pz} (h : ∀ z ∈ [j.id, j.a, j.b], (Lit.int .i64 z).wf = true) : pzwf j := by
  intro c hc
  obtain rfl | rfl | rfl : c = 0 ∨ c = 1 ∨ c = 2 := by omega
  all_goals exact bounds_i64 (h _ (by simp [pzc]))

theorem fieldsPass : ∃ fs, Try.prog.underlying 51 = some (.struct fs) ∧ fs.size = 3 ∧ allInts Try.prog fs := by
  refine ⟨_, Try.underlying51, rfl, fun i f hf => ?_⟩
  have hi : i < 3 := by
    rcases Nat.lt_or_ge i 3 with h | h
    · exact h
    · rw [Array.getElem?_eq_none (by simpa using h)] at hf; cases hf
  obtain rfl | rfl | rfl : i = 0 ∨ i = 1 ∨ i = 2 := by omega
  all_goals (simp at hf; subst hf; exact ⟨Try.underlying2, rfl, by kernel_rfl⟩)

theorem cellsPass : Try.prog.cellsOf 51 = 3 := by kernel_rfl

set_option maxRecDepth 8000 in
theorem open_pz {H : Type} {enc : TypeId × Value → H} {W : World} {b0 : Nat} {v : Value} {d : DataW H} {p : List MemPlace}
    (hv : Value.okWide Try.prog W .any b0 51 v) (h : DataW.Trod enc Try.prog W 0 (fun _ => true) true 51 v d p) :
    ∃ j : Pz, v = .agg #[.int .i64 j.id, .int .i64 j.a, .int .i64 j.b] ∧ pzwf j := by
  obtain ⟨fs, hu, hz, hall⟩ := fieldsPass
  obtain ⟨zs, hl, rfl, hw⟩ := open_ints_agg hu hall (cellsPass.trans hz.symm) hv h
  obtain ⟨j, rfl⟩ := pzfields (hl.trans hz)
  exact ⟨j, rfl, pzwf_of hw⟩

set_option maxRecDepth 8000 in
theorem open_pzs {H : Type} {enc : TypeId × Value → H} {W : World} {b0 : Nat} {v : Value} {d : DataW H} {p : List MemPlace}
    (hv : Value.okWide Try.prog W .any b0 35 v) (h : DataW.Trod enc Try.prog W 0 (fun _ => true) true 35 v d p) :
    ∃ (a : Option Addr) (n cap : Nat) (ls : List Pz), v = .slice a n cap ∧ PassS W a n cap ls := by
  obtain ⟨fs, hu, hz, hall⟩ := fieldsPass
  obtain ⟨a0, n0, cap0, rfl⟩ := okWide_slice Try.underlying35 hv
  obtain ⟨fuel, hf⟩ := h
  simp only [Value.cells] at hf
  rcases open_ints_slice Try.underlying35 hu hall (cellsPass.trans hz.symm) hf with hcs | ⟨a, n, cap, Z, hcs, hl, hm, hx⟩
  · exact ⟨none, 0, 0, [], hcs, rfl, Nat.le_refl _, Nat.zero_le _, fun _ => rfl, fun i hi => by omega, fun hi => by omega⟩
  · rw [hz] at hx
    haveI : Inhabited Pz := ⟨pz0⟩
    have q : ∀ i, i < cap → ∃ j : Pz, Z i = [j.id, j.a, j.b] := fun i hi => pzfields (hx i hi).1
    obtain ⟨g, hg⟩ := choose_lt q
    refine ⟨some a, n, cap, (List.range n).map g, hcs, by simp, hl, hm, (fun h => by cases h), fun i hi => ?_, fun hn => ?_⟩
    · have e : pzg ((List.range n).map g) i = g i := by simp [pzg, hi]
      rw [e]
      exact pzwf_of (by rw [← hg i (by omega)]; exact (hx i (by omega)).2.2)
    · obtain ⟨b, off, spot⟩ := a
      have h0 := (hx 0 (by omega)).2.1 0 (by omega)
      have hspot : spot = none := by simpa [Addr.add] using World.cell?_spot h0
      subst hspot
      refine ⟨b, off, rfl, by simpa [Addr.add] using World.block_lt_of_cell? W _ h0, fun i hi c hcc => ?_⟩
      have hi' : i < n := by simpa using hi
      have e : pzg ((List.range n).map g) i = g i := by simp [pzg, hi']
      have := (hx i (by omega)).2.1 c hcc
      rw [add_plain, hg i (by omega)] at this
      rw [e, Nat.add_assoc, this]
      obtain rfl | rfl | rfl : c = 0 ∨ c = 1 ∨ c = 2 := by omega
      all_goals rfl

end Go.Proofs.Ytkakdodamnnplaa
