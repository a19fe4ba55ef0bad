/- A job, and a slice of jobs, that came in, opened. -/
import Derived.Test.YtcmpenlgkccgkaaPkD
import Derived.Test.YtcmpenlgkccgkaaIntsOpen
namespace Go.Proofs.Ytcmpenlgkccgkaa
open Go.ChangeShapes Go.WideShapes Go.ChangeAt Go.RowKit Go.Joins Go.Deep

theorem seven {zs : List Int} (h : zs.length = 7) : ∃ j : Jb, zs = [j.id, j.cores, j.long, j.due, j.wt, j.rank, j.at_] := by
  match zs, h with
  | [z0, z1, z2, z3, z4, z5, z6], _ => exact ⟨⟨z0, z1, z2, z3, z4, z5, z6⟩, rfl⟩

theorem jwf_of {j : Jb} (h : ∀ z ∈ [j.id, j.cores, j.long, j.due, j.wt, j.rank, j.at_], (Lit.int .i64 z).wf = true) : jwf j := by
  intro c hc
  obtain rfl | rfl | rfl | rfl | rfl | rfl | rfl : c = 0 ∨ c = 1 ∨ c = 2 ∨ c = 3 ∨ c = 4 ∨ c = 5 ∨ c = 6 := by omega
  all_goals exact bounds_i64 (h _ (by simp [jc]))

theorem fieldsJob : ∃ fs, Try.prog.underlying 60 = some (.struct fs) ∧ fs.size = 7 ∧ allInts Try.prog fs := by
  refine ⟨_, Try.underlying60, rfl, fun i f hf => ?_⟩
  have hi : i < 7 := by
    rcases Nat.lt_or_ge i 7 with h | h
    · exact h
    · rw [Array.getElem?_eq_none (by simpa using h)] at hf; cases hf
  obtain rfl | rfl | rfl | rfl | rfl | rfl | rfl : i = 0 ∨ i = 1 ∨ i = 2 ∨ i = 3 ∨ i = 4 ∨ i = 5 ∨ i = 6 := by omega
  all_goals (simp at hf; subst hf; exact ⟨Try.underlying2, rfl, by kernel_rfl⟩)

theorem cellsJob : Try.prog.cellsOf 60 = 7 := by kernel_rfl

set_option maxRecDepth 8000 in
theorem open_job {H : Type} {enc : TypeId × Value → H} {W : World} {b0 : Nat} {v : Value} {d : DataW H} {p : List MemPlace}
    (hv : Value.okWide Try.prog W .any b0 60 v) (h : DataW.Trod enc Try.prog W 0 (fun _ => true) true 60 v d p) :
    ∃ j : Jb, v = .agg #[.int .i64 j.id, .int .i64 j.cores, .int .i64 j.long, .int .i64 j.due, .int .i64 j.wt, .int .i64 j.rank, .int .i64 j.at_] ∧ jwf j := by
  obtain ⟨fs, hu, hz, hall⟩ := fieldsJob
  obtain ⟨zs, hl, rfl, hw⟩ := open_ints_agg hu hall (cellsJob.trans hz.symm) hv h
  obtain ⟨j, rfl⟩ := seven (hl.trans hz)
  exact ⟨j, rfl, jwf_of hw⟩

set_option maxRecDepth 8000 in
theorem open_jobs {H : Type} {enc : TypeId × Value → H} {W : World} {b0 : Nat} {v : Value} {d : DataW H} {p : List MemPlace}
    (hv : Value.okWide Try.prog W .any b0 22 v) (h : DataW.Trod enc Try.prog W 0 (fun _ => true) true 22 v d p) :
    ∃ (a : Option Addr) (n cap : Nat) (ls : List Jb), v = .slice a n cap ∧ JobS W a n cap ls := by
  obtain ⟨fs, hu, hz, hall⟩ := fieldsJob
  obtain ⟨a0, n0, cap0, rfl⟩ := okWide_slice Try.underlying22 hv
  obtain ⟨fuel, hf⟩ := h
  simp only [Value.cells] at hf
  rcases open_ints_slice Try.underlying22 hu hall (cellsJob.trans hz.symm) hf with hcs | ⟨a, n, cap, Z, hcs, hl, hm, hx⟩
  · exact ⟨none, 0, 0, [], hcs, rfl, Nat.le_refl _, Nat.zero_le _, fun _ => rfl, fun i hi => by omega, fun hi => by omega⟩
  · rw [hz] at hx
    haveI : Inhabited Jb := ⟨jb0⟩
    have q : ∀ i, i < cap → ∃ j : Jb, Z i = [j.id, j.cores, j.long, j.due, j.wt, j.rank, j.at_] := fun i hi => seven (hx i hi).1
    obtain ⟨g, hg⟩ := choose_lt q
    refine ⟨some a, n, cap, (List.range n).map g, hcs, by simp, hl, hm, (fun h => by cases h), fun i hi => ?_, fun hn => ?_⟩
    · have e : jg ((List.range n).map g) i = g i := by simp [jg, hi]
      rw [e]
      exact jwf_of (by rw [← hg i (by omega)]; exact (hx i (by omega)).2.2)
    · obtain ⟨b, off, spot⟩ := a
      have h0 := (hx 0 (by omega)).2.1 0 (by omega)
      have hspot : spot = none := by simpa [Addr.add] using World.cell?_spot h0
      subst hspot
      refine ⟨b, off, rfl, by simpa [Addr.add] using World.block_lt_of_cell? W _ h0, fun i hi c hcc => ?_⟩
      have hi' : i < n := by simpa using hi
      have e : jg ((List.range n).map g) i = g i := by simp [jg, hi']
      have := (hx i (by omega)).2.1 c hcc
      rw [add_plain, hg i (by omega)] at this
      rw [e, Nat.add_assoc, this]
      obtain rfl | rfl | rfl | rfl | rfl | rfl | rfl : c = 0 ∨ c = 1 ∨ c = 2 ∨ c = 3 ∨ c = 4 ∨ c = 5 ∨ c = 6 := by omega
      all_goals rfl

end Go.Proofs.Ytcmpenlgkccgkaa
