/- A job, and a slice of jobs, that came in, opened. -/
import Derived.Test.YtdgfkcobhhlfbaaGreatJobIn
import Derived.Test.YtdgfkcobhhlfbaaGreatIntsOpen
namespace Go.Proofs.YtdgfkcobhhlfbaaGreat
open Go.ChangeShapes Go.WideShapes Go.ChangeAt Go.RowKit Go.Joins Go.Deep

theorem seven {zs : List Int} (h : zs.length = 7) : ∃ j : Jb, zs = [j.id, j.cores, j.long, j.due, j.wt, j.rank, j.at_] := by
  match zs, h with
  | [z0, z1, z2, z3, z4, z5, z6], _ => exact ⟨⟨z0, z1, z2, z3, z4, z5, z6⟩, rfl⟩

theorem jwf_of {j : Jb} (h : ∀ z ∈ [j.id, j.cores, j.long, j.due, j.wt, j.rank, j.at_], (Lit.int .i64 z).wf = true) : jwf j := by
  intro c hc
  obtain rfl | rfl | rfl | rfl | rfl | rfl | rfl : c = 0 ∨ c = 1 ∨ c = 2 ∨ c = 3 ∨ c = 4 ∨ c = 5 ∨ c = 6 := by omega
  all_goals exact bounds_i64 (h _ (by simp [jc]))

theorem fieldsJob : ∃ fs, Tryz.prog.underlying 55 = some (.struct fs) ∧ fs.size = 7 ∧ allInts Tryz.prog fs := by
  refine ⟨_, Tryz.underlying55, rfl, fun i f hf => ?_⟩
  have hi : i < 7 := by
    rcases Nat.lt_or_ge i 7 with h | h
    · exact h
    · rw [Array.getElem?_eq_none (by simpa using h)] at hf; cases hf
  obtain rfl | rfl | rfl | rfl | rfl | rfl | rfl : i = 0 ∨ i = 1 ∨ i = 2 ∨ i = 3 ∨ i = 4 ∨ i = 5 ∨ i = 6 := by omega
  all_goals (simp at hf; subst hf; exact ⟨Tryz.underlying2, rfl, by kernel_rfl⟩)

theorem cellsJob : Tryz.prog.cellsOf 55 = 7 := by kernel_rfl

set_option maxRecDepth 8000 in
theorem open_job {H : Type} {enc : TypeId × Value → H} {W : World} {b0 : Nat} {v : Value} {d : DataW H} {p : List MemPlace}
    (hv : Value.okWide Tryz.prog W .any b0 55 v) (h : DataW.Trod enc Tryz.prog W 0 (fun _ => true) true 55 v d p) :
    ∃ j : Jb, v = .agg #[.int .i64 j.id, .int .i64 j.cores, .int .i64 j.long, .int .i64 j.due, .int .i64 j.wt, .int .i64 j.rank, .int .i64 j.at_] ∧ jwf j := by
  obtain ⟨fs, hu, hz, hall⟩ := fieldsJob
  obtain ⟨zs, hl, rfl, hw⟩ := open_ints_agg hu hall (cellsJob.trans hz.symm) hv h
  obtain ⟨j, rfl⟩ := seven (hl.trans hz)
  exact ⟨j, rfl, jwf_of hw⟩

end Go.Proofs.YtdgfkcobhhlfbaaGreat
