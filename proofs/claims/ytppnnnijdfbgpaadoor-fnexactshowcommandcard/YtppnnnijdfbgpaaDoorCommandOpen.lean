/- A Command, and a slice of them, that came in, opened. -/
import Derived.Test.YtppnnnijdfbgpaaDoorCommandIn
import Derived.Test.YtppnnnijdfbgpaaDoorIntsOpen
namespace Go.Proofs.YtppnnnijdfbgpaaDoor
open Go.ChangeShapes Go.WideShapes Go.ChangeAt Go.RowKit Go.Joins Go.Deep

theorem cmfields {zs : List Int} (h : zs.length = 4) : ∃ j : Cm, zs = [j.kind, j.a, j.b, j.c] := by
  match zs, h with
  | [z0, z1, z2, z3], _ => exact ⟨⟨z0, z1, z2, z3⟩, rfl⟩

theorem cmwf_of {j : Cm} (h : ∀ z ∈ [j.kind, j.a, j.b, j.c], (Lit.int .i64 z).wf = true) : cmwf j := by
  intro c hc
  obtain rfl | rfl | rfl | rfl : c = 0 ∨ c = 1 ∨ c = 2 ∨ c = 3 := by omega
  all_goals exact bounds_i64 (h _ (by simp [cmc]))

theorem fieldsCommand : ∃ fs, Tryd.prog.underlying 32 = some (.struct fs) ∧ fs.size = 4 ∧ allInts Tryd.prog fs := by
  refine ⟨_, Tryd.underlying32, rfl, fun i f hf => ?_⟩
  have hi : i < 4 := by
    rcases Nat.lt_or_ge i 4 with h | h
    · exact h
    · rw [Array.getElem?_eq_none (by simpa using h)] at hf; cases hf
  obtain rfl | rfl | rfl | rfl : i = 0 ∨ i = 1 ∨ i = 2 ∨ i = 3 := by omega
  all_goals (simp at hf; subst hf; exact ⟨Tryd.underlying2, rfl, by kernel_rfl⟩)

theorem cellsCommand : Tryd.prog.cellsOf 32 = 4 := by kernel_rfl

set_option maxRecDepth 8000 in
theorem open_cm {H : Type} {enc : TypeId × Value → H} {W : World} {b0 : Nat} {v : Value} {d : DataW H} {p : List MemPlace}
    (hv : Value.okWide Tryd.prog W .any b0 32 v) (h : DataW.Trod enc Tryd.prog W 0 (fun _ => true) true 32 v d p) :
    ∃ j : Cm, v = .agg #[.int .i64 j.kind, .int .i64 j.a, .int .i64 j.b, .int .i64 j.c] ∧ cmwf j := by
  obtain ⟨fs, hu, hz, hall⟩ := fieldsCommand
  obtain ⟨zs, hl, rfl, hw⟩ := open_ints_agg hu hall (cellsCommand.trans hz.symm) hv h
  obtain ⟨j, rfl⟩ := cmfields (hl.trans hz)
  exact ⟨j, rfl, cmwf_of hw⟩

end Go.Proofs.YtppnnnijdfbgpaaDoor
