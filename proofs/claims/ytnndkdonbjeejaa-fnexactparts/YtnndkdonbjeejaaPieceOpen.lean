/- A Piece, and a slice of them, that came in, opened. -/
import Derived.Test.YtnndkdonbjeejaaPieceIn
import Derived.Test.YtnndkdonbjeejaaIntsOpen
namespace Go.Proofs.Ytnndkdonbjeejaa
open Go.ChangeShapes Go.WideShapes Go.ChangeAt Go.RowKit Go.Joins Go.Deep

theorem pcfields {zs : List Int} (h : zs.length = 4) : ∃ j : Pc, zs = [j.job, j.mac, j.fr, j.up] := by
  match zs, h with
  | [z0, z1, z2, z3], _ => exact ⟨⟨z0, z1, z2, z3⟩, rfl⟩

theorem pcwf_of {j : Pc} (h : ∀ z ∈ [j.job, j.mac, j.fr, j.up], (Lit.int .i64 z).wf = true) : pcwf j := by
  intro c hc
  obtain rfl | rfl | rfl | rfl : c = 0 ∨ c = 1 ∨ c = 2 ∨ c = 3 := by omega
  all_goals exact bounds_i64 (h _ (by simp [pcc]))

theorem fieldsPiece : ∃ fs, Try.prog.underlying 78 = some (.struct fs) ∧ fs.size = 4 ∧ allInts Try.prog fs := by
  refine ⟨_, Try.underlying78, rfl, fun i f hf => ?_⟩
  have hi : i < 4 := by
    rcases Nat.lt_or_ge i 4 with h | h
    · exact h
    · rw [Array.getElem?_eq_none (by simpa using h)] at hf; cases hf
  obtain rfl | rfl | rfl | rfl : i = 0 ∨ i = 1 ∨ i = 2 ∨ i = 3 := by omega
  all_goals (simp at hf; subst hf; exact ⟨Try.underlying2, rfl, by kernel_rfl⟩)

theorem cellsPiece : Try.prog.cellsOf 78 = 4 := by kernel_rfl

set_option maxRecDepth 8000 in
theorem open_pc {H : Type} {enc : TypeId × Value → H} {W : World} {b0 : Nat} {v : Value} {d : DataW H} {p : List MemPlace}
    (hv : Value.okWide Try.prog W .any b0 78 v) (h : DataW.Trod enc Try.prog W 0 (fun _ => true) true 78 v d p) :
    ∃ j : Pc, v = .agg #[.int .i64 j.job, .int .i64 j.mac, .int .i64 j.fr, .int .i64 j.up] ∧ pcwf j := by
  obtain ⟨fs, hu, hz, hall⟩ := fieldsPiece
  obtain ⟨zs, hl, rfl, hw⟩ := open_ints_agg hu hall (cellsPiece.trans hz.symm) hv h
  obtain ⟨j, rfl⟩ := pcfields (hl.trans hz)
  exact ⟨j, rfl, pcwf_of hw⟩

set_option maxRecDepth 8000 in
theorem open_pcs {H : Type} {enc : TypeId × Value → H} {W : World} {b0 : Nat} {v : Value} {d : DataW H} {p : List MemPlace}
    (hv : Value.okWide Try.prog W .any b0 49 v) (h : DataW.Trod enc Try.prog W 0 (fun _ => true) true 49 v d p) :
    ∃ (a : Option Addr) (n cap : Nat) (ls : List Pc), v = .slice a n cap ∧ PieceS W a n cap ls := by
  obtain ⟨fs, hu, hz, hall⟩ := fieldsPiece
  obtain ⟨a0, n0, cap0, rfl⟩ := okWide_slice Try.underlying49 hv
  obtain ⟨fuel, hf⟩ := h
  simp only [Value.cells] at hf
  rcases open_ints_slice Try.underlying49 hu hall (cellsPiece.trans hz.symm) hf with hcs | ⟨a, n, cap, Z, hcs, hl, hm, hx⟩
  · exact ⟨none, 0, 0, [], hcs, rfl, Nat.le_refl _, Nat.zero_le _, fun _ => rfl, fun i hi => by omega, fun hi => by omega⟩
  · rw [hz] at hx
    haveI : Inhabited Pc := ⟨pc0⟩
    have q : ∀ i, i < cap → ∃ j : Pc, Z i = [j.job, j.mac, j.fr, j.up] := fun i hi => pcfields (hx i hi).1
    obtain ⟨g, hg⟩ := choose_lt q
    refine ⟨some a, n, cap, (List.range n).map g, hcs, by simp, hl, hm, (fun h => by cases h), fun i hi => ?_, fun hn => ?_⟩
    · have e : pcg ((List.range n).map g) i = g i := by simp [pcg, hi]
      rw [e]
      exact pcwf_of (by rw [← hg i (by omega)]; exact (hx i (by omega)).2.2)
    · obtain ⟨b, off, spot⟩ := a
      have h0 := (hx 0 (by omega)).2.1 0 (by omega)
      have hspot : spot = none := by simpa [Addr.add] using World.cell?_spot h0
      subst hspot
      refine ⟨b, off, rfl, by simpa [Addr.add] using World.block_lt_of_cell? W _ h0, fun i hi c hcc => ?_⟩
      have hi' : i < n := by simpa using hi
      have e : pcg ((List.range n).map g) i = g i := by simp [pcg, hi']
      have := (hx i (by omega)).2.1 c hcc
      rw [add_plain, hg i (by omega)] at this
      rw [e, Nat.add_assoc, this]
      obtain rfl | rfl | rfl | rfl : c = 0 ∨ c = 1 ∨ c = 2 ∨ c = 3 := by omega
      all_goals rfl

end Go.Proofs.Ytnndkdonbjeejaa
