/- One number of one Piece in a row turned. -/
import Derived.Test.YtnndkdonbjeejaaPieceMark
namespace Go.Proofs.Ytnndkdonbjeejaa
open Go.RowKit Go.Sort

/-- one number turned -/
def pcset (j : Pc) (f : Nat) (z : Int) : Pc :=
  match f with
  | 0 => ⟨z, j.mac, j.fr, j.up⟩
  | 1 => ⟨j.job, z, j.fr, j.up⟩
  | 2 => ⟨j.job, j.mac, z, j.up⟩
  | _ => ⟨j.job, j.mac, j.fr, z⟩

theorem pcset_c (j : Pc) (f c : Nat) (z : Int) (hf : f < 4) (hc : c < 4) : pcc (pcset j f z) c = if c = f then z else pcc j c := by
  obtain rfl | rfl | rfl | rfl : f = 0 ∨ f = 1 ∨ f = 2 ∨ f = 3 := by omega
  all_goals
    obtain rfl | rfl | rfl | rfl : c = 0 ∨ c = 1 ∨ c = 2 ∨ c = 3 := by omega
    all_goals rfl

theorem pccells_set (ys : List Pc) (i f : Nat) (z : Int) (hi : i < ys.length) (hf : f < 4) : pccells (ys.set i (pcset (pcg ys i) f z)) = (pccells ys).set (i * 4 + f) (.int .i64 z) := by
  have hl := pccells_len ys
  apply List.ext_getElem?
  intro j
  by_cases hj : j < ys.length * 4
  · have hj1 : j / 4 < ys.length := by omega
    have e1 := pccells_at (ys.set i (pcset (pcg ys i) f z)) (j / 4) (j % 4) (by simp; omega) (by omega)
    have e2 := pccells_at ys (j / 4) (j % 4) hj1 (by omega)
    rw [show j / 4 * 4 + j % 4 = j by omega] at e1 e2
    rw [e1, List.getElem?_set, e2]
    by_cases hji : j / 4 = i
    · have eg : pcg (ys.set i (pcset (pcg ys i) f z)) (j / 4) = pcset (pcg ys i) f z := by rw [hji]; simp [pcg, hi]
      rw [eg, pcset_c _ _ _ _ hf (by omega), hji]
      by_cases hc : j % 4 = f
      · rw [if_pos hc, if_pos (by omega), if_pos (by omega)]
      · rw [if_neg hc, if_neg (by omega)]
    · have eg : pcg (ys.set i (pcset (pcg ys i) f z)) (j / 4) = pcg ys (j / 4) := by
        simp only [pcg]; rw [List.getElem?_set_ne (by omega)]
      rw [eg, if_neg (by omega)]
  · rw [List.getElem?_eq_none (by rw [pccells_len]; simp; omega), List.getElem?_eq_none (by simp; omega)]

theorem OwnPiece.store {w : World} {base g cap : Nat} {ys : List Pc} (h : OwnPiece w base g cap ys) {i f : Nat} (hi : i < ys.length) (hf : f < 4) (z : Int) : OwnPiece (w.setCell ⟨g, i * 4 + f, none⟩ (.int .i64 z)) base g cap (ys.set i (pcset (pcg ys i) f z)) := by
  have hlen : (ys.set i (pcset (pcg ys i) f z)).length = ys.length := by simp
  refine ⟨?_, by rw [hlen]; exact h.le, h.mx, h.base, by simpa [World.setCell] using h.lt⟩
  rw [hlen, pccells_set ys i f z hi hf]
  refine ⟨by simpa using h.own.1, ?_⟩
  rcases h.own.2 with ⟨e, _⟩ | ⟨g', cap', cur, e, hg, hgg, h1, h2, h3, h4⟩
  · cases e
  · injection e with e1 _ e3
    injection e1 with e1
    injection e1 with e1 _ _
    subst e1 e3
    refine .inr ⟨g, cap, _, rfl, hg, blk_set hgg _, h1, h2, by simpa using h3, ?_⟩
    rw [← h4, Array.toList_setIfInBounds, List.take_set]

theorem pcset_wf {j : Pc} (h : pcwf j) {f : Nat} (hf : f < 4) {z : Int} (h0 : -9223372036854775808 ≤ z) (h1 : z ≤ 9223372036854775807) : pcwf (pcset j f z) := by
  intro c hc
  rw [pcset_c j f c z hf hc]
  split
  · omega
  · exact h c hc
def allWfPiece (ys : List Pc) : Prop := ∀ y ∈ ys, pcwf y
theorem allWfPiece.set {ys : List Pc} (h : allWfPiece ys) {i f : Nat} (hi : i < ys.length) (hf : f < 4) {z : Int} (h0 : -9223372036854775808 ≤ z) (h1 : z ≤ 9223372036854775807) : allWfPiece (ys.set i (pcset (pcg ys i) f z)) := by
  intro y hy
  rcases List.mem_or_eq_of_mem_set hy with h2 | rfl
  · exact h y h2
  · exact pcset_wf (by rw [pcg_get hi]; exact h _ (List.getElem_mem hi)) hf h0 h1
theorem allWfPiece.wf {ys : List Pc} (h : allWfPiece ys) : ∀ i, i < ys.length → pcwf (pcg ys i) := fun i hi => by
  rw [pcg_get hi]; exact h _ (List.getElem_mem hi)

end Go.Proofs.Ytnndkdonbjeejaa
