/- One number of one Node in a row turned. -/
import Derived.Test.YtkkbfblgnejonaaNodeMark
namespace Go.Proofs.Ytkkbfblgnejonaa
open Go.RowKit Go.Sort

/-- one number turned -/
def ndset (j : Nd) (f : Nat) (z : Int) : Nd :=
  match f with
  | 0 => ⟨z, j.state⟩
  | _ => ⟨j.cores, z⟩

theorem ndset_c (j : Nd) (f c : Nat) (z : Int) (hf : f < 2) (hc : c < 2) : ndc (ndset j f z) c = if c = f then z else ndc j c := by
  obtain rfl | rfl : f = 0 ∨ f = 1 := by omega
  all_goals
    obtain rfl | rfl : c = 0 ∨ c = 1 := by omega
    all_goals rfl

theorem ndcells_set (ys : List Nd) (i f : Nat) (z : Int) (hi : i < ys.length) (hf : f < 2) : ndcells (ys.set i (ndset (ndg ys i) f z)) = (ndcells ys).set (i * 2 + f) (.int .i64 z) := by
  have hl := ndcells_len ys
  apply List.ext_getElem?
  intro j
  by_cases hj : j < ys.length * 2
  · have hj1 : j / 2 < ys.length := by omega
    have e1 := ndcells_at (ys.set i (ndset (ndg ys i) f z)) (j / 2) (j % 2) (by simp; omega) (by omega)
    have e2 := ndcells_at ys (j / 2) (j % 2) hj1 (by omega)
    rw [show j / 2 * 2 + j % 2 = j by omega] at e1 e2
    rw [e1, List.getElem?_set, e2]
    by_cases hji : j / 2 = i
    · have eg : ndg (ys.set i (ndset (ndg ys i) f z)) (j / 2) = ndset (ndg ys i) f z := by rw [hji]; simp [ndg, hi]
      rw [eg, ndset_c _ _ _ _ hf (by omega), hji]
      by_cases hc : j % 2 = f
      · rw [if_pos hc, if_pos (by omega), if_pos (by omega)]
      · rw [if_neg hc, if_neg (by omega)]
    · have eg : ndg (ys.set i (ndset (ndg ys i) f z)) (j / 2) = ndg ys (j / 2) := by
        simp only [ndg]; rw [List.getElem?_set_ne (by omega)]
      rw [eg, if_neg (by omega)]
  · rw [List.getElem?_eq_none (by rw [ndcells_len]; simp; omega), List.getElem?_eq_none (by simp; omega)]

theorem OwnNode.store {w : World} {base g cap : Nat} {ys : List Nd} (h : OwnNode w base g cap ys) {i f : Nat} (hi : i < ys.length) (hf : f < 2) (z : Int) : OwnNode (w.setCell ⟨g, i * 2 + f, none⟩ (.int .i64 z)) base g cap (ys.set i (ndset (ndg ys i) f z)) := by
  have hlen : (ys.set i (ndset (ndg ys i) f z)).length = ys.length := by simp
  refine ⟨?_, by rw [hlen]; exact h.le, h.mx, h.base, by simpa [World.setCell] using h.lt⟩
  rw [hlen, ndcells_set ys i f z hi hf]
  refine ⟨by simpa using h.own.1, ?_⟩
  rcases h.own.2 with ⟨e, _⟩ | ⟨g', cap', cur, e, hg, hgg, h1, h2, h3, h4⟩
  · cases e
  · injection e with e1 _ e3
    injection e1 with e1
    injection e1 with e1 _ _
    subst e1 e3
    refine .inr ⟨g, cap, _, rfl, hg, blk_set hgg _, h1, h2, by simpa using h3, ?_⟩
    rw [← h4, Array.toList_setIfInBounds, List.take_set]

theorem ndset_wf {j : Nd} (h : ndwf j) {f : Nat} (hf : f < 2) {z : Int} (h0 : -9223372036854775808 ≤ z) (h1 : z ≤ 9223372036854775807) : ndwf (ndset j f z) := by
  intro c hc
  rw [ndset_c j f c z hf hc]
  split
  · omega
  · exact h c hc
def allWfNode (ys : List Nd) : Prop := ∀ y ∈ ys, ndwf y
theorem allWfNode.set {ys : List Nd} (h : allWfNode ys) {i f : Nat} (hi : i < ys.length) (hf : f < 2) {z : Int} (h0 : -9223372036854775808 ≤ z) (h1 : z ≤ 9223372036854775807) : allWfNode (ys.set i (ndset (ndg ys i) f z)) := by
  intro y hy
  rcases List.mem_or_eq_of_mem_set hy with h2 | rfl
  · exact h y h2
  · exact ndset_wf (by rw [ndg_get hi]; exact h _ (List.getElem_mem hi)) hf h0 h1
theorem allWfNode.wf {ys : List Nd} (h : allWfNode ys) : ∀ i, i < ys.length → ndwf (ndg ys i) := fun i hi => by
  rw [ndg_get hi]; exact h _ (List.getElem_mem hi)

end Go.Proofs.Ytkkbfblgnejonaa
