/- Rows of the call's own: Node. -/
import Derived.Test.YtdgfkcobhhlfbaaGreatNodeIn
import Derived.Maps.AppendAt
import Derived.Lib.SmallJoins
import Derived.Sort.Grow
namespace Go.Proofs.YtdgfkcobhhlfbaaGreat
open Go.RowKit Go.Sort

theorem ndl_len (x : Nd) : (ndl x).length = 2 := rfl

theorem ndl_one (x : Nd) : ∀ v ∈ ndl x, v.oneCell' = true := by
  intro v hv
  simp [ndl] at hv
  rcases hv with rfl | rfl <;> rfl

theorem ndl_at (x : Nd) (c : Nat) (h : c < 2) : (ndl x)[c]! = .int .i64 (ndc x c) := by
  obtain rfl | rfl : c = 0 ∨ c = 1 := by omega
  all_goals rfl

theorem ndg_arr [Inhabited Nd] (d : Array Nd) (i : Nat) (h : i < d.size) : ndg d.toList i = d[i]! := by
  rw [getElem!_pos d i h]
  simp [ndg, h]

def ndcells (l : List Nd) : List Value := l.flatMap ndl

theorem ndcells_len : ∀ l : List Nd, (ndcells l).length = l.length * 2
  | [] => rfl
  | x :: r => by
    have := ndcells_len r
    show (ndl x ++ ndcells r).length = (r.length + 1) * 2
    rw [List.length_append, ndl_len]; omega

theorem ndcells_at : ∀ (l : List Nd) (i c : Nat), i < l.length → c < 2 → (ndcells l)[i * 2 + c]? = some (.int .i64 (ndc (ndg l i) c))
  | x :: r, 0, c, _, hc => by
    show (ndl x ++ ndcells r)[0 * 2 + c]? = _
    rw [List.getElem?_append_left (by rw [ndl_len]; omega)]
    obtain rfl | rfl : c = 0 ∨ c = 1 := by omega
    all_goals rfl
  | x :: r, i + 1, c, h, hc => by
    show (ndl x ++ ndcells r)[(i + 1) * 2 + c]? = _
    rw [List.getElem?_append_right (by rw [ndl_len]; omega), ndl_len, show (i + 1) * 2 + c - 2 = i * 2 + c by omega]
    exact ndcells_at r i c (by simpa using h) hc

theorem ndcells_one (l : List Nd) : ∀ v ∈ ndcells l, v.oneCell' = true := by
  intro v hv
  obtain ⟨x, _, hx⟩ := List.mem_flatMap.1 hv
  exact ndl_one x v hx

theorem ndcells_get {l : List Nd} {j : Nat} {v : Value} (h : (ndcells l)[j]? = some v) : j / 2 < l.length ∧ v = .int .i64 (ndc (ndg l (j / 2)) (j % 2)) := by
  have hl := ndcells_len l
  have hjl : j < l.length * 2 := by
    rcases Nat.lt_or_ge j (ndcells l).length with h1 | h1
    · omega
    · rw [List.getElem?_eq_none h1] at h; cases h
  have h1 := ndcells_at l (j / 2) (j % 2) (by omega) (by omega)
  rw [show j / 2 * 2 + j % 2 = j by omega, h] at h1
  exact ⟨by omega, Option.some.inj h1⟩

structure OwnNode (w : World) (base g cap : Nat) (ys : List Nd) : Prop where
  own : w.ownsRow base 70 2 (.slice (some ⟨g, 0, none⟩) ys.length cap) ys.length (ndcells ys)
  le : ys.length ≤ cap
  mx : cap ≤ maxLen
  base : base ≤ g
  lt : g < w.heap.size

theorem ownNode_of {w : World} {base : Nat} {v : Value} {m : Nat} {xs : List Value} {ys : List Nd} (h : w.ownsRow base 70 2 v m xs) (hm : m = ys.length) (hx : xs = ndcells ys) (hv : v ≠ .slice none 0 0) :
    ∃ g cap, v = .slice (some ⟨g, 0, none⟩) ys.length cap ∧ OwnNode w base g cap ys := by
  subst hm hx
  have hl := h.lt
  rcases h.2 with ⟨rfl, h0⟩ | ⟨g, cap, cur, rfl, hb, hg, h1, h2, h3⟩
  · exact absurd rfl hv
  · exact ⟨g, cap, rfl, h, h1, h2, hb, (hl g rfl).2⟩

theorem ownNode_of' {w : World} {base : Nat} {v : Value} {m : Nat} {xs : List Value} {ys : List Nd} (h : w.ownsRow base 70 2 v m xs) (hm : m = ys.length) (hx : xs = ndcells ys) (hv : v ≠ .slice none 0 0) :
    ∃ g cap, v = .slice (some ⟨g, 0, none⟩) m cap ∧ OwnNode w base g cap ys := by
  obtain ⟨g, cap, e, h1⟩ := ownNode_of h hm hx hv
  exact ⟨g, cap, by rw [e, hm], h1⟩

theorem OwnNode.below {w w' : World} {base g cap : Nat} {ys : List Nd} (h : OwnNode w base g cap ys) (hb : Below w.heap.size w w') : OwnNode w' base g cap ys := by
  refine ⟨⟨h.own.1, ?_⟩, h.le, h.mx, h.base, Nat.lt_of_lt_of_le h.lt hb.size⟩
  rcases h.own.2 with ⟨e, _⟩ | ⟨g', cap', cur, e, hg, hgg, r⟩
  · cases e
  · have hl := h.own.lt g rfl
    refine .inr ⟨g', cap', cur, e, hg, ?_, r⟩
    injection e with e1 _ _
    injection e1 with e1
    injection e1 with e1 _ _
    subst e1
    exact (hb.block g hl.2).trans hgg

theorem OwnNode.at_ {w : World} {base g cap : Nat} {ys : List Nd} (h : OwnNode w base g cap ys) : NodeAt w g 0 ys := by
  intro i hi c hc
  have := World.ownsRow.cells h.own (g := g) rfl (i * 2 + c) _ (ndcells_at ys i c hi hc)
  have hadd : (⟨g, 0, none⟩ : Addr).add (i * 2 + c) = ⟨g, i * 2 + c, none⟩ := by unfold Addr.add; split <;> simp_all
  rw [hadd] at this
  rw [Nat.zero_add]; exact this

theorem OwnNode.toS {w : World} {base g cap : Nat} {ys : List Nd} (h : OwnNode w base g cap ys) (wf : ∀ i, i < ys.length → ndwf (ndg ys i)) : NodeS w (some ⟨g, 0, none⟩) ys.length cap ys :=
  ⟨rfl, h.le, h.mx, (fun e => by cases e), wf, fun _ => ⟨g, 0, rfl, h.lt, h.at_⟩⟩

theorem ndcells_app (a b : List Nd) : ndcells (a ++ b) = ndcells a ++ ndcells b := by simp [ndcells]

theorem OwnNode.pre {w : World} {base g cap : Nat} {ys : List Nd} (h : OwnNode w base g cap ys) {k : Nat} (hk : k ≤ ys.length) :
    w.ownsRow base 70 2 (.slice (some ⟨g, 0, none⟩) k cap) k (ndcells (ys.take k)) := by
  refine ⟨by rw [ndcells_len]; simp; omega, ?_⟩
  rcases h.own.2 with ⟨e, _⟩ | ⟨g', cap', cur, e, hg, hgg, h1, h2, h3, h4⟩
  · cases e
  · injection e with e1 _ e3
    injection e1 with e1
    injection e1 with e1 _ _
    subst e1 e3
    refine .inr ⟨g, cap, cur, rfl, hg, hgg, by omega, h2, h3, ?_⟩
    have e : ndcells ys = ndcells (ys.take k) ++ ndcells (ys.drop k) := by
      rw [← ndcells_app, List.take_append_drop]
    have el : (ndcells (ys.take k)).length = k * 2 := by rw [ndcells_len]; simp; omega
    have : (cur.toList.take (ys.length * 2)).take (k * 2) = (ndcells ys).take (k * 2) := by rw [h4]
    rw [List.take_take, show min (k * 2) (ys.length * 2) = k * 2 by omega] at this
    rw [this, e, ← el, List.take_left]

theorem OwnNode.rest {w : World} {base g cap : Nat} {ys : List Nd} (h : OwnNode w base g cap ys) (k : Nat) : ∀ j u, (ndcells (ys.drop k))[j]? = some u → w.cell? ((⟨g, 0 + k * 2, none⟩ : Addr).add j) = some u := by
  intro j u hj
  obtain ⟨h1, rfl⟩ := ndcells_get hj
  have hlen : (ys.drop k).length = ys.length - k := by simp
  have := h.at_ (k + j / 2) (by omega) (j % 2) (by omega)
  have hadd : (⟨g, 0 + k * 2, none⟩ : Addr).add j = ⟨g, 0 + (k + j / 2) * 2 + j % 2, none⟩ := by
    unfold Addr.add; split
    · rename_i e; subst e; simp
    · simp only [Addr.mk.injEq, and_true, true_and]; omega
  rw [hadd, this]
  have e : ndg (ys.drop k) (j / 2) = ndg ys (k + j / 2) := by simp [ndg]
  rw [e]

theorem newNode_cells (W : World) (j : Nd) (T : TypeId) : ∀ i u, (ndl j)[i]? = some u → ((W.alloc (.cells #[.int .i64 j.cores, .int .i64 j.state] T)).drew).cell? ((⟨W.heap.size, 0, none⟩ : Addr).add i) = some u := by
  intro i u hi
  have hadd : (⟨W.heap.size, 0, none⟩ : Addr).add i = ⟨W.heap.size, i, none⟩ := by unfold Addr.add; split <;> simp_all
  rw [hadd]
  show (W.alloc (.cells #[.int .i64 j.cores, .int .i64 j.state] T)).cell? _ = _
  rw [Joins.cell_alloc_mark_at _ _ _ _ _ _ rfl]
  show (List.toArray (ndl j))[i]? = _
  rw [List.getElem?_toArray]
  exact hi

theorem OwnNode.blk {w w' : World} {base g cap : Nat} {ys : List Nd} (h : OwnNode w base g cap ys) (hb : w'.heap[g]? = w.heap[g]?) : OwnNode w' base g cap ys := by
  have hlt : g < w'.heap.size := by
    rcases h.own.2 with ⟨e, _⟩ | ⟨g', cap', cur, e, hg, hgg, r⟩
    · cases e
    · injection e with e1 _ _
      injection e1 with e1
      injection e1 with e1 _ _
      subst e1
      rw [← hb] at hgg
      exact lt_of_block hgg
  refine ⟨⟨h.own.1, ?_⟩, h.le, h.mx, h.base, hlt⟩
  rcases h.own.2 with ⟨e, _⟩ | ⟨g', cap', cur, e, hg, hgg, r⟩
  · cases e
  · injection e with e1 _ e3
    injection e1 with e1
    injection e1 with e1 _ _
    subst e1 e3
    exact .inr ⟨g, cap, cur, rfl, hg, hb.trans hgg, r⟩

theorem newNode_plain (W : World) (j : Nd) (T : TypeId) : ∀ i u, (ndl j)[i]? = some u → (W.alloc (.cells #[.int .i64 j.cores, .int .i64 j.state] T)).cell? ((⟨W.heap.size, 0, none⟩ : Addr).add i) = some u := by
  intro i u hi
  have hadd : (⟨W.heap.size, 0, none⟩ : Addr).add i = ⟨W.heap.size, i, none⟩ := by unfold Addr.add; split <;> simp_all
  rw [hadd, Joins.cell_alloc_mark_at _ _ _ _ _ _ rfl]
  show (List.toArray (ndl j))[i]? = _
  rw [List.getElem?_toArray]
  exact hi

theorem OwnNode.low {w : World} {base base' g cap : Nat} {ys : List Nd} (h : OwnNode w base g cap ys) (hb : base' ≤ base) : OwnNode w base' g cap ys := by
  refine ⟨⟨h.own.1, ?_⟩, h.le, h.mx, Nat.le_trans hb h.base, h.lt⟩
  rcases h.own.2 with e | ⟨g', cap', cur, e, hg, r⟩
  · exact .inl e
  · exact .inr ⟨g', cap', cur, e, Nat.le_trans hb hg, r⟩

theorem ownNode_own {w : World} {base g cap : Nat} {ys : List Nd} (h : w.ownsRow base 70 2 (.slice (some ⟨g, 0, none⟩) ys.length cap) ys.length (ndcells ys)) : OwnNode w base g cap ys := by
  obtain ⟨g', c', e, O⟩ := ownNode_of (ys := ys) h rfl rfl (fun e => by cases e)
  injection e with e1 _ e3
  injection e1 with e1
  injection e1 with e1 _ _
  subst e1 e3
  exact O

theorem ownNode_nil (w : World) : OwnNode (w.alloc (.cells #[] 70)) w.heap.size w.heap.size 0 [] := ⟨World.ownsRow_made w #[] 0 (Nat.le_refl _) (Nat.zero_le _) rfl, Nat.le_refl _, Nat.zero_le _, Nat.le_refl _, by simp⟩

end Go.Proofs.YtdgfkcobhhlfbaaGreat
