/- Rows of the call's own: Part. -/
import Derived.Test.YtdgfkcobhhlfbaaGreatPartIn
import Derived.Maps.AppendAt
import Derived.Lib.SmallJoins
import Derived.Sort.Grow
namespace Go.Proofs.YtdgfkcobhhlfbaaGreat
open Go.RowKit Go.Sort

theorem ptl_len (x : Pt) : (ptl x).length = 2 := rfl

theorem ptl_one (x : Pt) : ∀ v ∈ ptl x, v.oneCell' = true := by
  intro v hv
  simp [ptl] at hv
  rcases hv with rfl | rfl <;> rfl

theorem ptl_at (x : Pt) (c : Nat) (h : c < 2) : (ptl x)[c]! = .int .i64 (ptc x c) := by
  obtain rfl | rfl : c = 0 ∨ c = 1 := by omega
  all_goals rfl

theorem ptg_arr [Inhabited Pt] (d : Array Pt) (i : Nat) (h : i < d.size) : ptg d.toList i = d[i]! := by
  rw [getElem!_pos d i h]
  simp [ptg, h]

def ptcells (l : List Pt) : List Value := l.flatMap ptl

theorem ptcells_len : ∀ l : List Pt, (ptcells l).length = l.length * 2
  | [] => rfl
  | x :: r => by
    have := ptcells_len r
    show (ptl x ++ ptcells r).length = (r.length + 1) * 2
    rw [List.length_append, ptl_len]; omega

theorem ptcells_at : ∀ (l : List Pt) (i c : Nat), i < l.length → c < 2 → (ptcells l)[i * 2 + c]? = some (.int .i64 (ptc (ptg l i) c))
  | x :: r, 0, c, _, hc => by
    show (ptl x ++ ptcells r)[0 * 2 + c]? = _
    rw [List.getElem?_append_left (by rw [ptl_len]; omega)]
    obtain rfl | rfl : c = 0 ∨ c = 1 := by omega
    all_goals rfl
  | x :: r, i + 1, c, h, hc => by
    show (ptl x ++ ptcells r)[(i + 1) * 2 + c]? = _
    rw [List.getElem?_append_right (by rw [ptl_len]; omega), ptl_len, show (i + 1) * 2 + c - 2 = i * 2 + c by omega]
    exact ptcells_at r i c (by simpa using h) hc

theorem ptcells_one (l : List Pt) : ∀ v ∈ ptcells l, v.oneCell' = true := by
  intro v hv
  obtain ⟨x, _, hx⟩ := List.mem_flatMap.1 hv
  exact ptl_one x v hx

theorem ptcells_get {l : List Pt} {j : Nat} {v : Value} (h : (ptcells l)[j]? = some v) : j / 2 < l.length ∧ v = .int .i64 (ptc (ptg l (j / 2)) (j % 2)) := by
  have hl := ptcells_len l
  have hjl : j < l.length * 2 := by
    rcases Nat.lt_or_ge j (ptcells l).length with h1 | h1
    · omega
    · rw [List.getElem?_eq_none h1] at h; cases h
  have h1 := ptcells_at l (j / 2) (j % 2) (by omega) (by omega)
  rw [show j / 2 * 2 + j % 2 = j by omega, h] at h1
  exact ⟨by omega, Option.some.inj h1⟩

structure OwnPart (w : World) (base g cap : Nat) (ys : List Pt) : Prop where
  own : w.ownsRow base 85 2 (.slice (some ⟨g, 0, none⟩) ys.length cap) ys.length (ptcells ys)
  le : ys.length ≤ cap
  mx : cap ≤ maxLen
  base : base ≤ g
  lt : g < w.heap.size

theorem ownPart_of {w : World} {base : Nat} {v : Value} {m : Nat} {xs : List Value} {ys : List Pt} (h : w.ownsRow base 85 2 v m xs) (hm : m = ys.length) (hx : xs = ptcells ys) (hv : v ≠ .slice none 0 0) :
    ∃ g cap, v = .slice (some ⟨g, 0, none⟩) ys.length cap ∧ OwnPart w base g cap ys := by
  subst hm hx
  have hl := h.lt
  rcases h.2 with ⟨rfl, h0⟩ | ⟨g, cap, cur, rfl, hb, hg, h1, h2, h3⟩
  · exact absurd rfl hv
  · exact ⟨g, cap, rfl, h, h1, h2, hb, (hl g rfl).2⟩

theorem ownPart_of' {w : World} {base : Nat} {v : Value} {m : Nat} {xs : List Value} {ys : List Pt} (h : w.ownsRow base 85 2 v m xs) (hm : m = ys.length) (hx : xs = ptcells ys) (hv : v ≠ .slice none 0 0) :
    ∃ g cap, v = .slice (some ⟨g, 0, none⟩) m cap ∧ OwnPart w base g cap ys := by
  obtain ⟨g, cap, e, h1⟩ := ownPart_of h hm hx hv
  exact ⟨g, cap, by rw [e, hm], h1⟩

theorem OwnPart.below {w w' : World} {base g cap : Nat} {ys : List Pt} (h : OwnPart w base g cap ys) (hb : Below w.heap.size w w') : OwnPart w' base g cap ys := by
  refine ⟨⟨h.own.1, ?_⟩, h.le, h.mx, h.base, Nat.lt_of_lt_of_le h.lt hb.size⟩
  rcases h.own.2 with ⟨e, _⟩ | ⟨g', cap', cur, e, hg, hgg, r⟩
  · cases e
  · have hl := h.own.lt g rfl
    refine .inr ⟨g', cap', cur, e, hg, ?_, r⟩
    injection e with e1 _ _
    injection e1 with e1
    injection e1 with e1 _ _
    subst e1
    exact (hb.block g hl.2).trans hgg

theorem OwnPart.at_ {w : World} {base g cap : Nat} {ys : List Pt} (h : OwnPart w base g cap ys) : PartAt w g 0 ys := by
  intro i hi c hc
  have := World.ownsRow.cells h.own (g := g) rfl (i * 2 + c) _ (ptcells_at ys i c hi hc)
  have hadd : (⟨g, 0, none⟩ : Addr).add (i * 2 + c) = ⟨g, i * 2 + c, none⟩ := by unfold Addr.add; split <;> simp_all
  rw [hadd] at this
  rw [Nat.zero_add]; exact this

theorem OwnPart.toS {w : World} {base g cap : Nat} {ys : List Pt} (h : OwnPart w base g cap ys) (wf : ∀ i, i < ys.length → ptwf (ptg ys i)) : PartS w (some ⟨g, 0, none⟩) ys.length cap ys :=
  ⟨rfl, h.le, h.mx, (fun e => by cases e), wf, fun _ => ⟨g, 0, rfl, h.lt, h.at_⟩⟩

theorem ptcells_app (a b : List Pt) : ptcells (a ++ b) = ptcells a ++ ptcells b := by simp [ptcells]

theorem OwnPart.pre {w : World} {base g cap : Nat} {ys : List Pt} (h : OwnPart w base g cap ys) {k : Nat} (hk : k ≤ ys.length) :
    w.ownsRow base 85 2 (.slice (some ⟨g, 0, none⟩) k cap) k (ptcells (ys.take k)) := by
  refine ⟨by rw [ptcells_len]; simp; omega, ?_⟩
  rcases h.own.2 with ⟨e, _⟩ | ⟨g', cap', cur, e, hg, hgg, h1, h2, h3, h4⟩
  · cases e
  · injection e with e1 _ e3
    injection e1 with e1
    injection e1 with e1 _ _
    subst e1 e3
    refine .inr ⟨g, cap, cur, rfl, hg, hgg, by omega, h2, h3, ?_⟩
    have e : ptcells ys = ptcells (ys.take k) ++ ptcells (ys.drop k) := by
      rw [← ptcells_app, List.take_append_drop]
    have el : (ptcells (ys.take k)).length = k * 2 := by rw [ptcells_len]; simp; omega
    have : (cur.toList.take (ys.length * 2)).take (k * 2) = (ptcells ys).take (k * 2) := by rw [h4]
    rw [List.take_take, show min (k * 2) (ys.length * 2) = k * 2 by omega] at this
    rw [this, e, ← el, List.take_left]

theorem OwnPart.rest {w : World} {base g cap : Nat} {ys : List Pt} (h : OwnPart w base g cap ys) (k : Nat) : ∀ j u, (ptcells (ys.drop k))[j]? = some u → w.cell? ((⟨g, 0 + k * 2, none⟩ : Addr).add j) = some u := by
  intro j u hj
  obtain ⟨h1, rfl⟩ := ptcells_get hj
  have hlen : (ys.drop k).length = ys.length - k := by simp
  have := h.at_ (k + j / 2) (by omega) (j % 2) (by omega)
  have hadd : (⟨g, 0 + k * 2, none⟩ : Addr).add j = ⟨g, 0 + (k + j / 2) * 2 + j % 2, none⟩ := by
    unfold Addr.add; split
    · rename_i e; subst e; simp
    · simp only [Addr.mk.injEq, and_true, true_and]; omega
  rw [hadd, this]
  have e : ptg (ys.drop k) (j / 2) = ptg ys (k + j / 2) := by simp [ptg]
  rw [e]

theorem newPart_cells (W : World) (j : Pt) (T : TypeId) : ∀ i u, (ptl j)[i]? = some u → ((W.alloc (.cells #[.int .i64 j.node, .int .i64 j.cores] T)).drew).cell? ((⟨W.heap.size, 0, none⟩ : Addr).add i) = some u := by
  intro i u hi
  have hadd : (⟨W.heap.size, 0, none⟩ : Addr).add i = ⟨W.heap.size, i, none⟩ := by unfold Addr.add; split <;> simp_all
  rw [hadd]
  show (W.alloc (.cells #[.int .i64 j.node, .int .i64 j.cores] T)).cell? _ = _
  rw [Joins.cell_alloc_mark_at _ _ _ _ _ _ rfl]
  show (List.toArray (ptl j))[i]? = _
  rw [List.getElem?_toArray]
  exact hi

theorem OwnPart.blk {w w' : World} {base g cap : Nat} {ys : List Pt} (h : OwnPart w base g cap ys) (hb : w'.heap[g]? = w.heap[g]?) : OwnPart w' base g cap ys := by
  have hlt : g < w'.heap.size := by
    rcases h.own.2 with ⟨e, _⟩ | ⟨g', cap', cur, e, hg, hgg, r⟩
    · cases e
    · injection e with e1 _ _
      injection e1 with e1
      injection e1 with e1 _ _
      subst e1
      rw [← hb] at hgg
      exact lt_of_block hgg
  refine ⟨⟨h.own.1, ?_⟩, h.le, h.mx, h.base, hlt⟩
  rcases h.own.2 with ⟨e, _⟩ | ⟨g', cap', cur, e, hg, hgg, r⟩
  · cases e
  · injection e with e1 _ e3
    injection e1 with e1
    injection e1 with e1 _ _
    subst e1 e3
    exact .inr ⟨g, cap, cur, rfl, hg, hb.trans hgg, r⟩

theorem newPart_plain (W : World) (j : Pt) (T : TypeId) : ∀ i u, (ptl j)[i]? = some u → (W.alloc (.cells #[.int .i64 j.node, .int .i64 j.cores] T)).cell? ((⟨W.heap.size, 0, none⟩ : Addr).add i) = some u := by
  intro i u hi
  have hadd : (⟨W.heap.size, 0, none⟩ : Addr).add i = ⟨W.heap.size, i, none⟩ := by unfold Addr.add; split <;> simp_all
  rw [hadd, Joins.cell_alloc_mark_at _ _ _ _ _ _ rfl]
  show (List.toArray (ptl j))[i]? = _
  rw [List.getElem?_toArray]
  exact hi

theorem OwnPart.low {w : World} {base base' g cap : Nat} {ys : List Pt} (h : OwnPart w base g cap ys) (hb : base' ≤ base) : OwnPart w base' g cap ys := by
  refine ⟨⟨h.own.1, ?_⟩, h.le, h.mx, Nat.le_trans hb h.base, h.lt⟩
  rcases h.own.2 with e | ⟨g', cap', cur, e, hg, r⟩
  · exact .inl e
  · exact .inr ⟨g', cap', cur, e, Nat.le_trans hb hg, r⟩

theorem ownPart_own {w : World} {base g cap : Nat} {ys : List Pt} (h : w.ownsRow base 85 2 (.slice (some ⟨g, 0, none⟩) ys.length cap) ys.length (ptcells ys)) : OwnPart w base g cap ys := by
  obtain ⟨g', c', e, O⟩ := ownPart_of (ys := ys) h rfl rfl (fun e => by cases e)
  injection e with e1 _ e3
  injection e1 with e1
  injection e1 with e1 _ _
  subst e1 e3
  exact O

theorem ownPart_nil (w : World) : OwnPart (w.alloc (.cells #[] 85)) w.heap.size w.heap.size 0 [] := ⟨World.ownsRow_made w #[] 0 (Nat.le_refl _) (Nat.zero_le _) rfl, Nat.le_refl _, Nat.zero_le _, Nat.le_refl _, by simp⟩

end Go.Proofs.YtdgfkcobhhlfbaaGreat
