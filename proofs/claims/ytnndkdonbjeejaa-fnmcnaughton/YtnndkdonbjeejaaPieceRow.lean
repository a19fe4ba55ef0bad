/- Rows of the call's own: Piece. -/
import Derived.Test.YtnndkdonbjeejaaPieceIn
import Derived.Maps.AppendAt
import Derived.Lib.SmallJoins
import Derived.Sort.Grow
namespace Go.Proofs.Ytnndkdonbjeejaa
open Go.RowKit Go.Sort

theorem pcl_len (x : Pc) : (pcl x).length = 4 := rfl

theorem pcl_one (x : Pc) : ∀ v ∈ pcl x, v.oneCell' = true := by
  intro v hv
  simp [pcl] at hv
  rcases hv with rfl | rfl | rfl | rfl <;> rfl

theorem pcl_at (x : Pc) (c : Nat) (h : c < 4) : (pcl x)[c]! = .int .i64 (pcc x c) := by
  obtain rfl | rfl | rfl | rfl : c = 0 ∨ c = 1 ∨ c = 2 ∨ c = 3 := by omega
  all_goals rfl

theorem pcg_arr [Inhabited Pc] (d : Array Pc) (i : Nat) (h : i < d.size) : pcg d.toList i = d[i]! := by
  rw [getElem!_pos d i h]
  simp [pcg, h]

def pccells (l : List Pc) : List Value := l.flatMap pcl

theorem pccells_len : ∀ l : List Pc, (pccells l).length = l.length * 4
  | [] => rfl
  | x :: r => by
    have := pccells_len r
    show (pcl x ++ pccells r).length = (r.length + 1) * 4
    rw [List.length_append, pcl_len]; omega

theorem pccells_at : ∀ (l : List Pc) (i c : Nat), i < l.length → c < 4 → (pccells l)[i * 4 + c]? = some (.int .i64 (pcc (pcg l i) c))
  | x :: r, 0, c, _, hc => by
    show (pcl x ++ pccells r)[0 * 4 + c]? = _
    rw [List.getElem?_append_left (by rw [pcl_len]; omega)]
    obtain rfl | rfl | rfl | rfl : c = 0 ∨ c = 1 ∨ c = 2 ∨ c = 3 := by omega
    all_goals rfl
  | x :: r, i + 1, c, h, hc => by
    show (pcl x ++ pccells r)[(i + 1) * 4 + c]? = _
    rw [List.getElem?_append_right (by rw [pcl_len]; omega), pcl_len, show (i + 1) * 4 + c - 4 = i * 4 + c by omega]
    exact pccells_at r i c (by simpa using h) hc

theorem pccells_one (l : List Pc) : ∀ v ∈ pccells l, v.oneCell' = true := by
  intro v hv
  obtain ⟨x, _, hx⟩ := List.mem_flatMap.1 hv
  exact pcl_one x v hx

theorem pccells_get {l : List Pc} {j : Nat} {v : Value} (h : (pccells l)[j]? = some v) : j / 4 < l.length ∧ v = .int .i64 (pcc (pcg l (j / 4)) (j % 4)) := by
  have hl := pccells_len l
  have hjl : j < l.length * 4 := by
    rcases Nat.lt_or_ge j (pccells l).length with h1 | h1
    · omega
    · rw [List.getElem?_eq_none h1] at h; cases h
  have h1 := pccells_at l (j / 4) (j % 4) (by omega) (by omega)
  rw [show j / 4 * 4 + j % 4 = j by omega, h] at h1
  exact ⟨by omega, Option.some.inj h1⟩

structure OwnPiece (w : World) (base g cap : Nat) (ys : List Pc) : Prop where
  own : w.ownsRow base 56 4 (.slice (some ⟨g, 0, none⟩) ys.length cap) ys.length (pccells ys)
  le : ys.length ≤ cap
  mx : cap ≤ maxLen
  base : base ≤ g
  lt : g < w.heap.size

theorem ownPiece_of {w : World} {base : Nat} {v : Value} {m : Nat} {xs : List Value} {ys : List Pc} (h : w.ownsRow base 56 4 v m xs) (hm : m = ys.length) (hx : xs = pccells ys) (hv : v ≠ .slice none 0 0) :
    ∃ g cap, v = .slice (some ⟨g, 0, none⟩) ys.length cap ∧ OwnPiece w base g cap ys := by
  subst hm hx
  have hl := h.lt
  rcases h.2 with ⟨rfl, h0⟩ | ⟨g, cap, cur, rfl, hb, hg, h1, h2, h3⟩
  · exact absurd rfl hv
  · exact ⟨g, cap, rfl, h, h1, h2, hb, (hl g rfl).2⟩

theorem ownPiece_of' {w : World} {base : Nat} {v : Value} {m : Nat} {xs : List Value} {ys : List Pc} (h : w.ownsRow base 56 4 v m xs) (hm : m = ys.length) (hx : xs = pccells ys) (hv : v ≠ .slice none 0 0) :
    ∃ g cap, v = .slice (some ⟨g, 0, none⟩) m cap ∧ OwnPiece w base g cap ys := by
  obtain ⟨g, cap, e, h1⟩ := ownPiece_of h hm hx hv
  exact ⟨g, cap, by rw [e, hm], h1⟩

theorem OwnPiece.below {w w' : World} {base g cap : Nat} {ys : List Pc} (h : OwnPiece w base g cap ys) (hb : Below w.heap.size w w') : OwnPiece w' base g cap ys := by
  refine ⟨⟨h.own.1, ?_⟩, h.le, h.mx, h.base, Nat.lt_of_lt_of_le h.lt hb.size⟩
  rcases h.own.2 with ⟨e, _⟩ | ⟨g', cap', cur, e, hg, hgg, r⟩
  · cases e
  · have hl := h.own.lt g rfl
    refine .inr ⟨g', cap', cur, e, hg, ?_, r⟩
    injection e with e1 _ _
    injection e1 with e1
    injection e1 with e1 _ _
    subst e1
    exact (hb.block g hl.2).trans hgg

theorem OwnPiece.at_ {w : World} {base g cap : Nat} {ys : List Pc} (h : OwnPiece w base g cap ys) : PieceAt w g 0 ys := by
  intro i hi c hc
  have := World.ownsRow.cells h.own (g := g) rfl (i * 4 + c) _ (pccells_at ys i c hi hc)
  have hadd : (⟨g, 0, none⟩ : Addr).add (i * 4 + c) = ⟨g, i * 4 + c, none⟩ := by unfold Addr.add; split <;> simp_all
  rw [hadd] at this
  rw [Nat.zero_add]; exact this

theorem OwnPiece.toS {w : World} {base g cap : Nat} {ys : List Pc} (h : OwnPiece w base g cap ys) (wf : ∀ i, i < ys.length → pcwf (pcg ys i)) : PieceS w (some ⟨g, 0, none⟩) ys.length cap ys :=
  ⟨rfl, h.le, h.mx, (fun e => by cases e), wf, fun _ => ⟨g, 0, rfl, h.lt, h.at_⟩⟩

theorem pccells_app (a b : List Pc) : pccells (a ++ b) = pccells a ++ pccells b := by simp [pccells]

theorem OwnPiece.pre {w : World} {base g cap : Nat} {ys : List Pc} (h : OwnPiece w base g cap ys) {k : Nat} (hk : k ≤ ys.length) :
    w.ownsRow base 56 4 (.slice (some ⟨g, 0, none⟩) k cap) k (pccells (ys.take k)) := by
  refine ⟨by rw [pccells_len]; simp; omega, ?_⟩
  rcases h.own.2 with ⟨e, _⟩ | ⟨g', cap', cur, e, hg, hgg, h1, h2, h3, h4⟩
  · cases e
  · injection e with e1 _ e3
    injection e1 with e1
    injection e1 with e1 _ _
    subst e1 e3
    refine .inr ⟨g, cap, cur, rfl, hg, hgg, by omega, h2, h3, ?_⟩
    have e : pccells ys = pccells (ys.take k) ++ pccells (ys.drop k) := by
      rw [← pccells_app, List.take_append_drop]
    have el : (pccells (ys.take k)).length = k * 4 := by rw [pccells_len]; simp; omega
    have : (cur.toList.take (ys.length * 4)).take (k * 4) = (pccells ys).take (k * 4) := by rw [h4]
    rw [List.take_take, show min (k * 4) (ys.length * 4) = k * 4 by omega] at this
    rw [this, e, ← el, List.take_left]

theorem OwnPiece.rest {w : World} {base g cap : Nat} {ys : List Pc} (h : OwnPiece w base g cap ys) (k : Nat) : ∀ j u, (pccells (ys.drop k))[j]? = some u → w.cell? ((⟨g, 0 + k * 4, none⟩ : Addr).add j) = some u := by
  intro j u hj
  obtain ⟨h1, rfl⟩ := pccells_get hj
  have hlen : (ys.drop k).length = ys.length - k := by simp
  have := h.at_ (k + j / 4) (by omega) (j % 4) (by omega)
  have hadd : (⟨g, 0 + k * 4, none⟩ : Addr).add j = ⟨g, 0 + (k + j / 4) * 4 + j % 4, none⟩ := by
    unfold Addr.add; split
    · rename_i e; subst e; simp
    · simp only [Addr.mk.injEq, and_true, true_and]; omega
  rw [hadd, this]
  have e : pcg (ys.drop k) (j / 4) = pcg ys (k + j / 4) := by simp [pcg]
  rw [e]

theorem newPiece_cells (W : World) (j : Pc) (T : TypeId) : ∀ i u, (pcl j)[i]? = some u → ((W.alloc (.cells #[.int .i64 j.job, .int .i64 j.mac, .int .i64 j.fr, .int .i64 j.up] T)).drew).cell? ((⟨W.heap.size, 0, none⟩ : Addr).add i) = some u := by
  intro i u hi
  have hadd : (⟨W.heap.size, 0, none⟩ : Addr).add i = ⟨W.heap.size, i, none⟩ := by unfold Addr.add; split <;> simp_all
  rw [hadd]
  show (W.alloc (.cells #[.int .i64 j.job, .int .i64 j.mac, .int .i64 j.fr, .int .i64 j.up] T)).cell? _ = _
  rw [Joins.cell_alloc_mark_at _ _ _ _ _ _ rfl]
  show (List.toArray (pcl j))[i]? = _
  rw [List.getElem?_toArray]
  exact hi

theorem OwnPiece.blk {w w' : World} {base g cap : Nat} {ys : List Pc} (h : OwnPiece w base g cap ys) (hb : w'.heap[g]? = w.heap[g]?) : OwnPiece w' base g cap ys := by
  have hlt : g < w'.heap.size := by
    rcases h.own.2 with ⟨e, _⟩ | ⟨g', cap', cur, e, hg, hgg, r⟩
    · cases e
    · injection e with e1 _ _
      injection e1 with e1
      injection e1 with e1 _ _
      subst e1
      rw [← hb] at hgg
      exact lt_of_block hgg
  refine ⟨⟨h.own.1, ?_⟩, h.le, h.mx, h.base, hlt⟩
  rcases h.own.2 with ⟨e, _⟩ | ⟨g', cap', cur, e, hg, hgg, r⟩
  · cases e
  · injection e with e1 _ e3
    injection e1 with e1
    injection e1 with e1 _ _
    subst e1 e3
    exact .inr ⟨g, cap, cur, rfl, hg, hb.trans hgg, r⟩

theorem newPiece_plain (W : World) (j : Pc) (T : TypeId) : ∀ i u, (pcl j)[i]? = some u → (W.alloc (.cells #[.int .i64 j.job, .int .i64 j.mac, .int .i64 j.fr, .int .i64 j.up] T)).cell? ((⟨W.heap.size, 0, none⟩ : Addr).add i) = some u := by
  intro i u hi
  have hadd : (⟨W.heap.size, 0, none⟩ : Addr).add i = ⟨W.heap.size, i, none⟩ := by unfold Addr.add; split <;> simp_all
  rw [hadd, Joins.cell_alloc_mark_at _ _ _ _ _ _ rfl]
  show (List.toArray (pcl j))[i]? = _
  rw [List.getElem?_toArray]
  exact hi

theorem OwnPiece.low {w : World} {base base' g cap : Nat} {ys : List Pc} (h : OwnPiece w base g cap ys) (hb : base' ≤ base) : OwnPiece w base' g cap ys := by
  refine ⟨⟨h.own.1, ?_⟩, h.le, h.mx, Nat.le_trans hb h.base, h.lt⟩
  rcases h.own.2 with e | ⟨g', cap', cur, e, hg, r⟩
  · exact .inl e
  · exact .inr ⟨g', cap', cur, e, Nat.le_trans hb hg, r⟩

theorem ownPiece_own {w : World} {base g cap : Nat} {ys : List Pc} (h : w.ownsRow base 56 4 (.slice (some ⟨g, 0, none⟩) ys.length cap) ys.length (pccells ys)) : OwnPiece w base g cap ys := by
  obtain ⟨g', c', e, O⟩ := ownPiece_of (ys := ys) h rfl rfl (fun e => by cases e)
  injection e with e1 _ e3
  injection e1 with e1
  injection e1 with e1 _ _
  subst e1 e3
  exact O

theorem ownPiece_nil (w : World) : OwnPiece (w.alloc (.cells #[] 56)) w.heap.size w.heap.size 0 [] := ⟨World.ownsRow_made w #[] 0 (Nat.le_refl _) (Nat.zero_le _) rfl, Nat.le_refl _, Nat.zero_le _, Nat.le_refl _, by simp⟩

end Go.Proofs.Ytnndkdonbjeejaa
