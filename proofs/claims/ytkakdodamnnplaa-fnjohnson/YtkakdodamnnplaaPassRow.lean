/- Rows of the call's own: Pass. -/
import Derived.Test.YtkakdodamnnplaaPassIn
import Derived.Maps.AppendAt
import Derived.Lib.SmallJoins
import Derived.Sort.Grow
namespace Go.Proofs.Ytkakdodamnnplaa
open Go.RowKit Go.Sort

theorem pzl_len (x : Pz) : (pzl x).length = 3 := rfl

theorem pzl_one (x : Pz) : ∀ v ∈ pzl x, v.oneCell' = true := by
  intro v hv
  simp [pzl] at hv
  rcases hv with rfl | rfl | rfl <;> rfl

theorem pzl_at (x : Pz) (c : Nat) (h : c < 3) : (pzl x)[c]! = .int .i64 (pzc x c) := by
  obtain rfl | rfl | rfl : c = 0 ∨ c = 1 ∨ c = 2 := by omega
  all_goals rfl

theorem pzg_arr [Inhabited Pz] (d : Array Pz) (i : Nat) (h : i < d.size) : pzg d.toList i = d[i]! := by
  rw [getElem!_pos d i h]
  simp [pzg, h]

def pzcells (l : List Pz) : List Value := l.flatMap pzl

theorem pzcells_len : ∀ l : List Pz, (pzcells l).length = l.length * 3
  | [] => rfl
  | x :: r => by
    have := pzcells_len r
    show (pzl x ++ pzcells r).length = (r.length + 1) * 3
    rw [List.length_append, pzl_len]; omega

theorem pzcells_at : ∀ (l : List Pz) (i c : Nat), i < l.length → c < 3 → (pzcells l)[i * 3 + c]? = some (.int .i64 (pzc (pzg l i) c))
  | x :: r, 0, c, _, hc => by
    show (pzl x ++ pzcells r)[0 * 3 + c]? = _
    rw [List.getElem?_append_left (by rw [pzl_len]; omega)]
    obtain rfl | rfl | rfl : c = 0 ∨ c = 1 ∨ c = 2 := by omega
    all_goals rfl
  | x :: r, i + 1, c, h, hc => by
    show (pzl x ++ pzcells r)[(i + 1) * 3 + c]? = _
    rw [List.getElem?_append_right (by rw [pzl_len]; omega), pzl_len, show (i + 1) * 3 + c - 3 = i * 3 + c by omega]
    exact pzcells_at r i c (by simpa using h) hc

theorem pzcells_one (l : List Pz) : ∀ v ∈ pzcells l, v.oneCell' = true := by
  intro v hv
  obtain ⟨x, _, hx⟩ := List.mem_flatMap.1 hv
  exact pzl_one x v hx

theorem pzcells_get {l : List Pz} {j : Nat} {v : Value} (h : (pzcells l)[j]? = some v) : j / 3 < l.length ∧ v = .int .i64 (pzc (pzg l (j / 3)) (j % 3)) := by
  have hl := pzcells_len l
  have hjl : j < l.length * 3 := by
    rcases Nat.lt_or_ge j (pzcells l).length with h1 | h1
    · omega
    · rw [List.getElem?_eq_none h1] at h; cases h
  have h1 := pzcells_at l (j / 3) (j % 3) (by omega) (by omega)
  rw [show j / 3 * 3 + j % 3 = j by omega, h] at h1
  exact ⟨by omega, Option.some.inj h1⟩

structure OwnPass (w : World) (base g cap : Nat) (ys : List Pz) : Prop where
  own : w.ownsRow base 31 3 (.slice (some ⟨g, 0, none⟩) ys.length cap) ys.length (pzcells ys)
  le : ys.length ≤ cap
  mx : cap ≤ maxLen
  base : base ≤ g
  lt : g < w.heap.size

theorem ownPass_of {w : World} {base : Nat} {v : Value} {m : Nat} {xs : List Value} {ys : List Pz} (h : w.ownsRow base 31 3 v m xs) (hm : m = ys.length) (hx : xs = pzcells ys) (hv : v ≠ .slice none 0 0) :
    ∃ g cap, v = .slice (some ⟨g, 0, none⟩) ys.length cap ∧ OwnPass w base g cap ys := by
  subst hm hx
  have hl := h.lt
  rcases h.2 with ⟨rfl, h0⟩ | ⟨g, cap, cur, rfl, hb, hg, h1, h2, h3⟩
  · exact absurd rfl hv
  · exact ⟨g, cap, rfl, h, h1, h2, hb, (hl g rfl).2⟩

theorem ownPass_of' {w : World} {base : Nat} {v : Value} {m : Nat} {xs : List Value} {ys : List Pz} (h : w.ownsRow base 31 3 v m xs) (hm : m = ys.length) (hx : xs = pzcells ys) (hv : v ≠ .slice none 0 0) :
    ∃ g cap, v = .slice (some ⟨g, 0, none⟩) m cap ∧ OwnPass w base g cap ys := by
  obtain ⟨g, cap, e, h1⟩ := ownPass_of h hm hx hv
  exact ⟨g, cap, by rw [e, hm], h1⟩

theorem OwnPass.below {w w' : World} {base g cap : Nat} {ys : List Pz} (h : OwnPass w base g cap ys) (hb : Below w.heap.size w w') : OwnPass w' base g cap ys := by
  refine ⟨⟨h.own.1, ?_⟩, h.le, h.mx, h.base, Nat.lt_of_lt_of_le h.lt hb.size⟩
  rcases h.own.2 with ⟨e, _⟩ | ⟨g', cap', cur, e, hg, hgg, r⟩
  · cases e
  · have hl := h.own.lt g rfl
    refine .inr ⟨g', cap', cur, e, hg, ?_, r⟩
    injection e with e1 _ _
    injection e1 with e1
    injection e1 with e1 _ _
    subst e1
    exact (hb.block g hl.2).trans hgg

theorem OwnPass.at_ {w : World} {base g cap : Nat} {ys : List Pz} (h : OwnPass w base g cap ys) : PassAt w g 0 ys := by
  intro i hi c hc
  have := World.ownsRow.cells h.own (g := g) rfl (i * 3 + c) _ (pzcells_at ys i c hi hc)
  have hadd : (⟨g, 0, none⟩ : Addr).add (i * 3 + c) = ⟨g, i * 3 + c, none⟩ := by unfold Addr.add; split <;> simp_all
  rw [hadd] at this
  rw [Nat.zero_add]; exact this

theorem OwnPass.toS {w : World} {base g cap : Nat} {ys : List Pz} (h : OwnPass w base g cap ys) (wf : ∀ i, i < ys.length → pzwf (pzg ys i)) : PassS w (some ⟨g, 0, none⟩) ys.length cap ys :=
  ⟨rfl, h.le, h.mx, (fun e => by cases e), wf, fun _ => ⟨g, 0, rfl, h.lt, h.at_⟩⟩

theorem pzcells_app (a b : List Pz) : pzcells (a ++ b) = pzcells a ++ pzcells b := by simp [pzcells]

theorem OwnPass.pre {w : World} {base g cap : Nat} {ys : List Pz} (h : OwnPass w base g cap ys) {k : Nat} (hk : k ≤ ys.length) :
    w.ownsRow base 31 3 (.slice (some ⟨g, 0, none⟩) k cap) k (pzcells (ys.take k)) := by
  refine ⟨by rw [pzcells_len]; simp; omega, ?_⟩
  rcases h.own.2 with ⟨e, _⟩ | ⟨g', cap', cur, e, hg, hgg, h1, h2, h3, h4⟩
  · cases e
  · injection e with e1 _ e3
    injection e1 with e1
    injection e1 with e1 _ _
    subst e1 e3
    refine .inr ⟨g, cap, cur, rfl, hg, hgg, by omega, h2, h3, ?_⟩
    have e : pzcells ys = pzcells (ys.take k) ++ pzcells (ys.drop k) := by
      rw [← pzcells_app, List.take_append_drop]
    have el : (pzcells (ys.take k)).length = k * 3 := by rw [pzcells_len]; simp; omega
    have : (cur.toList.take (ys.length * 3)).take (k * 3) = (pzcells ys).take (k * 3) := by rw [h4]
    rw [List.take_take, show min (k * 3) (ys.length * 3) = k * 3 by omega] at this
    rw [this, e, ← el, List.take_left]

theorem OwnPass.rest {w : World} {base g cap : Nat} {ys : List Pz} (h : OwnPass w base g cap ys) (k : Nat) : ∀ j u, (pzcells (ys.drop k))[j]? = some u → w.cell? ((⟨g, 0 + k * 3, none⟩ : Addr).add j) = some u := by
  intro j u hj
  obtain ⟨h1, rfl⟩ := pzcells_get hj
  have hlen : (ys.drop k).length = ys.length - k := by simp
  have := h.at_ (k + j / 3) (by omega) (j % 3) (by omega)
  have hadd : (⟨g, 0 + k * 3, none⟩ : Addr).add j = ⟨g, 0 + (k + j / 3) * 3 + j % 3, none⟩ := by
    unfold Addr.add; split
    · rename_i e; subst e; simp
    · simp only [Addr.mk.injEq, and_true, true_and]; omega
  rw [hadd, this]
  have e : pzg (ys.drop k) (j / 3) = pzg ys (k + j / 3) := by simp [pzg]
  rw [e]

theorem newPass_cells (W : World) (j : Pz) (T : TypeId) : ∀ i u, (pzl j)[i]? = some u → ((W.alloc (.cells #[.int .i64 j.id, .int .i64 j.a, .int .i64 j.b] T)).drew).cell? ((⟨W.heap.size, 0, none⟩ : Addr).add i) = some u := by
  intro i u hi
  have hadd : (⟨W.heap.size, 0, none⟩ : Addr).add i = ⟨W.heap.size, i, none⟩ := by unfold Addr.add; split <;> simp_all
  rw [hadd]
  show (W.alloc (.cells #[.int .i64 j.id, .int .i64 j.a, .int .i64 j.b] T)).cell? _ = _
  rw [Joins.cell_alloc_mark_at _ _ _ _ _ _ rfl]
  show (List.toArray (pzl j))[i]? = _
  rw [List.getElem?_toArray]
  exact hi

theorem OwnPass.blk {w w' : World} {base g cap : Nat} {ys : List Pz} (h : OwnPass w base g cap ys) (hb : w'.heap[g]? = w.heap[g]?) : OwnPass w' base g cap ys := by
  have hlt : g < w'.heap.size := by
    rcases h.own.2 with ⟨e, _⟩ | ⟨g', cap', cur, e, hg, hgg, r⟩
    · cases e
    · injection e with e1 _ _
      injection e1 with e1
      injection e1 with e1 _ _
      subst e1
      rw [← hb] at hgg
      exact lt_of_block hgg
  refine ⟨⟨h.own.1, ?_⟩, h.le, h.mx, h.base, hlt⟩
  rcases h.own.2 with ⟨e, _⟩ | ⟨g', cap', cur, e, hg, hgg, r⟩
  · cases e
  · injection e with e1 _ e3
    injection e1 with e1
    injection e1 with e1 _ _
    subst e1 e3
    exact .inr ⟨g, cap, cur, rfl, hg, hb.trans hgg, r⟩

theorem newPass_plain (W : World) (j : Pz) (T : TypeId) : ∀ i u, (pzl j)[i]? = some u → (W.alloc (.cells #[.int .i64 j.id, .int .i64 j.a, .int .i64 j.b] T)).cell? ((⟨W.heap.size, 0, none⟩ : Addr).add i) = some u := by
  intro i u hi
  have hadd : (⟨W.heap.size, 0, none⟩ : Addr).add i = ⟨W.heap.size, i, none⟩ := by unfold Addr.add; split <;> simp_all
  rw [hadd, Joins.cell_alloc_mark_at _ _ _ _ _ _ rfl]
  show (List.toArray (pzl j))[i]? = _
  rw [List.getElem?_toArray]
  exact hi

theorem OwnPass.low {w : World} {base base' g cap : Nat} {ys : List Pz} (h : OwnPass w base g cap ys) (hb : base' ≤ base) : OwnPass w base' g cap ys := by
  refine ⟨⟨h.own.1, ?_⟩, h.le, h.mx, Nat.le_trans hb h.base, h.lt⟩
  rcases h.own.2 with e | ⟨g', cap', cur, e, hg, r⟩
  · exact .inl e
  · exact .inr ⟨g', cap', cur, e, Nat.le_trans hb hg, r⟩

theorem ownPass_own {w : World} {base g cap : Nat} {ys : List Pz} (h : w.ownsRow base 31 3 (.slice (some ⟨g, 0, none⟩) ys.length cap) ys.length (pzcells ys)) : OwnPass w base g cap ys := by
  obtain ⟨g', c', e, O⟩ := ownPass_of (ys := ys) h rfl rfl (fun e => by cases e)
  injection e with e1 _ e3
  injection e1 with e1
  injection e1 with e1 _ _
  subst e1 e3
  exact O

theorem ownPass_nil (w : World) : OwnPass (w.alloc (.cells #[] 31)) w.heap.size w.heap.size 0 [] := ⟨World.ownsRow_made w #[] 0 (Nat.le_refl _) (Nat.zero_le _) rfl, Nat.le_refl _, Nat.zero_le _, Nat.le_refl _, by simp⟩

end Go.Proofs.Ytkakdodamnnplaa
