/- Queue of the model. -/
import Derived.Test.YthgdjecbaomffaaJobQ
import Derived.Test.YthgdjecbaomffaaStepApp
import Derived.Deep.RegionHeld3
import Derived.Deep.RegionHeldLaw
import Derived.Deep.RegionLaw
import Derived.Maps.AppendAt
import Derived.Lib.SmallJoins
namespace Go.Proofs.Ythgdjecbaomffaa
open Go.RowKit Go.Sort

/-- a row of the call's own: jobs, in a block from base on -/
structure OwnJ (w : World) (base g cap : Nat) (ys : List Jb) : Prop where
  own : w.ownsRow base 56 7 (.slice (some ⟨g, 0, none⟩) ys.length cap) ys.length (jcells ys)
  le : ys.length ≤ cap
  mx : cap ≤ maxLen
  base : base ≤ g
  lt : g < w.heap.size

theorem ownJ_of {w : World} {base : Nat} {v : Value} {m : Nat} {xs : List Value} {ys : List Jb} (h : w.ownsRow base 56 7 v m xs) (hm : m = ys.length) (hx : xs = jcells ys) (hv : v ≠ .slice none 0 0) :
    ∃ g cap, v = .slice (some ⟨g, 0, none⟩) ys.length cap ∧ OwnJ w base g cap ys := by
  subst hm hx
  have hl := h.lt
  rcases h.2 with ⟨rfl, h0⟩ | ⟨g, cap, cur, rfl, hb, hg, h1, h2, h3⟩
  · exact absurd rfl hv
  · exact ⟨g, cap, rfl, h, h1, h2, hb, (hl g rfl).2⟩

theorem ownJ_of' {w : World} {base : Nat} {v : Value} {m : Nat} {xs : List Value} {ys : List Jb} (h : w.ownsRow base 56 7 v m xs) (hm : m = ys.length) (hx : xs = jcells ys) (hv : v ≠ .slice none 0 0) :
    ∃ g cap, v = .slice (some ⟨g, 0, none⟩) m cap ∧ OwnJ w base g cap ys := by
  obtain ⟨g, cap, e, h1⟩ := ownJ_of h hm hx hv
  exact ⟨g, cap, by rw [e, hm], h1⟩

theorem OwnJ.below {w w' : World} {base g cap : Nat} {ys : List Jb} (h : OwnJ w base g cap ys) (hb : Below w.heap.size w w') : OwnJ w' base g cap ys := by
  refine ⟨⟨h.own.1, ?_⟩, h.le, h.mx, h.base, Nat.lt_of_lt_of_le h.lt hb.size⟩
  rcases h.own.2 with ⟨e, _⟩ | ⟨g', cap', cur, e, hg, hgg, r⟩
  · cases e
  · have hl := h.own.lt g rfl
    refine .inr ⟨g', cap', cur, e, hg, ?_, r⟩
    injection e with e1 _ _
    injection e1 with e1
    injection e1 with e1 _ _
    subst e1
    exact (hb.block g hl.2).trans hgg

theorem OwnJ.at_ {w : World} {base g cap : Nat} {ys : List Jb} (h : OwnJ w base g cap ys) : JobAt w g 0 ys := by
  intro i hi c hc
  have := World.ownsRow.cells h.own (g := g) rfl (i * 7 + c) _ (jcells_at ys i c hi hc)
  have hadd : (⟨g, 0, none⟩ : Addr).add (i * 7 + c) = ⟨g, i * 7 + c, none⟩ := by unfold Addr.add; split <;> simp_all
  rw [hadd] at this
  rw [Nat.zero_add]; exact this

theorem OwnJ.toS {w : World} {base g cap : Nat} {ys : List Jb} (h : OwnJ w base g cap ys) (wf : ∀ i, i < ys.length → jwf (jg ys i)) : JobS w (some ⟨g, 0, none⟩) ys.length cap ys :=
  ⟨rfl, h.le, h.mx, (fun e => by cases e), wf, fun _ => ⟨g, 0, rfl, h.lt, h.at_⟩⟩

theorem jcells_app (a b : List Jb) : jcells (a ++ b) = jcells a ++ jcells b := by simp [jcells]

/-- its first k jobs -/
theorem OwnJ.pre {w : World} {base g cap : Nat} {ys : List Jb} (h : OwnJ w base g cap ys) {k : Nat} (hk : k ≤ ys.length) :
    w.ownsRow base 56 7 (.slice (some ⟨g, 0, none⟩) k cap) k (jcells (ys.take k)) := by
  refine ⟨by rw [jcells_len]; simp; omega, ?_⟩
  rcases h.own.2 with ⟨e, _⟩ | ⟨g', cap', cur, e, hg, hgg, h1, h2, h3, h4⟩
  · cases e
  · injection e with e1 _ e3
    injection e1 with e1
    injection e1 with e1 _ _
    subst e1 e3
    refine .inr ⟨g, cap, cur, rfl, hg, hgg, by omega, h2, h3, ?_⟩
    have e : jcells ys = jcells (ys.take k) ++ jcells (ys.drop k) := by
      rw [← jcells_app, List.take_append_drop]
    have el : (jcells (ys.take k)).length = k * 7 := by rw [jcells_len]; simp; omega
    have : (cur.toList.take (ys.length * 7)).take (k * 7) = (jcells ys).take (k * 7) := by rw [h4]
    rw [List.take_take, show min (k * 7) (ys.length * 7) = k * 7 by omega] at this
    rw [this, e, ← el, List.take_left]

/-- the cells of the jobs from k on -/
theorem OwnJ.rest {w : World} {base g cap : Nat} {ys : List Jb} (h : OwnJ w base g cap ys) (k : Nat) : ∀ j u, (jcells (ys.drop k))[j]? = some u → w.cell? ((⟨g, 0 + k * 7, none⟩ : Addr).add j) = some u := by
  intro j u hj
  obtain ⟨h1, rfl⟩ := jcells_get hj
  have hlen : (ys.drop k).length = ys.length - k := by simp
  have := h.at_ (k + j / 7) (by omega) (j % 7) (by omega)
  have hadd : (⟨g, 0 + k * 7, none⟩ : Addr).add j = ⟨g, 0 + (k + j / 7) * 7 + j % 7, none⟩ := by
    unfold Addr.add; split
    · rename_i e; subst e; simp
    · simp only [Addr.mk.injEq, and_true, true_and]; omega
  rw [hadd, this]
  have e : jg (ys.drop k) (j / 7) = jg ys (k + j / 7) := by simp [jg]
  rw [e]

/-- one job, just boxed: its cells -/
theorem new7_cells (W : World) (j : Jb) (T : TypeId) : ∀ i u, (jl j)[i]? = some u → ((W.alloc (.cells #[.int .i64 j.id, .int .i64 j.cores, .int .i64 j.long, .int .i64 j.due, .int .i64 j.wt, .int .i64 j.rank, .int .i64 j.at_] T)).drew).cell? ((⟨W.heap.size, 0, none⟩ : Addr).add i) = some u := by
  intro i u hi
  have hadd : (⟨W.heap.size, 0, none⟩ : Addr).add i = ⟨W.heap.size, i, none⟩ := by unfold Addr.add; split <;> simp_all
  rw [hadd]
  show (W.alloc (.cells #[.int .i64 j.id, .int .i64 j.cores, .int .i64 j.long, .int .i64 j.due, .int .i64 j.wt, .int .i64 j.rank, .int .i64 j.at_] T)).cell? _ = _
  rw [Joins.cell_alloc_mark_at _ _ _ _ _ _ rfl]
  show (List.toArray (jl j))[i]? = _
  rw [List.getElem?_toArray]
  exact hi

theorem lenBound {ys ls : List Jb} {k n : Nat} (h : ys.Perm (ls.take k)) (hl : ls.length = n) (hk : k < n) : ys.length < ls.length := by
  rw [h.length_eq]; simp; omega

end Go.Proofs.Ythgdjecbaomffaa
