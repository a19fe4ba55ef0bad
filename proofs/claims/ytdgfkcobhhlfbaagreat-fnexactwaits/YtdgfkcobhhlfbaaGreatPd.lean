/- Several texts in one. -/
import Derived.Test.YtdgfkcobhhlfbaaGreatStateIn
import Derived.Test.YtdgfkcobhhlfbaaGreatPa
import Derived.Test.YtdgfkcobhhlfbaaGreatNodeCh
import Derived.Test.YtdgfkcobhhlfbaaGreatRows
import Derived.WalkKit
import Derived.Deep.RegionHeld3
import Derived.Deep.RegionLaw
import Derived.Maps.AppendAt
import Derived.Lib.SmallJoins
import Derived.Deep.RegionHeldLaw
import Derived.Test.YtdgfkcobhhlfbaaGreatNodeS
import Derived.Test.YtdgfkcobhhlfbaaGreatNodeM
/- Chapter 13's model: which Entry has this Id; the Jobs; what is in use. -/
namespace Go.Proofs.YtdgfkcobhhlfbaaGreat
open Go.RowKit Go.Sort

/-- the first entry with this id; -1: there is none -/
def IsFd (ls : List En) (id r : Int) : Prop := (r = -1 ∧ ∀ i, i < ls.length → (eng ls i).job.id ≠ id) ∨ ∃ i : Nat, i < ls.length ∧ r = i ∧ (eng ls i).job.id = id ∧ ∀ j, j < i → (eng ls j).job.id ≠ id
theorem IsFd.uniq {ls : List En} {id r r' : Int} (h : IsFd ls id r) (h' : IsFd ls id r') : r = r' := by
  rcases h with ⟨rfl, h1⟩ | ⟨i, hi, rfl, h1, h2⟩ <;> rcases h' with ⟨rfl, g1⟩ | ⟨j, hj, rfl, g1, g2⟩
  · rfl
  · exact absurd g1 (h1 j hj)
  · exact absurd h1 (g1 i hi)
  · rcases Nat.lt_trichotomy i j with q | q | q
    · exact absurd h1 (g2 i q)
    · rw [q]
    · exact absurd g1 (h2 j q)

end Go.Proofs.YtdgfkcobhhlfbaaGreat

/- What a queue is: the plain mathematics. -/
namespace Go.Proofs.YtdgfkcobhhlfbaaGreat
open Go.RowKit Go.Sort

/-- no later one ahead of an earlier one -/
abbrev notLater (a b : Jb) : Prop := jlt b a = false

theorem jg_get {l : List Jb} {i : Nat} (h : i < l.length) : jg l i = l[i] := by simp [jg, h]

theorem sorted_pw {l : List Jb} : jsorted l ↔ l.Pairwise notLater := by
  rw [List.pairwise_iff_getElem]
  constructor
  · intro h i j hi hj hij
    have := h i j hij hj
    rwa [jg_get hi, jg_get hj] at this
  · intro h i j hij hj
    rw [jg_get hj, jg_get (show i < l.length by omega)]
    exact h i j (by omega) hj hij

/-- the queue of a list -/
def IsQ (ls ys : List Jb) : Prop := (jsB ls = false ∧ ys = []) ∨ (jsB ls = true ∧ ys.Perm ls ∧ jsorted ys)

theorem JsOk.inj {ls : List Jb} (h : JsOk ls) {a b : Jb} (ha : a ∈ ls) (hb : b ∈ ls) (e : a.id = b.id) : a = b := by
  obtain ⟨i, hi, rfl⟩ := List.getElem_of_mem ha
  obtain ⟨j, hj, rfl⟩ := List.getElem_of_mem hb
  rw [← jg_get hi, ← jg_get hj] at e ⊢
  rcases Nat.lt_trichotomy i j with h1 | h1 | h1
  · exact absurd e ((h.ok j hj).2 i h1)
  · rw [h1]
  · exact absurd e.symm ((h.ok i hi).2 j h1)

theorem IsQ.uniq {ls ys zs : List Jb} (h : IsQ ls ys) (g : IsQ ls zs) : ys = zs := by
  rcases h with ⟨h0, rfl⟩ | ⟨h0, h1, h2⟩
  · rcases g with ⟨_, rfl⟩ | ⟨g0, _⟩
    · rfl
    · rw [h0] at g0; cases g0
  · rcases g with ⟨g0, _⟩ | ⟨_, g1, g2⟩
    · rw [h0] at g0; cases g0
    · have hok := jsB_t h0
      refine List.Perm.eq_of_pairwise (le := notLater) (fun a b ha hb h3 h4 => ?_) (sorted_pw.1 h2) (sorted_pw.1 g2) (h1.trans g1.symm)
      refine hok.inj (h1.subset ha) (g1.subset hb) ?_
      have e1 := mt ahead_iff.2 (Bool.eq_false_iff.1 h3)
      have e2 := mt ahead_iff.2 (Bool.eq_false_iff.1 h4)
      omega

theorem IsQ.len {ls ys : List Jb} (h : IsQ ls ys) : ys.length ≤ 40 := by
  rcases h with ⟨_, rfl⟩ | ⟨h0, h1, _⟩
  · simp
  · rw [h1.length_eq]; exact (jsB_t h0).n

/-- one more, laid where it belongs -/
def insAt (ys : List Jb) (k : Nat) (x : Jb) : List Jb := ys.take k ++ [x] ++ ys.drop k

theorem insAt_perm (ys : List Jb) (k : Nat) (x : Jb) {zs : List Jb} (h : ys.Perm zs) : (insAt ys k x).Perm (zs ++ [x]) := by
  unfold insAt
  have h1 : (ys.take k ++ [x] ++ ys.drop k).Perm (ys.take k ++ ys.drop k ++ [x]) := by
    rw [List.append_assoc, List.append_assoc]
    exact List.Perm.append_left _ List.perm_append_comm
  rw [List.take_append_drop] at h1
  exact h1.trans (h.append_right _)

theorem jlt_trans {x y z : Jb} (h1 : jlt x y = true) (h2 : jlt y z = true) : jlt x z = true := swo_jlt.trans x y z h1 h2

theorem insAt_sorted {ys : List Jb} {k : Nat} {x : Jb} (h : ys.Pairwise notLater) (hk : k ≤ ys.length) (h1 : ∀ m, m < k → jlt x (jg ys m) = false) (h2 : k < ys.length → jlt x (jg ys k) = true) : (insAt ys k x).Pairwise notLater := by
  have hs : (ys.take k ++ ys.drop k).Pairwise notLater := by rw [List.take_append_drop]; exact h
  obtain ⟨p1, p2, p3⟩ := List.pairwise_append.1 hs
  have q1 : ∀ a ∈ ys.take k, notLater a x := by
    intro a ha
    obtain ⟨m, hm, rfl⟩ := List.getElem_of_mem ha
    have hm' : m < k := by simp at hm; omega
    have := h1 m hm'
    rw [jg_get (by omega)] at this
    simpa using this
  have q2 : ∀ b ∈ ys.drop k, notLater x b := by
    intro b hb
    obtain ⟨m, hm, rfl⟩ := List.getElem_of_mem hb
    have hm' : k + m < ys.length := by simp at hm; omega
    have hx := h2 (by omega)
    rw [jg_get (by omega)] at hx
    show jlt _ x = false
    rw [Bool.eq_false_iff]
    intro hc
    simp only [List.getElem_drop] at hc
    have h3 := jlt_trans hc hx
    by_cases e : m = 0
    · subst e
      have := swo_jlt.irrefl (ys[k]'(by omega))
      simp only [Nat.add_zero] at h3
      rw [this] at h3; cases h3
    · have := (List.pairwise_iff_getElem.1 h) k (k + m) (by omega) hm' (by omega)
      rw [this] at h3; cases h3
  unfold insAt
  rw [List.append_assoc]
  refine List.pairwise_append.2 ⟨p1, ?_, ?_⟩
  · exact List.pairwise_cons.2 ⟨q2, p2⟩
  · intro a ha b hb
    rcases List.mem_cons.1 hb with rfl | hb
    · exact q1 a ha
    · exact p3 a ha b hb

end Go.Proofs.YtdgfkcobhhlfbaaGreat

/- 'append' to a row of the call's own, as a step of a region that draws its order. -/
namespace Go.Proofs.YtdgfkcobhhlfbaaGreat
open Go.RowKit

theorem step_append_own {P : Program} {ops : Array Oper} {o : Oper} {a : Act} {w : World} {K : Act → World → Prop} {Q : Exit → Act → World → Prop} {E : Prop}
    (hg : o.guard = none) (s x : Operand) (t : TypeId) (hop : o.op = Op.call { callee := Callee.builtin Builtin.append, args := #[s, x], argTypes := #[t, t] })
    (base : Nat) (e : TypeId) (i : TypeInfo) (z : Value) (size bytes : Nat) (h1 : P.underlying t = some (.slice e)) (h2 : P.info? e = some i) (h3 : i.zero = some z) (h4 : i.size = size) (h5 : i.bytes = bytes) (h6 : z.cells.size = size) (h7 : 0 < size)
    (v : Value) (n : Nat) (xs : List Value) (hs : a.eval s = v) (hown : w.ownsRow base e size v n xs)
    (ad : Addr) (m c : Nat) (news : List Value) (hx : a.eval x = .slice (some ad) m c) (hn : news.length = m * size) (hc : ∀ j u, news[j]? = some u → w.cell? (ad.add j) = some u) (h1c : ∀ u ∈ news, u.oneCell' = true)
    (b1 : n + m ≤ maxLen) (b2 : (n + m) * bytes ≤ 140737488355328) (hb : base ≤ w.heap.size)
    (hK : ∀ v' w', w'.ownsRow base e size v' (n + m) (xs ++ news) → w.grownBy w' v.ownBlock → (v' = .slice none 0 0 ↔ v = .slice none 0 0 ∧ m = 0) → (v'.ownBlock = v.ownBlock ∨ v'.ownBlock = some w.heap.size) → K (a.put o.dst v') w') :
    if Region.wanted o (yielded ops a.tmps) = true then Oper.wp P o a w K Q else E := by
  have hw : Region.wanted o (yielded ops a.tmps) = true := by simp [Region.wanted, hg]
  rw [if_pos hw]
  obtain ⟨v', w', hrun, r1, r2, r3, r4⟩ := run_append_own_at (P := P) w base t o.type e i z size bytes h1 h2 h3 h4 h5 h6 h7 v n xs hown ad m c news hn hc h1c b1 b2 hb
  unfold Oper.wp
  simp [execOp, hop, resolve, invoke, builtin, hs, hx, hrun, Result.andThen]
  exact hK v' w' r1 r2 r3 r4

end Go.Proofs.YtdgfkcobhhlfbaaGreat

/- Queue of the model. -/
namespace Go.Proofs.YtdgfkcobhhlfbaaGreat
open Go.RowKit Go.Sort

/-- a row of the call's own: jobs, in a block from base on -/
structure OwnJ (w : World) (base g cap : Nat) (ys : List Jb) : Prop where
  own : w.ownsRow base 49 7 (.slice (some ⟨g, 0, none⟩) ys.length cap) ys.length (jcells ys)
  le : ys.length ≤ cap
  mx : cap ≤ maxLen
  base : base ≤ g
  lt : g < w.heap.size

theorem ownJ_of {w : World} {base : Nat} {v : Value} {m : Nat} {xs : List Value} {ys : List Jb} (h : w.ownsRow base 49 7 v m xs) (hm : m = ys.length) (hx : xs = jcells ys) (hv : v ≠ .slice none 0 0) :
    ∃ g cap, v = .slice (some ⟨g, 0, none⟩) ys.length cap ∧ OwnJ w base g cap ys := by
  subst hm hx
  have hl := h.lt
  rcases h.2 with ⟨rfl, h0⟩ | ⟨g, cap, cur, rfl, hb, hg, h1, h2, h3⟩
  · exact absurd rfl hv
  · exact ⟨g, cap, rfl, h, h1, h2, hb, (hl g rfl).2⟩

theorem ownJ_of' {w : World} {base : Nat} {v : Value} {m : Nat} {xs : List Value} {ys : List Jb} (h : w.ownsRow base 49 7 v m xs) (hm : m = ys.length) (hx : xs = jcells ys) (hv : v ≠ .slice none 0 0) :
    ∃ g cap, v = .slice (some ⟨g, 0, none⟩) m cap ∧ OwnJ w base g cap ys := by
  obtain ⟨g, cap, e, h1⟩ := ownJ_of h hm hx hv
  exact ⟨g, cap, by rw [e, hm], h1⟩

theorem OwnJ.below {w w' : World} {base g cap : Nat} {ys : List Jb} (h : OwnJ w base g cap ys) (hb : Below w.heap.size w w') : OwnJ w' base g cap ys := by
  refine ⟨⟨h.own.1, ?_⟩, h.le, h.mx, h.base, Nat.lt_of_lt_of_le h.lt hb.size⟩
  rcases h.own.2 with ⟨e, _⟩ | ⟨g', cap', cur, e, hg, hgg, r⟩
  · cases e
  · have hl := h.own.lt g rfl
    refine .inr ⟨g', cap', cur, e, hg, ?_, r⟩
    injection e with e1 _ _
    injection e1 with e1
    injection e1 with e1 _ _
    subst e1
    exact (hb.block g hl.2).trans hgg

theorem OwnJ.at_ {w : World} {base g cap : Nat} {ys : List Jb} (h : OwnJ w base g cap ys) : JobAt w g 0 ys := by
  intro i hi c hc
  have := World.ownsRow.cells h.own (g := g) rfl (i * 7 + c) _ (jcells_at ys i c hi hc)
  have hadd : (⟨g, 0, none⟩ : Addr).add (i * 7 + c) = ⟨g, i * 7 + c, none⟩ := by unfold Addr.add; split <;> simp_all
  rw [hadd] at this
  rw [Nat.zero_add]; exact this

theorem OwnJ.toS {w : World} {base g cap : Nat} {ys : List Jb} (h : OwnJ w base g cap ys) (wf : ∀ i, i < ys.length → jwf (jg ys i)) : JobS w (some ⟨g, 0, none⟩) ys.length cap ys :=
  ⟨rfl, h.le, h.mx, (fun e => by cases e), wf, fun _ => ⟨g, 0, rfl, h.lt, h.at_⟩⟩

theorem jcells_app (a b : List Jb) : jcells (a ++ b) = jcells a ++ jcells b := by simp [jcells]

/-- its first k jobs -/
theorem OwnJ.pre {w : World} {base g cap : Nat} {ys : List Jb} (h : OwnJ w base g cap ys) {k : Nat} (hk : k ≤ ys.length) :
    w.ownsRow base 49 7 (.slice (some ⟨g, 0, none⟩) k cap) k (jcells (ys.take k)) := by
  refine ⟨by rw [jcells_len]; simp; omega, ?_⟩
  rcases h.own.2 with ⟨e, _⟩ | ⟨g', cap', cur, e, hg, hgg, h1, h2, h3, h4⟩
  · cases e
  · injection e with e1 _ e3
    injection e1 with e1
    injection e1 with e1 _ _
    subst e1 e3
    refine .inr ⟨g, cap, cur, rfl, hg, hgg, by omega, h2, h3, ?_⟩
    have e : jcells ys = jcells (ys.take k) ++ jcells (ys.drop k) := by
      rw [← jcells_app, List.take_append_drop]
    have el : (jcells (ys.take k)).length = k * 7 := by rw [jcells_len]; simp; omega
    have : (cur.toList.take (ys.length * 7)).take (k * 7) = (jcells ys).take (k * 7) := by rw [h4]
    rw [List.take_take, show min (k * 7) (ys.length * 7) = k * 7 by omega] at this
    rw [this, e, ← el, List.take_left]

/-- the cells of the jobs from k on -/
theorem OwnJ.rest {w : World} {base g cap : Nat} {ys : List Jb} (h : OwnJ w base g cap ys) (k : Nat) : ∀ j u, (jcells (ys.drop k))[j]? = some u → w.cell? ((⟨g, 0 + k * 7, none⟩ : Addr).add j) = some u := by
  intro j u hj
  obtain ⟨h1, rfl⟩ := jcells_get hj
  have hlen : (ys.drop k).length = ys.length - k := by simp
  have := h.at_ (k + j / 7) (by omega) (j % 7) (by omega)
  have hadd : (⟨g, 0 + k * 7, none⟩ : Addr).add j = ⟨g, 0 + (k + j / 7) * 7 + j % 7, none⟩ := by
    unfold Addr.add; split
    · rename_i e; subst e; simp
    · simp only [Addr.mk.injEq, and_true, true_and]; omega
  rw [hadd, this]
  have e : jg (ys.drop k) (j / 7) = jg ys (k + j / 7) := by simp [jg]
  rw [e]

/-- one job, just boxed: its cells -/
theorem new7_cells (W : World) (j : Jb) (T : TypeId) : ∀ i u, (jl j)[i]? = some u → ((W.alloc (.cells #[.int .i64 j.id, .int .i64 j.cores, .int .i64 j.long, .int .i64 j.due, .int .i64 j.wt, .int .i64 j.rank, .int .i64 j.at_] T)).drew).cell? ((⟨W.heap.size, 0, none⟩ : Addr).add i) = some u := by
  intro i u hi
  have hadd : (⟨W.heap.size, 0, none⟩ : Addr).add i = ⟨W.heap.size, i, none⟩ := by unfold Addr.add; split <;> simp_all
  rw [hadd]
  show (W.alloc (.cells #[.int .i64 j.id, .int .i64 j.cores, .int .i64 j.long, .int .i64 j.due, .int .i64 j.wt, .int .i64 j.rank, .int .i64 j.at_] T)).cell? _ = _
  rw [Joins.cell_alloc_mark_at _ _ _ _ _ _ rfl]
  show (List.toArray (jl j))[i]? = _
  rw [List.getElem?_toArray]
  exact hi

theorem lenBound {ys ls : List Jb} {k n : Nat} (h : ys.Perm (ls.take k)) (hl : ls.length = n) (hk : k < n) : ys.length < ls.length := by
  rw [h.length_eq]; simp; omega

set_option maxRecDepth 8000 in
set_option maxHeartbeats 2000000 in
theorem specQueue_any (a : Option Addr) (n cap : Nat) (ls : List Jb) (w : World) (h : JobS w a n cap ls) :
    Calls Tryz.prog 36 #[.slice a n cap] w fun e w' => ∃ v m cap' ys, e = .returned (.slice v m cap') ∧ JobS w' v m cap' ys ∧ IsQ ls ys ∧ Below w.heap.size w w' := by
  have hm := h.mx
  have hle := h.le
  have hlen := h.len
  unfold maxLen at hm
  obtain ⟨i1, hj, hj0, hj1, hj2⟩ := info_parts infoJ
  have hmo : Tryz.prog.follows .mixedOrders = true := by kernel_rfl
  have bx : Below w.heap.size w (w.alloc (.cells #[] 49)) := box_below
  have own0 : OwnJ (w.alloc (.cells #[] 49)) w.heap.size w.heap.size 0 [] := ⟨World.ownsRow_made w #[] 0 (Nat.le_refl _) (Nat.zero_le _) rfl, Nat.le_refl _, Nat.zero_le _, Nat.le_refl _, by simp⟩
  rcases hq : jsB ls with _ | _
  · go_enter Tryz.func36, Tryz.ntmps36
    go_wp2_with (go_at_call 31; refine (specJobsOk_any _ _ _ _ _ (h.below bx)).mono ?_; rw [hq]; rintro e w1 ⟨rfl, hb1⟩)
    go_ret
    exact ⟨_, _, _, [], rfl, (own0.below hb1).toS (fun i hi => by simp at hi), Or.inl ⟨hq, rfl⟩, bx.then hb1 bx.size⟩
  · have hok := jsB_t hq
    have hn40 := hok.n
    go_enter Tryz.func36, Tryz.ntmps36
    go_wp2_with (go_at_call 31; refine (specJobsOk_any _ _ _ _ _ (h.below bx)).mono ?_; rw [hq]; rintro e w1 ⟨rfl, hb1⟩)
    have own1 := own0.below hb1
    have bw1 := bx.then hb1 bx.size
    clear own0 hb1 bx
    go_loopw [3, 4] (fun u i wr => ∃ (k g uc : Nat) (ys : List Jb), k ≤ n ∧ i = .int .i64 k ∧ u = .slice (some ⟨g, 0, none⟩) ys.length uc ∧ Hid (OwnJ wr w.heap.size g uc ys) ∧ ys.length ≤ 40 ∧ Hid (ys.Perm (ls.take k)) ∧ Hid (ys.Pairwise notLater) ∧ Below w.heap.size w wr) (fun _ i _ => n - (intOf i).toNat)
    case atStart => exact ⟨0, _, 0, [], by omega, rfl, rfl, own1, by simp, by simp [Hid], List.Pairwise.nil, bw1⟩
    case round =>
      obtain ⟨k, g, uc, ys, hk, rfl, rfl, HO, hy40, HP, HS, hw⟩ := hrel
      rename World => wo
      by_cases hlt : k < n
      · obtain ⟨b, off, rfl, hbw, hat⟩ := h.at_ (by omega)
        have hlt' : (k : Int) < (n : Int) := by omega
        go_wp2
        go_loopw [5] (fun p wr => ∃ m : Nat, m ≤ ys.length ∧ p = .int .i64 m ∧ (∀ x, x < m → jlt (jg ls k) (jg ys x) = false) ∧ Below wo.heap.size wo wr) (fun p _ => ys.length - (intOf p).toNat)
        case atStart => exact ⟨0, by omega, rfl, fun x hx => by omega, Below.refl _ _⟩
        case round =>
          obtain ⟨m, hmy, rfl, hno, hwi⟩ := hrel
          rename World => wi
          have hww := hw.then hwi hw.size
          have hbi : b < wi.heap.size := Nat.lt_of_lt_of_le hbw hww.size
          have hOi := HO.out.below hwi
          have hgi := hOi.lt
          have Hj := (hat.below hww hbw).job (i := k) (by omega)
          have P0 := fun nn os => cell_grown (w := wi) (by exact hbi) Hj.1 nn os
          have P1 := fun nn os => cell_grown (w := wi) (by exact hbi) Hj.2.1 nn os
          have P2 := fun nn os => cell_grown (w := wi) (by exact hbi) Hj.2.2.1 nn os
          have P3 := fun nn os => cell_grown (w := wi) (by exact hbi) Hj.2.2.2.1 nn os
          have P4 := fun nn os => cell_grown (w := wi) (by exact hbi) Hj.2.2.2.2.1 nn os
          have P5 := fun nn os => cell_grown (w := wi) (by exact hbi) Hj.2.2.2.2.2.1 nn os
          have P6 := fun nn os => cell_grown (w := wi) (by exact hbi) Hj.2.2.2.2.2.2 nn os
          have HX : Hid (m < ys.length → jlt (jg ls k) (jg ys m) = true) ∨ (m < ys.length ∧ jlt (jg ls k) (jg ys m) = false) := by
            by_cases h1 : m < ys.length
            · by_cases h2 : jlt (jg ls k) (jg ys m) = true
              · exact Or.inl (fun _ => h2)
              · exact Or.inr ⟨h1, by simpa using h2⟩
            · exact Or.inl (fun h => absurd h h1)
          rcases HX with HX | ⟨hmt, hf⟩
          · by_cases hmt : m < ys.length
            · have ht := HX.out hmt
              have hmt' : (m : Int) < (ys.length : Int) := by omega
              have Hm := hOi.at_.job (i := m) hmt
              rw [Nat.zero_add] at Hm
              have Q0 := fun nn os => cell_grown (w := wi) (by exact hgi) Hm.1 nn os
              have Q1 := fun nn os => cell_grown (w := wi) (by exact hgi) Hm.2.1 nn os
              have Q2 := fun nn os => cell_grown (w := wi) (by exact hgi) Hm.2.2.1 nn os
              have Q3 := fun nn os => cell_grown (w := wi) (by exact hgi) Hm.2.2.2.1 nn os
              have Q4 := fun nn os => cell_grown (w := wi) (by exact hgi) Hm.2.2.2.2.1 nn os
              have Q5 := fun nn os => cell_grown (w := wi) (by exact hgi) Hm.2.2.2.2.2.1 nn os
              have Q6 := fun nn os => cell_grown (w := wi) (by exact hgi) Hm.2.2.2.2.2.2 nn os
              simp only [jlt] at ht
              have CA : ∀ W, Calls Tryz.prog 54 #[.agg #[.int .i64 (jg ls k).id, .int .i64 (jg ls k).cores, .int .i64 (jg ls k).long, .int .i64 (jg ls k).due, .int .i64 (jg ls k).wt, .int .i64 (jg ls k).rank, .int .i64 (jg ls k).at_], .agg #[.int .i64 (jg ys m).id, .int .i64 (jg ys m).cores, .int .i64 (jg ys m).long, .int .i64 (jg ys m).due, .int .i64 (jg ys m).wt, .int .i64 (jg ys m).rank, .int .i64 (jg ys m).at_]] W fun e w' => e = .returned (.bool true) ∧ ∃ q os', w' = grow (W.drewN q) os' := fun W => by rw [← ht]; exact specAhead_grow _ _ _ _ _ _ _ _ _ _ _ _ _ _ W
              clear Hm Hj ht
              go_wp2
              go_quiet_grown ((go_at_call 54; exact Calls.grown_of (CA _)))
              have B3 : Below wo.heap.size wo (grow (wi.drewN nq) osq) := hwi.then (below_grow _ _ _) hwi.size
              obtain ⟨w3, hw3⟩ : ∃ w3, w3 = grow (wi.drewN nq) osq := ⟨_, rfl⟩
              rw [← hw3] at B3 ⊢
              clear hw3
              have hw3 := hw.then B3 hw.size
              have O3 := HO.out.below B3
              have hb3 : w.heap.size ≤ w3.heap.size := hw3.size
              have OE := World.ownsRow_made (base := w.heap.size) (e := 49) (size := 7) w3 #[] 0 hb3 (Nat.zero_le _) rfl
              obtain ⟨ad, HA, HC⟩ : ∃ ad : Addr, (if uc = m then some (⟨g, 0, none⟩ : Addr) else some ⟨g, m * 7, none⟩) = some ad ∧ ∀ j u, (jcells (ys.drop m))[j]? = some u → (w3.alloc (.cells #[] 49)).cell? (ad.add j) = some u := by
                have hlt3 := O3.lt
                by_cases hum : uc = m
                · refine ⟨⟨g, 0, none⟩, if_pos hum, fun j u hju => ?_⟩
                  have hy : ys.drop m = [] := List.drop_eq_nil_of_le (by have := O3.le; omega)
                  rw [hy] at hju
                  simp [jcells] at hju
                · refine ⟨⟨g, m * 7, none⟩, if_neg hum, fun j u hju => ?_⟩
                  have := O3.rest m j u hju
                  rw [Nat.zero_add] at this
                  rw [World.cell?_alloc_lt _ _ _ (World.block_lt_of_cell? w3 _ this)]
                  exact this
              have hjl : (jcells (ys.drop m)).length = (ys.length - m) * 7 := by rw [jcells_len]; simp
              go_wp2_with (at_builtin; refine wpList_append_own_at _ rfl (.tmp 36) (.tmp 39) 27 rfl w.heap.size 49 i1 (.agg #[.int .i64 0, .int .i64 0, .int .i64 0, .int .i64 0, .int .i64 0, .int .i64 0, .int .i64 0]) 7 56 Tryz.underlying27 hj hj0 hj1 hj2 rfl (by decide) _ _ _ rfl OE ad (ys.length - m) (uc - m) (jcells (ys.drop m)) ?ea hjl HC (jcells_one _) (by unfold maxLen; omega) (by omega) (by simp; omega) ?_)
              case ea => rfl
              intro v4 w4 own4 grow4 nil4 at4
              have hv4 : v4 ≠ .slice none 0 0 := nil4
              obtain ⟨rg, rc, rfl, R4⟩ := ownJ_of' (ys := ys.drop m) own4 (by simp) (by simp) hv4
              have hrg : w3.heap.size ≤ rg := by
                rcases at4 with e | e
                · simp [Value.ownBlock] at e; omega
                · simp [Value.ownBlock] at e; omega
              have B4 : Below w3.heap.size w3 w4 := box_below0.grown grow4 (by simp) (fun r e => by simp [Value.ownBlock] at e; omega)
              have O4 := O3.below B4
              have hg3 := O3.lt
              have hww4 := hw3.then B4 hw3.size
              clear own4 grow4 nil4 at4 hv4 HA HC OE
              have HS4 : w4.cell? ⟨b, off + k * 7, none⟩ = some (.int .i64 (jg ls k).id) ∧ w4.cell? ⟨b, off + k * 7 + 1, none⟩ = some (.int .i64 (jg ls k).cores) ∧ w4.cell? ⟨b, off + k * 7 + 2, none⟩ = some (.int .i64 (jg ls k).long) ∧ w4.cell? ⟨b, off + k * 7 + 3, none⟩ = some (.int .i64 (jg ls k).due) ∧ w4.cell? ⟨b, off + k * 7 + 4, none⟩ = some (.int .i64 (jg ls k).wt) ∧ w4.cell? ⟨b, off + k * 7 + 5, none⟩ = some (.int .i64 (jg ls k).rank) ∧ w4.cell? ⟨b, off + k * 7 + 6, none⟩ = some (.int .i64 (jg ls k).at_) := (hat.below hww4 hbw).job (i := k) (by omega)
              have OP : ∀ W, Below w4.heap.size w4 W → W.ownsRow w.heap.size 49 7 (.slice (some ⟨g, 0, none⟩) m uc) m (jcells (ys.take m)) := fun W hW => (O4.below hW).pre hmy
              have hbg : b ≠ g := by have := O3.base; omega
              have hrgg : rg ≠ g := by omega
              have hzw4 : w.heap.size ≤ w4.heap.size := hww4.size
              have hgb : w.heap.size ≤ g := O3.base
              have hmc : (m : Int) ≤ (uc : Int) := by have := O4.le; omega
              have hm0 : (0 : Int) ≤ (m : Int) := by omega
              have hyt : (ys.take m ++ [jg ls k]).length = m + 1 := by simp; omega
              have hyi : (insAt ys m (jg ls k)).length = ys.length + 1 := by unfold insAt; simp; omega
              have KA : Hid (∀ o, ((w4.alloc o).drew).cell? ⟨b, off + k * 7, none⟩ = some (.int .i64 (jg ls k).id) ∧ ((w4.alloc o).drew).cell? ⟨b, off + k * 7 + 1, none⟩ = some (.int .i64 (jg ls k).cores) ∧ ((w4.alloc o).drew).cell? ⟨b, off + k * 7 + 2, none⟩ = some (.int .i64 (jg ls k).long) ∧ ((w4.alloc o).drew).cell? ⟨b, off + k * 7 + 3, none⟩ = some (.int .i64 (jg ls k).due) ∧ ((w4.alloc o).drew).cell? ⟨b, off + k * 7 + 4, none⟩ = some (.int .i64 (jg ls k).wt) ∧ ((w4.alloc o).drew).cell? ⟨b, off + k * 7 + 5, none⟩ = some (.int .i64 (jg ls k).rank) ∧ ((w4.alloc o).drew).cell? ⟨b, off + k * 7 + 6, none⟩ = some (.int .i64 (jg ls k).at_)) := fun o => by
                have hc : ∀ j, ((w4.alloc o).drew).cell? ⟨b, j, none⟩ = w4.cell? ⟨b, j, none⟩ := fun j => by show (w4.alloc o).cell? _ = _; exact World.cell?_alloc_lt _ _ _ (by have := hww4.size; simp; omega)
                rw [hc, hc, hc, hc, hc, hc, hc]; exact HS4
              have Kb : ∀ W W' : World, ∀ gg, W.grownBy W' (some gg) → b ≠ gg → b < W.heap.size → W.cell? ⟨b, off + k * 7, none⟩ = some (.int .i64 (jg ls k).id) ∧ W.cell? ⟨b, off + k * 7 + 1, none⟩ = some (.int .i64 (jg ls k).cores) ∧ W.cell? ⟨b, off + k * 7 + 2, none⟩ = some (.int .i64 (jg ls k).long) ∧ W.cell? ⟨b, off + k * 7 + 3, none⟩ = some (.int .i64 (jg ls k).due) ∧ W.cell? ⟨b, off + k * 7 + 4, none⟩ = some (.int .i64 (jg ls k).wt) ∧ W.cell? ⟨b, off + k * 7 + 5, none⟩ = some (.int .i64 (jg ls k).rank) ∧ W.cell? ⟨b, off + k * 7 + 6, none⟩ = some (.int .i64 (jg ls k).at_) → W'.cell? ⟨b, off + k * 7, none⟩ = some (.int .i64 (jg ls k).id) ∧ W'.cell? ⟨b, off + k * 7 + 1, none⟩ = some (.int .i64 (jg ls k).cores) ∧ W'.cell? ⟨b, off + k * 7 + 2, none⟩ = some (.int .i64 (jg ls k).long) ∧ W'.cell? ⟨b, off + k * 7 + 3, none⟩ = some (.int .i64 (jg ls k).due) ∧ W'.cell? ⟨b, off + k * 7 + 4, none⟩ = some (.int .i64 (jg ls k).wt) ∧ W'.cell? ⟨b, off + k * 7 + 5, none⟩ = some (.int .i64 (jg ls k).rank) ∧ W'.cell? ⟨b, off + k * 7 + 6, none⟩ = some (.int .i64 (jg ls k).at_) := fun W W' gg hg hne hlt hS => by
                have hc : ∀ o, W'.cell? ⟨b, o, none⟩ = W.cell? ⟨b, o, none⟩ := fun o => World.cell?_of_block (a := ⟨b, o, none⟩) (hg.block b hlt (by simpa using hne))
                rw [hc, hc, hc, hc, hc, hc, hc]; exact hS
              have gk : ∀ (W5 : World) (o : Obj), ((w4.alloc o).drew).grownBy W5 (Value.slice (some ⟨g, 0, none⟩) m uc).ownBlock → w4.grownBy W5 (some g) := fun W5 o hg =>
                ⟨hg.os, hg.tape, hg.output, Nat.le_trans (by simp) hg.size, fun r hr hne => (hg.block r (by simp; omega) (by simpa [Value.ownBlock] using hne)).trans (Below.heap_alloc _ _ _ hr)⟩
              have rk : ∀ (W5 : World), w4.grownBy W5 (some g) → ∀ j u, (jcells (ys.drop m))[j]? = some u → W5.cell? ((⟨rg, 0, none⟩ : Addr).add j) = some u := fun W5 hg j u hju => by
                have h1 := World.ownsRow.cells R4.own (g := rg) rfl j u hju
                have hadd : (⟨rg, 0, none⟩ : Addr).add j = ⟨rg, j, none⟩ := by unfold Addr.add; split <;> simp_all
                rw [hadd] at h1 ⊢
                exact (World.cell?_of_block (a := ⟨rg, j, none⟩) (hg.block rg R4.lt (by simpa using hrgg))).trans h1
              have bw5 : ∀ W, Below w4.heap.size w4 W → w4.heap.size ≤ W.heap.size := fun W hW => hW.size
              have HOP : Hid (∀ W, Below w4.heap.size w4 W → W.ownsRow w.heap.size 49 7 (.slice (some ⟨g, 0, none⟩) m uc) m (jcells (ys.take m))) := OP
              have HKb : Hid _ := Kb
              have Hgk : Hid _ := gk
              have Hrk : Hid _ := rk
              clear OP Kb gk rk bw5
              go_wp2
              go_region_held_law (fun w' => w'.cell? ⟨b, off + k * 7, none⟩ = some (.int .i64 (jg ls k).id) ∧ w'.cell? ⟨b, off + k * 7 + 1, none⟩ = some (.int .i64 (jg ls k).cores) ∧ w'.cell? ⟨b, off + k * 7 + 2, none⟩ = some (.int .i64 (jg ls k).long) ∧ w'.cell? ⟨b, off + k * 7 + 3, none⟩ = some (.int .i64 (jg ls k).due) ∧ w'.cell? ⟨b, off + k * 7 + 4, none⟩ = some (.int .i64 (jg ls k).wt) ∧ w'.cell? ⟨b, off + k * 7 + 5, none⟩ = some (.int .i64 (jg ls k).rank) ∧ w'.cell? ⟨b, off + k * 7 + 6, none⟩ = some (.int .i64 (jg ls k).at_)) (first | exact KS6 | exact KS5 | exact HS4 | exact KA.out _ | go_keep) (first
                | (refine step_append_own rfl (.tmp 43) (.tmp 48) 27 rfl w.heap.size 49 i1 (.agg #[.int .i64 0, .int .i64 0, .int .i64 0, .int .i64 0, .int .i64 0, .int .i64 0, .int .i64 0]) 7 56 Tryz.underlying27 hj hj0 hj1 hj2 rfl (by decide) (.slice (some ⟨g, 0, none⟩) m uc) m (jcells (ys.take m)) rfl (HOP.out _ (by first | exact ((Below.refl _ _).alloc (Nat.le_refl _) _).drew | exact (Below.refl _ _).drew.alloc (Nat.le_refl _) _)) ⟨w4.heap.size, 0, none⟩ 1 1 [.int .i64 (jg ls k).id, .int .i64 (jg ls k).cores, .int .i64 (jg ls k).long, .int .i64 (jg ls k).due, .int .i64 (jg ls k).wt, .int .i64 (jg ls k).rank, .int .i64 (jg ls k).at_] rfl rfl (new7_cells _ _ _) (jl_one (jg ls k)) (by unfold maxLen; omega) (by omega) (by simp; omega) ?_
                   intro v5 w5 own5 grow5 nil5 at5
                   obtain ⟨g5, c5, rfl, O5⟩ := ownJ_of' (ys := ys.take m ++ [jg ls k]) own5 hyt.symm (by rw [jcells_app]; rfl) (fun e => by have := (nil5.1 e).2; omega)
                   have B5 : Below w.heap.size w w5 := (by first | exact ((hww4.alloc (by omega) _).drew.grown grow5 (by simp; omega) (fun r e => by simp [Value.ownBlock] at e; omega)) | exact ((hww4.drew.alloc (by simp; omega) _).grown grow5 (by simp; omega) (fun r e => by simp [Value.ownBlock] at e; omega)))
                   have G5 := Hgk.out _ _ grow5
                   have KS5 := HKb.out w4 w5 g G5 hbg (by have := hww4.size; omega) HS4
                   have R5 := Hrk.out _ G5
                   clear nil5 at5)
                | (refine step_append_own rfl (.tmp 49) (.tmp 50) 27 rfl w.heap.size 49 i1 (.agg #[.int .i64 0, .int .i64 0, .int .i64 0, .int .i64 0, .int .i64 0, .int .i64 0, .int .i64 0]) 7 56 Tryz.underlying27 hj hj0 hj1 hj2 rfl (by decide) _ _ _ rfl own5 ⟨rg, 0, none⟩ (ys.length - m) rc (jcells (ys.drop m)) rfl hjl R5 (jcells_one _) (by unfold maxLen; omega) (by omega) B5.size ?_
                   intro v6 w6 own6 grow6 nil6 at6
                   obtain ⟨g6, c6, rfl, O6⟩ := ownJ_of' (ys := insAt ys m (jg ls k)) own6 (by have := hyi; omega) (by unfold insAt; rw [jcells_app, jcells_app]; rfl) (fun e => nomatch (nil6.1 e).1)
                   have B6 : Below w.heap.size w w6 := B5.grown grow6 B5.size (fun r e => by have e' : g5 = r := Option.some.inj e; have := O5.base; omega)
                   have KS6 := HKb.out w5 w6 g5 grow6 (by have := O5.base; omega) (by have := B5.size; omega) KS5
                   clear own6 nil6 at6))
              have HPi : Hid ((insAt ys m (jg ls k)).Perm (ls.take (k + 1))) := by
                unfold Hid
                rw [List.take_succ_eq_append_getElem (by omega), ← jg_get (by omega)]
                exact insAt_perm ys m (jg ls k) HP.out
              have HSi : Hid ((insAt ys m (jg ls k)).Pairwise notLater) := insAt_sorted HS.out hmy hno HX.out
              clear HKb Hgk Hrk HOP KA
              go_wp2
              go_roundw
              case rel => exact ⟨k + 1, g6, c6, insAt ys m (jg ls k), by omega, by go_num, by rw [hyi]; exact congrArg (fun x => Value.slice _ x _) (by omega), O6, by rw [hyi]; exact Nat.le_trans (Nat.succ_le_of_lt (lenBound HP.out hlen hlt)) hn40, HPi, HSi, B6⟩
              case measure => simp [intOf]; omega
            · have hd : decide ((m : Int) < (ys.length : Int)) = false := by simp; omega
              clear Hj
              go_wp2
              go_quiet (fail)
              have B3 : Below wo.heap.size wo (wi.drewN nq) := hwi.drewN _
              obtain ⟨w3, hw3⟩ : ∃ w3, w3 = wi.drewN nq := ⟨_, rfl⟩
              rw [← hw3] at B3 ⊢
              clear hw3
              have hw3 := hw.then B3 hw.size
              have O3 := HO.out.below B3
              have hb3 : w.heap.size ≤ w3.heap.size := hw3.size
              have OE := World.ownsRow_made (base := w.heap.size) (e := 49) (size := 7) w3 #[] 0 hb3 (Nat.zero_le _) rfl
              obtain ⟨ad, HA, HC⟩ : ∃ ad : Addr, (if uc = m then some (⟨g, 0, none⟩ : Addr) else some ⟨g, m * 7, none⟩) = some ad ∧ ∀ j u, (jcells (ys.drop m))[j]? = some u → (w3.alloc (.cells #[] 49)).cell? (ad.add j) = some u := by
                have hlt3 := O3.lt
                by_cases hum : uc = m
                · refine ⟨⟨g, 0, none⟩, if_pos hum, fun j u hju => ?_⟩
                  have hy : ys.drop m = [] := List.drop_eq_nil_of_le (by have := O3.le; omega)
                  rw [hy] at hju
                  simp [jcells] at hju
                · refine ⟨⟨g, m * 7, none⟩, if_neg hum, fun j u hju => ?_⟩
                  have := O3.rest m j u hju
                  rw [Nat.zero_add] at this
                  rw [World.cell?_alloc_lt _ _ _ (World.block_lt_of_cell? w3 _ this)]
                  exact this
              have hjl : (jcells (ys.drop m)).length = (ys.length - m) * 7 := by rw [jcells_len]; simp
              go_wp2_with (at_builtin; refine wpList_append_own_at _ rfl (.tmp 36) (.tmp 39) 27 rfl w.heap.size 49 i1 (.agg #[.int .i64 0, .int .i64 0, .int .i64 0, .int .i64 0, .int .i64 0, .int .i64 0, .int .i64 0]) 7 56 Tryz.underlying27 hj hj0 hj1 hj2 rfl (by decide) _ _ _ rfl OE ad (ys.length - m) (uc - m) (jcells (ys.drop m)) ?eb hjl HC (jcells_one _) (by unfold maxLen; omega) (by omega) (by simp; omega) ?_)
              case eb => rfl
              intro v4 w4 own4 grow4 nil4 at4
              have hv4 : v4 ≠ .slice none 0 0 := nil4
              obtain ⟨rg, rc, rfl, R4⟩ := ownJ_of' (ys := ys.drop m) own4 (by simp) (by simp) hv4
              have hrg : w3.heap.size ≤ rg := by
                rcases at4 with e | e
                · simp [Value.ownBlock] at e; omega
                · simp [Value.ownBlock] at e; omega
              have B4 : Below w3.heap.size w3 w4 := box_below0.grown grow4 (by simp) (fun r e => by simp [Value.ownBlock] at e; omega)
              have O4 := O3.below B4
              have hg3 := O3.lt
              have hww4 := hw3.then B4 hw3.size
              clear own4 grow4 nil4 at4 hv4 HA HC OE
              have HS4 : w4.cell? ⟨b, off + k * 7, none⟩ = some (.int .i64 (jg ls k).id) ∧ w4.cell? ⟨b, off + k * 7 + 1, none⟩ = some (.int .i64 (jg ls k).cores) ∧ w4.cell? ⟨b, off + k * 7 + 2, none⟩ = some (.int .i64 (jg ls k).long) ∧ w4.cell? ⟨b, off + k * 7 + 3, none⟩ = some (.int .i64 (jg ls k).due) ∧ w4.cell? ⟨b, off + k * 7 + 4, none⟩ = some (.int .i64 (jg ls k).wt) ∧ w4.cell? ⟨b, off + k * 7 + 5, none⟩ = some (.int .i64 (jg ls k).rank) ∧ w4.cell? ⟨b, off + k * 7 + 6, none⟩ = some (.int .i64 (jg ls k).at_) := (hat.below hww4 hbw).job (i := k) (by omega)
              have OP : ∀ W, Below w4.heap.size w4 W → W.ownsRow w.heap.size 49 7 (.slice (some ⟨g, 0, none⟩) m uc) m (jcells (ys.take m)) := fun W hW => (O4.below hW).pre hmy
              have hbg : b ≠ g := by have := O3.base; omega
              have hrgg : rg ≠ g := by omega
              have hzw4 : w.heap.size ≤ w4.heap.size := hww4.size
              have hgb : w.heap.size ≤ g := O3.base
              have hmc : (m : Int) ≤ (uc : Int) := by have := O4.le; omega
              have hm0 : (0 : Int) ≤ (m : Int) := by omega
              have hyt : (ys.take m ++ [jg ls k]).length = m + 1 := by simp; omega
              have hyi : (insAt ys m (jg ls k)).length = ys.length + 1 := by unfold insAt; simp; omega
              have KA : Hid (∀ o, ((w4.alloc o).drew).cell? ⟨b, off + k * 7, none⟩ = some (.int .i64 (jg ls k).id) ∧ ((w4.alloc o).drew).cell? ⟨b, off + k * 7 + 1, none⟩ = some (.int .i64 (jg ls k).cores) ∧ ((w4.alloc o).drew).cell? ⟨b, off + k * 7 + 2, none⟩ = some (.int .i64 (jg ls k).long) ∧ ((w4.alloc o).drew).cell? ⟨b, off + k * 7 + 3, none⟩ = some (.int .i64 (jg ls k).due) ∧ ((w4.alloc o).drew).cell? ⟨b, off + k * 7 + 4, none⟩ = some (.int .i64 (jg ls k).wt) ∧ ((w4.alloc o).drew).cell? ⟨b, off + k * 7 + 5, none⟩ = some (.int .i64 (jg ls k).rank) ∧ ((w4.alloc o).drew).cell? ⟨b, off + k * 7 + 6, none⟩ = some (.int .i64 (jg ls k).at_)) := fun o => by
                have hc : ∀ j, ((w4.alloc o).drew).cell? ⟨b, j, none⟩ = w4.cell? ⟨b, j, none⟩ := fun j => by show (w4.alloc o).cell? _ = _; exact World.cell?_alloc_lt _ _ _ (by have := hww4.size; simp; omega)
                rw [hc, hc, hc, hc, hc, hc, hc]; exact HS4
              have Kb : ∀ W W' : World, ∀ gg, W.grownBy W' (some gg) → b ≠ gg → b < W.heap.size → W.cell? ⟨b, off + k * 7, none⟩ = some (.int .i64 (jg ls k).id) ∧ W.cell? ⟨b, off + k * 7 + 1, none⟩ = some (.int .i64 (jg ls k).cores) ∧ W.cell? ⟨b, off + k * 7 + 2, none⟩ = some (.int .i64 (jg ls k).long) ∧ W.cell? ⟨b, off + k * 7 + 3, none⟩ = some (.int .i64 (jg ls k).due) ∧ W.cell? ⟨b, off + k * 7 + 4, none⟩ = some (.int .i64 (jg ls k).wt) ∧ W.cell? ⟨b, off + k * 7 + 5, none⟩ = some (.int .i64 (jg ls k).rank) ∧ W.cell? ⟨b, off + k * 7 + 6, none⟩ = some (.int .i64 (jg ls k).at_) → W'.cell? ⟨b, off + k * 7, none⟩ = some (.int .i64 (jg ls k).id) ∧ W'.cell? ⟨b, off + k * 7 + 1, none⟩ = some (.int .i64 (jg ls k).cores) ∧ W'.cell? ⟨b, off + k * 7 + 2, none⟩ = some (.int .i64 (jg ls k).long) ∧ W'.cell? ⟨b, off + k * 7 + 3, none⟩ = some (.int .i64 (jg ls k).due) ∧ W'.cell? ⟨b, off + k * 7 + 4, none⟩ = some (.int .i64 (jg ls k).wt) ∧ W'.cell? ⟨b, off + k * 7 + 5, none⟩ = some (.int .i64 (jg ls k).rank) ∧ W'.cell? ⟨b, off + k * 7 + 6, none⟩ = some (.int .i64 (jg ls k).at_) := fun W W' gg hg hne hlt hS => by
                have hc : ∀ o, W'.cell? ⟨b, o, none⟩ = W.cell? ⟨b, o, none⟩ := fun o => World.cell?_of_block (a := ⟨b, o, none⟩) (hg.block b hlt (by simpa using hne))
                rw [hc, hc, hc, hc, hc, hc, hc]; exact hS
              have gk : ∀ (W5 : World) (o : Obj), ((w4.alloc o).drew).grownBy W5 (Value.slice (some ⟨g, 0, none⟩) m uc).ownBlock → w4.grownBy W5 (some g) := fun W5 o hg =>
                ⟨hg.os, hg.tape, hg.output, Nat.le_trans (by simp) hg.size, fun r hr hne => (hg.block r (by simp; omega) (by simpa [Value.ownBlock] using hne)).trans (Below.heap_alloc _ _ _ hr)⟩
              have rk : ∀ (W5 : World), w4.grownBy W5 (some g) → ∀ j u, (jcells (ys.drop m))[j]? = some u → W5.cell? ((⟨rg, 0, none⟩ : Addr).add j) = some u := fun W5 hg j u hju => by
                have h1 := World.ownsRow.cells R4.own (g := rg) rfl j u hju
                have hadd : (⟨rg, 0, none⟩ : Addr).add j = ⟨rg, j, none⟩ := by unfold Addr.add; split <;> simp_all
                rw [hadd] at h1 ⊢
                exact (World.cell?_of_block (a := ⟨rg, j, none⟩) (hg.block rg R4.lt (by simpa using hrgg))).trans h1
              have bw5 : ∀ W, Below w4.heap.size w4 W → w4.heap.size ≤ W.heap.size := fun W hW => hW.size
              have HOP : Hid (∀ W, Below w4.heap.size w4 W → W.ownsRow w.heap.size 49 7 (.slice (some ⟨g, 0, none⟩) m uc) m (jcells (ys.take m))) := OP
              have HKb : Hid _ := Kb
              have Hgk : Hid _ := gk
              have Hrk : Hid _ := rk
              clear OP Kb gk rk bw5
              go_wp2
              go_region_held_law (fun w' => w'.cell? ⟨b, off + k * 7, none⟩ = some (.int .i64 (jg ls k).id) ∧ w'.cell? ⟨b, off + k * 7 + 1, none⟩ = some (.int .i64 (jg ls k).cores) ∧ w'.cell? ⟨b, off + k * 7 + 2, none⟩ = some (.int .i64 (jg ls k).long) ∧ w'.cell? ⟨b, off + k * 7 + 3, none⟩ = some (.int .i64 (jg ls k).due) ∧ w'.cell? ⟨b, off + k * 7 + 4, none⟩ = some (.int .i64 (jg ls k).wt) ∧ w'.cell? ⟨b, off + k * 7 + 5, none⟩ = some (.int .i64 (jg ls k).rank) ∧ w'.cell? ⟨b, off + k * 7 + 6, none⟩ = some (.int .i64 (jg ls k).at_)) (first | exact KS6 | exact KS5 | exact HS4 | exact KA.out _ | go_keep) (first
                | (refine step_append_own rfl (.tmp 43) (.tmp 48) 27 rfl w.heap.size 49 i1 (.agg #[.int .i64 0, .int .i64 0, .int .i64 0, .int .i64 0, .int .i64 0, .int .i64 0, .int .i64 0]) 7 56 Tryz.underlying27 hj hj0 hj1 hj2 rfl (by decide) (.slice (some ⟨g, 0, none⟩) m uc) m (jcells (ys.take m)) rfl (HOP.out _ (by first | exact ((Below.refl _ _).alloc (Nat.le_refl _) _).drew | exact (Below.refl _ _).drew.alloc (Nat.le_refl _) _)) ⟨w4.heap.size, 0, none⟩ 1 1 [.int .i64 (jg ls k).id, .int .i64 (jg ls k).cores, .int .i64 (jg ls k).long, .int .i64 (jg ls k).due, .int .i64 (jg ls k).wt, .int .i64 (jg ls k).rank, .int .i64 (jg ls k).at_] rfl rfl (new7_cells _ _ _) (jl_one (jg ls k)) (by unfold maxLen; omega) (by omega) (by simp; omega) ?_
                   intro v5 w5 own5 grow5 nil5 at5
                   obtain ⟨g5, c5, rfl, O5⟩ := ownJ_of' (ys := ys.take m ++ [jg ls k]) own5 hyt.symm (by rw [jcells_app]; rfl) (fun e => by have := (nil5.1 e).2; omega)
                   have B5 : Below w.heap.size w w5 := (by first | exact ((hww4.alloc (by omega) _).drew.grown grow5 (by simp; omega) (fun r e => by simp [Value.ownBlock] at e; omega)) | exact ((hww4.drew.alloc (by simp; omega) _).grown grow5 (by simp; omega) (fun r e => by simp [Value.ownBlock] at e; omega)))
                   have G5 := Hgk.out _ _ grow5
                   have KS5 := HKb.out w4 w5 g G5 hbg (by have := hww4.size; omega) HS4
                   have R5 := Hrk.out _ G5
                   clear nil5 at5)
                | (refine step_append_own rfl (.tmp 49) (.tmp 50) 27 rfl w.heap.size 49 i1 (.agg #[.int .i64 0, .int .i64 0, .int .i64 0, .int .i64 0, .int .i64 0, .int .i64 0, .int .i64 0]) 7 56 Tryz.underlying27 hj hj0 hj1 hj2 rfl (by decide) _ _ _ rfl own5 ⟨rg, 0, none⟩ (ys.length - m) rc (jcells (ys.drop m)) rfl hjl R5 (jcells_one _) (by unfold maxLen; omega) (by omega) B5.size ?_
                   intro v6 w6 own6 grow6 nil6 at6
                   obtain ⟨g6, c6, rfl, O6⟩ := ownJ_of' (ys := insAt ys m (jg ls k)) own6 (by have := hyi; omega) (by unfold insAt; rw [jcells_app, jcells_app]; rfl) (fun e => nomatch (nil6.1 e).1)
                   have B6 : Below w.heap.size w w6 := B5.grown grow6 B5.size (fun r e => by have e' : g5 = r := Option.some.inj e; have := O5.base; omega)
                   have KS6 := HKb.out w5 w6 g5 grow6 (by have := O5.base; omega) (by have := B5.size; omega) KS5
                   clear own6 nil6 at6))
              have HPi : Hid ((insAt ys m (jg ls k)).Perm (ls.take (k + 1))) := by
                unfold Hid
                rw [List.take_succ_eq_append_getElem (by omega), ← jg_get (by omega)]
                exact insAt_perm ys m (jg ls k) HP.out
              have HSi : Hid ((insAt ys m (jg ls k)).Pairwise notLater) := insAt_sorted HS.out hmy hno HX.out
              clear HKb Hgk Hrk HOP KA
              go_wp2
              go_roundw
              case rel => exact ⟨k + 1, g6, c6, insAt ys m (jg ls k), by omega, by go_num, by rw [hyi]; exact congrArg (fun x => Value.slice _ x _) (by omega), O6, by rw [hyi]; exact Nat.le_trans (Nat.succ_le_of_lt (lenBound HP.out hlen hlt)) hn40, HPi, HSi, B6⟩
              case measure => simp [intOf]; omega
          · have hmt' : (m : Int) < (ys.length : Int) := by omega
            have Hm := hOi.at_.job (i := m) hmt
            rw [Nat.zero_add] at Hm
            have Q0 := fun nn os => cell_grown (w := wi) (by exact hgi) Hm.1 nn os
            have Q1 := fun nn os => cell_grown (w := wi) (by exact hgi) Hm.2.1 nn os
            have Q2 := fun nn os => cell_grown (w := wi) (by exact hgi) Hm.2.2.1 nn os
            have Q3 := fun nn os => cell_grown (w := wi) (by exact hgi) Hm.2.2.2.1 nn os
            have Q4 := fun nn os => cell_grown (w := wi) (by exact hgi) Hm.2.2.2.2.1 nn os
            have Q5 := fun nn os => cell_grown (w := wi) (by exact hgi) Hm.2.2.2.2.2.1 nn os
            have Q6 := fun nn os => cell_grown (w := wi) (by exact hgi) Hm.2.2.2.2.2.2 nn os
            have HF : Hid (jlt (jg ls k) (jg ys m) = false) := hf
            simp only [jlt] at hf
            have CA : ∀ W, Calls Tryz.prog 54 #[.agg #[.int .i64 (jg ls k).id, .int .i64 (jg ls k).cores, .int .i64 (jg ls k).long, .int .i64 (jg ls k).due, .int .i64 (jg ls k).wt, .int .i64 (jg ls k).rank, .int .i64 (jg ls k).at_], .agg #[.int .i64 (jg ys m).id, .int .i64 (jg ys m).cores, .int .i64 (jg ys m).long, .int .i64 (jg ys m).due, .int .i64 (jg ys m).wt, .int .i64 (jg ys m).rank, .int .i64 (jg ys m).at_]] W fun e w' => e = .returned (.bool false) ∧ ∃ q os', w' = grow (W.drewN q) os' := fun W => by rw [← hf]; exact specAhead_grow _ _ _ _ _ _ _ _ _ _ _ _ _ _ W
            clear Hm Hj hf
            go_wp2
            go_quiet_grown ((go_at_call 54; exact Calls.grown_of (CA _)))
            go_wp2
            go_roundw
            case rel => exact ⟨m + 1, by omega, by go_num, fun x hx => by (by_cases e : x = m; (subst e; exact HF.out); exact hno x (by omega)), hwi.then (below_grow _ _ _) hwi.size⟩
            case measure => simp [intOf]; omega
      · have e : k = n := by omega
        subst e
        go_wp2
        go_ret
        have hpn : ys.Perm ls := by have := HP.out; rwa [List.take_of_length_le (by omega)] at this
        refine ⟨_, _, _, ys, rfl, HO.out.toS (fun i hi => ?_), Or.inr ⟨hq, hpn, sorted_pw.2 HS.out⟩, hw⟩
        have hmem : jg ys i ∈ ls := hpn.subset (by rw [jg_get hi]; exact List.getElem_mem hi)
        obtain ⟨j, hjl, e⟩ := List.getElem_of_mem hmem
        rw [← e, ← jg_get hjl]
        exact h.wf j (by omega)

end Go.Proofs.YtdgfkcobhhlfbaaGreat

/- Chapter 13's model: the Jobs of a State; the cores in use. -/
namespace Go.Proofs.YtdgfkcobhhlfbaaGreat
open Go.RowKit Go.Sort

/-- the jobs of the first k entries -/
def jbK (ls : List En) (k : Nat) : List Jb := (ls.take k).map (·.job)
theorem jbK_s {ls : List En} {k : Nat} (hk : k < ls.length) : jbK ls (k + 1) = jbK ls k ++ [(eng ls k).job] := by
  unfold jbK
  rw [List.take_succ_eq_append_getElem hk, List.map_append, ← eng_get hk]; rfl
theorem jbK_len {ls : List En} {k : Nat} (hk : k ≤ ls.length) : (jbK ls k).length = k := by unfold jbK; simp; omega
theorem jbK_at {ls : List En} {k i : Nat} (hi : i < k) (hk : k ≤ ls.length) : jg (jbK ls k) i = (eng ls i).job := by
  have h2 : i < ls.length := by omega
  unfold jg jbK
  rw [List.getElem?_map, List.getElem?_take_of_lt hi, List.getElem?_eq_getElem h2, ← eng_get h2]; rfl

theorem nj7_plain (W : World) (j : Jb) (T : TypeId) : ∀ i u, (jl j)[i]? = some u → (W.alloc (.cells #[.int .i64 j.id, .int .i64 j.cores, .int .i64 j.long, .int .i64 j.due, .int .i64 j.wt, .int .i64 j.rank, .int .i64 j.at_] T)).cell? ((⟨W.heap.size, 0, none⟩ : Addr).add i) = some u := by
  intro i u hi
  have hadd : (⟨W.heap.size, 0, none⟩ : Addr).add i = ⟨W.heap.size, i, none⟩ := by unfold Addr.add; split <;> simp_all
  rw [hadd, Joins.cell_alloc_mark_at _ _ _ _ _ _ rfl]
  show (List.toArray (jl j))[i]? = _
  rw [List.getElem?_toArray]
  exact hi

set_option maxRecDepth 8000 in
set_option maxHeartbeats 2000000 in
theorem l13Jobs_any (s : St) (na : Option Addr) (nc : Nat) (ea : Option Addr) (ec : Nat) (w : World) (h : StS w s na nc ea ec) (hs : s.ents.length ≤ 1048576) :
    Calls Tryz.prog 32 #[stV s na nc ea ec] w fun e w' => ∃ g c, e = .returned (.slice (some ⟨g, 0, none⟩) s.ents.length c) ∧ OwnJ w' w.heap.size g c (jbK s.ents s.ents.length) ∧ Below w.heap.size w w' := by
  obtain ⟨i1, hj, hj0, hj1, hj2⟩ := info_parts infoJ
  have hmx := h.en.mx
  have hle := h.en.le
  unfold maxLen at hmx
  unfold stV
  obtain ⟨W0, hW0⟩ : ∃ W0, W0 = (w.alloc (.cells #[.int .i64 s.now, .slice na s.nodes.length nc, .slice ea s.ents.length ec, .int .i64 s.next, .int .i64 s.eps] 32)).alloc (.cells #[] 49) := ⟨_, rfl⟩
  have B0 : Below w.heap.size w W0 := by rw [hW0]; exact box_below0.alloc (by simp) _
  have x0 : W0.heap[w.heap.size]? = some (.cells #[.int .i64 s.now, .slice na s.nodes.length nc, .slice ea s.ents.length ec, .int .i64 s.next, .int .i64 s.eps] 32 (0, 0)) := by rw [hW0]; exact (Below.heap_alloc _ _ _ (by simp)).trans (heap_alloc_new _ _)
  have l0 := lt_of_block x0
  have O0 : OwnJ W0 w.heap.size (w.heap.size + 1) 0 [] := by
    have := World.ownsRow_made (base := w.heap.size) (e := 49) (size := 7) (w.alloc (.cells #[.int .i64 s.now, .slice na s.nodes.length nc, .slice ea s.ents.length ec, .int .i64 s.next, .int .i64 s.eps] 32)) #[] 0 (by simp) (Nat.zero_le _) rfl
    have e : (w.alloc (.cells #[.int .i64 s.now, .slice na s.nodes.length nc, .slice ea s.ents.length ec, .int .i64 s.next, .int .i64 s.eps] 32)).heap.size = w.heap.size + 1 := by simp
    rw [e] at this
    rw [hW0]
    exact ⟨this, Nat.le_refl _, Nat.zero_le _, by omega, by simp⟩
  have HX : Hid (∀ W, Below W0.heap.size W0 W → Box5 W w.heap.size (.int .i64 s.now) (.slice na s.nodes.length nc) (.slice ea s.ents.length ec) (.int .i64 s.next) (.int .i64 s.eps)) := fun W hW => box5 ((hW.block _ l0).trans x0)
  have HE : Hid (∀ W, Below w.heap.size w W → EntS W ea s.ents.length ec s.ents) := fun W hW => h.en.below hW
  have HXW : Hid (∀ W, W.heap[w.heap.size]? = W0.heap[w.heap.size]? → Box5 W w.heap.size (.int .i64 s.now) (.slice na s.nodes.length nc) (.slice ea s.ents.length ec) (.int .i64 s.next) (.int .i64 s.eps)) := fun W hW => box5 (hW.trans x0)
  go_enter Tryz.func32, Tryz.ntmps32
  go_upto_region 2 with fail
  rw [← hW0]
  clear hW0 x0 l0 h
  go_wp2
  go_loopw [3, 4] (fun ov i wr => ∃ (k g c : Nat), k ≤ s.ents.length ∧ i = .int .i64 k ∧ ov = .slice (some ⟨g, 0, none⟩) k c ∧ w.heap.size < g ∧ Hid (OwnJ wr w.heap.size g c (jbK s.ents k)) ∧ wr.heap[w.heap.size]? = W0.heap[w.heap.size]? ∧ Below w.heap.size w wr) (fun _ i _ => s.ents.length - (intOf i).toNat)
  case atStart => exact ⟨0, _, 0, by omega, rfl, rfl, by omega, O0, rfl, B0⟩
  case round =>
    obtain ⟨k, g, c, hk, rfl, rfl, hg, HO, hx, hw⟩ := hrel
    rename World => wr
    clear O0
    obtain ⟨c0, c1, c2, c3, c4, _, _, _, _, _⟩ := HXW.out wr hx
    by_cases hlt : k < s.ents.length
    · obtain ⟨b, off, rfl, hbw, hat⟩ := (HE.out _ hw).at_ (by omega)
      obtain ⟨v, m, E⟩ := hat.row (i := k) hlt
      obtain ⟨d0, d1, d2, d3, d4, d5, d6, d7, d8, d9, d10, hps⟩ := E
      have hlt' : (k : Int) < (s.ents.length : Int) := by omega
      have HJ : Hid (jbK s.ents (k + 1) = jbK s.ents k ++ [(eng s.ents k).job]) := jbK_s hlt
      have hjl := jbK_len hk
      have own5 := HO.out.own
      have hgl := HO.out.lt
      have z5 := hw.size
      rw [hjl] at own5
      clear hat hps
      go_wp2_with (at_builtin; refine wpList_append_own_at _ rfl (.tmp 13) (.tmp 20) 27 rfl w.heap.size 49 i1 (.agg #[.int .i64 0, .int .i64 0, .int .i64 0, .int .i64 0, .int .i64 0, .int .i64 0, .int .i64 0]) 7 56 Tryz.underlying27 hj hj0 hj1 hj2 rfl (by decide) _ _ _ rfl (own5.alloc _) ⟨wr.heap.size, 0, none⟩ 1 1 (jl (eng s.ents k).job) rfl rfl (nj7_plain _ _ _) (jl_one _) (by unfold maxLen; omega) (by omega) (by simp; omega) ?_)
      intro v' w4 hown' hgrow _ hat'
      have B4 : Below w.heap.size w w4 := (hw.alloc z5 _).grown hgrow (by simp; omega) (fun r q => by simp [Value.ownBlock] at q; omega)
      have hv : v' ≠ .slice none 0 0 := fun e => by
        rcases hown'.2 with ⟨_, h0⟩ | ⟨g3, c3, _, e3, _⟩
        · omega
        · rw [e3] at e; cases e
      have x4 : w4.heap[w.heap.size]? = W0.heap[w.heap.size]? := (hgrow.block _ (by simp; omega) (by simp [Value.ownBlock]; omega)).trans ((Below.heap_alloc _ _ _ (by omega)).trans hx)
      obtain ⟨g3, c3', e3, O3⟩ := ownJ_of' (ys := jbK s.ents (k + 1)) hown' (by rw [HJ.out, List.length_append, hjl]; rfl) (by rw [HJ.out, jcells_app]; rfl) hv
      subst e3
      have hg3 : w.heap.size < g3 := by
        rcases hat' with e | e
        · simp [Value.ownBlock] at e; omega
        · simp [Value.ownBlock] at e; omega
      have HO3 : Hid (OwnJ w4 w.heap.size g3 c3' (jbK s.ents (k + 1))) := O3
      clear O3 hown' hgrow hv own5 hat'
      go_wp2
      exact ⟨⟨k + 1, g3, c3', by omega, by go_num, rfl, hg3, HO3, x4, B4⟩, by simp [intOf]; omega⟩
    · obtain rfl : k = s.ents.length := by omega
      have hnn : ¬ (s.ents.length : Int) < (s.ents.length : Int) := by omega
      go_wp2
      go_ret
      exact ⟨g, c, rfl, HO.out, hw⟩

/-- what the first k entries have in use of each node -/
noncomputable def iuK (s : St) : Nat → List Int
  | 0 => List.replicate s.nodes.length 0
  | k + 1 => if (eng s.ents k).ph = 2 then (chF (iuK s k) (eng s.ents k).ps 1).getD [] else iuK s k
theorem iuK_len (s : St) : ∀ k, (iuK s k).length ≤ s.nodes.length
  | 0 => by simp [iuK]
  | k + 1 => by
    have ih := iuK_len s k
    simp only [iuK]
    split
    · exact Nat.le_trans (chF_len _ _ _) ih
    · exact ih

set_option maxRecDepth 8000 in
set_option maxHeartbeats 2000000 in
theorem l13InUse_any (s : St) (na : Option Addr) (nc : Nat) (ea : Option Addr) (ec : Nat) (w : World) (h : StS w s na nc ea ec) (hs : stSmall s) :
    Calls Tryz.prog 35 #[stV s na nc ea ec] w fun e w' => ∃ v c, e = .returned (.slice v (iuK s s.ents.length).length c) ∧ LInt w' w.heap.size v (iuK s s.ents.length).length c (iuK s s.ents.length) ∧ Below w.heap.size w w' := by
  obtain ⟨hs1, hs2, hs3⟩ := hs
  have hmx := h.en.mx
  have hle := h.en.le
  unfold maxLen at hmx
  unfold stV
  obtain ⟨W0, hW0⟩ : ∃ W0, W0 = w.alloc (.cells #[.int .i64 s.now, .slice na s.nodes.length nc, .slice ea s.ents.length ec, .int .i64 s.next, .int .i64 s.eps] 32) := ⟨_, rfl⟩
  have B0 : Below w.heap.size w W0 := by rw [hW0]; exact box_below0
  have x0 : W0.heap[w.heap.size]? = some (.cells #[.int .i64 s.now, .slice na s.nodes.length nc, .slice ea s.ents.length ec, .int .i64 s.next, .int .i64 s.eps] 32 (0, 0)) := by rw [hW0]; exact heap_alloc_new _ _
  have l0 := lt_of_block x0
  have hmk := run_makeM s.nodes.length hs1 W0
  obtain ⟨W1, hW1⟩ : ∃ W1, W1 = W0.alloc (.cells (madeCells #[.int .i64 0] s.nodes.length) 2) := ⟨_, rfl⟩
  have b01 : Below W0.heap.size W0 W1 := by rw [hW1]; exact box_below0
  have B1 : Below w.heap.size w W1 := B0.then b01 B0.size
  have L1 : LInt W1 w.heap.size (some ⟨W0.heap.size, 0, none⟩) s.nodes.length s.nodes.length (iuK s 0) := by
    rw [hW1]
    refine ⟨by simp [iuK], Or.inr ⟨_, rfl, B0.size, ?_, Nat.le_refl _, by unfold maxLen; omega⟩⟩
    have := (LdB.made W0 s.nodes.length).toB
    simpa [iuK] using this
  have x1 := (b01.block _ l0).trans x0
  have l1 := lt_of_block x1
  have HX : Hid (∀ W, Below W1.heap.size W1 W → Box5 W w.heap.size (.int .i64 s.now) (.slice na s.nodes.length nc) (.slice ea s.ents.length ec) (.int .i64 s.next) (.int .i64 s.eps)) := fun W hW => box5 ((hW.block _ l1).trans x1)
  have HE : Hid (∀ W, Below w.heap.size w W → EntS W ea s.ents.length ec s.ents) := fun W hW => h.en.below hW
  obtain ⟨c0, c1, c2, c3, c4, _, _, _, _, _⟩ := box5 x0
  rw [← hW1] at hmk
  go_enter Tryz.func35, Tryz.ntmps35
  go_upto_region 1 with fail
  rw [← hW0]
  clear hW0 x0 l0 h x1 l1 hW1
  go_upto_region 2 with fail
  clear hmk c0 c1 c2 c3 c4
  generalize hz9 : s.nodes.length = nn at L1 ⊢
  have HNN : Hid (s.nodes.length = nn) := hz9
  clear hz9
  go_wp2
  go_loopw [3, 4] (fun ov i wr => ∃ (k : Nat) (v : Option Addr) (n c : Nat), k ≤ s.ents.length ∧ i = .int .i64 k ∧ ov = .slice v n c ∧ Hid (LInt wr w.heap.size v n c (iuK s k)) ∧ Below W1.heap.size W1 wr) (fun _ i _ => s.ents.length - (intOf i).toNat)
  case atStart => exact ⟨0, _, _, _, by omega, rfl, rfl, L1, Below.refl _ _⟩
  case round =>
    obtain ⟨k, v, n, c, hk, rfl, rfl, HL, hw1⟩ := hrel
    rename World => wr
    clear L1
    have hw := B1.then hw1 B1.size
    obtain ⟨c0, c1, c2, c3, c4, _, _, _, _, _⟩ := HX.out wr hw1
    by_cases hlt : k < s.ents.length
    · obtain ⟨b, off, rfl, hbw, hat⟩ := (HE.out _ hw).at_ (by omega)
      obtain ⟨pv, pm, E⟩ := hat.row (i := k) hlt
      obtain ⟨d0, d1, d2, d3, d4, d5, d6, d7, d8, d9, d10, hps⟩ := E
      have hlt' : (k : Int) < (s.ents.length : Int) := by omega
      clear hat
      by_cases hph : (eng s.ents k).ph = 2
      · have hp' : ((eng s.ents k).ph == 2) = true := by simpa using hph
        have HI : Hid (iuK s (k + 1) = (chF (iuK s k) (eng s.ents k).ps 1).getD []) := by unfold Hid; simp only [iuK]; rw [if_pos hph]
        have hnl := HL.out.1
        have hil := iuK_len s k
        have hsk := hs3 k hlt
        have hnc : v = none → c = 0 := fun e => by
          rcases HL.out.2 with ⟨_, h2, _⟩ | ⟨g, h2, _⟩
          · exact h2
          · rw [h2] at e; cases e
        have hLS := HL.out.toS
        obtain ⟨u2, hu2⟩ : ∃ u2, u2 = iuK s (k + 1) := ⟨_, rfl⟩
        have HU2 : Hid (iuK s (k + 1) = u2) := hu2.symm
        have HI2 := HI.out
        rw [← hu2] at HI2
        generalize iuK s k = u at hnl hil hLS HI2
        have CT := specTaken_any v pv n c (eng s.ents k).ps.length pm u (eng s.ents k).ps wr hLS hps hnc (by omega) (by omega)
        rw [← HI2] at CT
        clear hph hps hu2 HI2 HI hLS hnc hnl hil HL
        go_wp2_with (go_at_call 53; refine CT.mono ?_; rintro e w2 ⟨v2, c2', rfl, hL2, hb2⟩)
        exact ⟨⟨k + 1, v2, _, c2', by omega, by go_num, rfl, by rw [HU2.out]; exact hL2.low hw.size, hw1.then hb2 hw1.size⟩, by simp [intOf]; omega⟩
      · have hp' : ((eng s.ents k).ph == 2) = false := by simpa using hph
        have HI : Hid (iuK s (k + 1) = iuK s k) := by unfold Hid; simp only [iuK]; rw [if_neg hph]
        clear hph hps
        go_wp2
        exact ⟨⟨k + 1, v, n, c, by omega, by go_num, rfl, by rw [HI.out]; exact HL, hw1⟩, by simp [intOf]; omega⟩
    · obtain rfl : k = s.ents.length := by omega
      have hnn : ¬ (s.ents.length : Int) < (s.ents.length : Int) := by omega
      have hl9 := HL.out.1
      go_wp2
      go_ret
      exact ⟨v, c, by rw [← hl9]; rfl, by rw [← hl9]; exact HL.out, hw⟩

end Go.Proofs.YtdgfkcobhhlfbaaGreat

/- Chapter 13's model: are these a running job's parts? -/
namespace Go.Proofs.YtdgfkcobhhlfbaaGreat
open Go.RowKit Go.Sort

/-- the cores of the first k parts -/
def csK (ps : List Pt) : Nat → Int
  | 0 => 0
  | k + 1 => csK ps k + (ptg ps k).cores
/-- part i is one of the nodes', not down, behind the one ahead -/
def Pr1 (ns : List Nd) (ps : List Pt) (i : Nat) : Prop := (0 ≤ (ptg ps i).node ∧ (ptg ps i).node ≤ (ns.length : Int) - 1) ∧ (1 ≤ (ptg ps i).cores ∧ (ptg ps i).cores ≤ 100) ∧ (ndg ns (ptg ps i).node.toNat).state ≠ 3 ∧ (0 < i → (ptg ps (i - 1)).node < (ptg ps i).node)
def PrOk (ns : List Nd) (cores : Int) (ps : List Pt) : Prop := (∀ i, i < ps.length → Pr1 ns ps i) ∧ csK ps ps.length = cores
noncomputable def prB (ns : List Nd) (cores : Int) (ps : List Pt) : Bool := @decide (PrOk ns cores ps) (Classical.propDecidable _)
theorem prB_mk {ns : List Nd} {cores : Int} {ps : List Pt} (h : PrOk ns cores ps) : prB ns cores ps = true := @decide_eq_true _ (Classical.propDecidable _) h
theorem prB_no {ns : List Nd} {cores : Int} {ps : List Pt} (h : ¬ PrOk ns cores ps) : prB ns cores ps = false := @decide_eq_false _ (Classical.propDecidable _) h
theorem prB_t {ns : List Nd} {cores : Int} {ps : List Pt} (h : prB ns cores ps = true) : PrOk ns cores ps := @of_decide_eq_true _ (Classical.propDecidable _) h
theorem prB_bad {ns : List Nd} {cores : Int} {ps : List Pt} {i : Nat} (hi : i < ps.length) (h : ¬ Pr1 ns ps i) : prB ns cores ps = false := prB_no fun q => h (q.1 i hi)
theorem csK_bd {ns : List Nd} {ps : List Pt} : ∀ k, (∀ i, i < k → Pr1 ns ps i) → 0 ≤ csK ps k ∧ csK ps k ≤ 100 * (k : Int)
  | 0, _ => by simp [csK]
  | k + 1, h => by
    have ih := csK_bd k fun i hi => h i (by omega)
    have := (h k (by omega)).2.1
    simp only [csK]; push_cast; omega

set_option maxRecDepth 8000 in
set_option maxHeartbeats 4000000 in
theorem l13Parts_any (ns : List Nd) (e : En) (na : Option Addr) (nn nc : Nat) (v : Option Addr) (m : Nat) (w : World) (hN : NodeS w na nn nc ns) (hP : PartS w v e.ps.length m e.ps) (hn : nn ≤ 1048576) (hp : e.ps.length ≤ 1048576) :
    Calls Tryz.prog 33 #[.slice na nn nc, enV e v m] w fun en w' => en = .returned (.bool (prB ns e.job.cores e.ps)) ∧ Below w.heap.size w w' := by
  have hnl := hN.len
  have hmx := hP.mx
  have hle := hP.le
  unfold maxLen at hmx
  obtain ⟨r, hr⟩ : ∃ r, r = prB ns e.job.cores e.ps := ⟨_, rfl⟩
  have HR : Hid (r = prB ns e.job.cores e.ps) := hr
  rw [← hr]
  clear hr
  have hmo : Tryz.prog.follows .mixedOrders = true := by kernel_rfl
  unfold enV
  obtain ⟨W0, hW0⟩ : ∃ W0, W0 = w.alloc (.cells #[.int .i64 e.job.id, .int .i64 e.job.cores, .int .i64 e.job.long, .int .i64 e.job.due, .int .i64 e.job.wt, .int .i64 e.job.rank, .int .i64 e.job.at_, .int .i64 e.ph, .int .i64 e.st, .int .i64 e.ep, .slice v e.ps.length m] 64) := ⟨_, rfl⟩
  have B0 : Below w.heap.size w W0 := by rw [hW0]; exact box_below0
  have x0 : W0.heap[w.heap.size]? = some (.cells #[.int .i64 e.job.id, .int .i64 e.job.cores, .int .i64 e.job.long, .int .i64 e.job.due, .int .i64 e.job.wt, .int .i64 e.job.rank, .int .i64 e.job.at_, .int .i64 e.ph, .int .i64 e.st, .int .i64 e.ep, .slice v e.ps.length m] 64 (0, 0)) := by rw [hW0]; exact heap_alloc_new _ _
  have l0 := lt_of_block x0
  have HX : Hid (∀ W, Below W0.heap.size W0 W → W.cell? ⟨w.heap.size, 1, none⟩ = some (.int .i64 e.job.cores) ∧ W.cell? ⟨w.heap.size, 10, none⟩ = some (.slice v e.ps.length m)) := fun W hW => by
    have := box11 ((hW.block _ l0).trans x0)
    exact ⟨this.c1, this.c10⟩
  have HPS : Hid (∀ W, Below w.heap.size w W → PartS W v e.ps.length m e.ps) := fun W hW => hP.below hW
  have HNS : Hid (∀ W, Below w.heap.size w W → NodeS W na nn nc ns) := fun W hW => hN.below hW
  go_enter Tryz.func33, Tryz.ntmps33
  go_upto_region 1 with fail
  rw [← hW0]
  clear hW0 x0 l0 hN hP
  go_wp2
  go_loopw [5, 6] (fun sv i wr => ∃ k : Nat, k ≤ e.ps.length ∧ i = .int .i64 k ∧ sv = .int .i64 (csK e.ps k) ∧ Hid (∀ i, i < k → Pr1 ns e.ps i) ∧ Below W0.heap.size W0 wr) (fun _ i _ => e.ps.length - (intOf i).toNat)
  case atStart => exact ⟨0, by omega, rfl, rfl, fun i hi => by omega, Below.refl _ _⟩
  case round =>
    obtain ⟨k, hk, rfl, rfl, hok, hw1⟩ := hrel
    rename World => wr
    have hw := B0.then hw1 B0.size
    obtain ⟨c1, c10⟩ := HX.out wr hw1
    have cb := csK_bd k hok.out
    by_cases hlt : k < e.ps.length
    · obtain ⟨b, off, rfl, hbw, hat⟩ := (HPS.out _ hw).at_ (by omega)
      obtain ⟨p0, p1⟩ := hat.row (i := k) (by omega)
      have hlt' : (k : Int) < (e.ps.length : Int) := by omega
      obtain ⟨W1, hW1⟩ : ∃ W1, W1 = wr.alloc (.cells #[.int .i64 (ptg e.ps k).node, .int .i64 (ptg e.ps k).cores] 85) := ⟨_, rfl⟩
      have b1 : Below wr.heap.size wr W1 := by rw [hW1]; exact box_below0
      have B1 := hw.then b1 hw.size
      have hw3 := hw1.then b1 hw1.size
      have y0 : W1.cell? ⟨wr.heap.size, 0, none⟩ = some (.int .i64 (ptg e.ps k).node) := by rw [hW1]; simp
      have y1 : W1.cell? ⟨wr.heap.size, 1, none⟩ = some (.int .i64 (ptg e.ps k).cores) := by rw [hW1]; simp
      obtain ⟨_, z10⟩ := HX.out W1 hw3
      obtain ⟨pn, hpn⟩ : ∃ pn, pn = (ptg e.ps k).node := ⟨_, rfl⟩
      obtain ⟨pc, hpc⟩ : ∃ pc, pc = (ptg e.ps k).cores := ⟨_, rfl⟩
      have HPN : Hid (pn = (ptg e.ps k).node) := hpn
      have HPC : Hid (pc = (ptg e.ps k).cores) := hpc
      rw [← hpn] at y0
      rw [← hpc] at y1
      have i1 : (0 : Int) ≤ (k : Int) := by omega
      go_upto_region 6 with fail
      rw [← hW1]
      have hatB : PartAt W1 b off e.ps := hat.below b1 hbw
      clear hW1 p0 p1 c10 c1 hat
      rw [← hpn, ← hpc]
      clear hpn hpc
      rcases q1 : inB pn 0 ((nn : Int) - 1) with _ | _
      · have E : Hid (r = false) := HR.out.trans (prB_bad hlt fun q => by have := q.1; have := nin_f q1; have := HPN.out; omega)
        clear HX HPS HNS HR cb hok
        go_quiet ((go_at_call 29; exact Calls.quiet_of_same (l1In_any _ _ _ _)))
        go_wp2
        go_ret
        exact ⟨by rw [E.out]; rfl, B1.drewN _⟩
      · have n1 := nin_t q1
        rcases q2 : inB pc 1 100 with _ | _
        · have E : Hid (r = false) := HR.out.trans (prB_bad hlt fun q => by have := q.2.1; have := nin_f q2; have := HPC.out; omega)
          clear HX HPS HNS HR cb hok
          go_quiet ((go_at_call 29; exact Calls.quiet_of_same (l1In_any _ _ _ _)))
          go_wp2
          go_ret
          exact ⟨by rw [E.out]; rfl, B1.drewN _⟩
        · have n2 := nin_t q2
          have hNS := HNS.out W1 B1
          obtain ⟨bn, offn, rfl, hbn, hatn⟩ := hNS.at_ (by omega)
          obtain ⟨_, x1⟩ := hatn.row (i := pn.toNat) (by omega)
          have i3 : pn < (nn : Int) := by omega
          obtain ⟨g, hg⟩ : ∃ g, g = (ndg ns pn.toNat).state := ⟨_, rfl⟩
          have HG : Hid (g = (ndg ns pn.toNat).state) := hg
          rw [← hg] at x1
          clear hg hNS hatn
          rcases q3 : (g == 3) with _ | _
          · by_cases hk0 : 0 < k
            · have hk1 : (k : Int) > 0 := by omega
              have i4 : (0 : Int) ≤ (k : Int) - 1 := by omega
              have i5 : (k : Int) - 1 < (e.ps.length : Int) := by omega
              obtain ⟨z0, _⟩ := (show PartAt W1 b off e.ps from hatB).row (i := k - 1) (by omega)
              have hkk : ((k : Int) - 1).toNat = k - 1 := by omega
              obtain ⟨q, hq⟩ : ∃ q, q = (ptg e.ps (k - 1)).node := ⟨_, rfl⟩
              have HQ : Hid (q = (ptg e.ps (k - 1)).node) := hq
              rw [← hq] at z0
              clear hq
              by_cases q4 : pn ≤ q
              · have E : Hid (r = false) := HR.out.trans (prB_bad hlt fun p => by have := p.2.2.2 hk0; have := HQ.out; have := HPN.out; omega)
                clear HX HPS HNS HR cb hok
                go_quiet ((go_at_call 29; exact Calls.quiet_of_same (l1In_any _ _ _ _)))
                go_wp2
                go_ret
                exact ⟨by rw [E.out]; rfl, B1.drewN _⟩
              · have N : Hid (∀ i, i < k + 1 → Pr1 ns e.ps i) := fun i hi => by
                  by_cases e' : i = k
                  · subst e'
                    exact ⟨by rw [← HPN.out]; omega, by rw [← HPC.out]; omega, by rw [← HPN.out, ← HG.out]; simpa using q3, fun _ => by have := HQ.out; have := HPN.out; omega⟩
                  · exact hok.out i (by omega)
                have E : Hid (csK e.ps (k + 1) = csK e.ps k + pc) := by unfold Hid; simp only [csK]; rw [HPC.out]
                clear HX HPS HNS HR hok
                go_quiet ((go_at_call 29; exact Calls.quiet_of_same (l1In_any _ _ _ _)))
                go_wp2
                go_roundw
                case rel => exact ⟨k + 1, by omega, by go_num, by rw [E.out], N, hw3.drewN _⟩
                case measure => simp [intOf]; omega
            · have hk1 : ¬ (k : Int) > 0 := by omega
              have N : Hid (∀ i, i < k + 1 → Pr1 ns e.ps i) := fun i hi => by
                by_cases e' : i = k
                · subst e'
                  exact ⟨by rw [← HPN.out]; omega, by rw [← HPC.out]; omega, by rw [← HPN.out, ← HG.out]; simpa using q3, fun p => absurd p hk0⟩
                · exact hok.out i (by omega)
              have E : Hid (csK e.ps (k + 1) = csK e.ps k + pc) := by unfold Hid; simp only [csK]; rw [HPC.out]
              clear HX HPS HNS HR hok
              go_quiet ((go_at_call 29; exact Calls.quiet_of_same (l1In_any _ _ _ _)))
              go_wp2
              go_roundw
              case rel => exact ⟨k + 1, by omega, by go_num, by rw [E.out], N, hw3.drewN _⟩
              case measure => simp [intOf]; omega
          · have E : Hid (r = false) := HR.out.trans (prB_bad hlt fun q => q.2.2.1 (by rw [← HPN.out, ← HG.out]; simpa using q3))
            clear HX HPS HNS HR cb hok
            go_quiet ((go_at_call 29; exact Calls.quiet_of_same (l1In_any _ _ _ _)))
            go_wp2
            go_ret
            exact ⟨by rw [E.out]; rfl, B1.drewN _⟩
    · obtain rfl : k = e.ps.length := by omega
      have hnn : ¬ (e.ps.length : Int) < (e.ps.length : Int) := by omega
      have E : Hid (r = (csK e.ps e.ps.length == e.job.cores)) := HR.out.trans (by
        by_cases q : csK e.ps e.ps.length = e.job.cores
        · rw [prB_mk ⟨hok.out, q⟩, q]; simp
        · rw [prB_no fun h => q h.2]; simpa using q)
      go_wp2
      go_ret
      exact ⟨by rw [E.out]; rfl, hw⟩

end Go.Proofs.YtdgfkcobhhlfbaaGreat

/- Chapter 13's model: is this a right State? -/
namespace Go.Proofs.YtdgfkcobhhlfbaaGreat
open Go.RowKit Go.Sort

/-- what the numbers of entry i of a right State keep -/
structure EnA (s : St) (i : Nat) (e : En) : Prop where
  nx : e.job.id < s.next
  at_ : e.job.at_ ≤ s.now
  wt : e.job.wt = 0
  due : e.job.due = 1000000000
  up : 0 < i → (eng s.ents (i - 1)).job.id < e.job.id
  ph : 1 ≤ e.ph ∧ e.ph ≤ 5
  ep : 0 ≤ e.ep ∧ e.ep ≤ s.eps
  st : 0 ≤ e.st ∧ e.st ≤ s.now
/-- and what its phase asks -/
structure EnP (s : St) (i : Nat) (e : En) : Prop where
  q : e.ph = 1 → e.st = 0 ∧ e.ep = 0 ∧ e.ps.length = 0
  r : e.ph = 2 → 1 ≤ e.ep ∧ PrOk s.nodes e.job.cores e.ps ∧ ∀ k, k < i → ¬ ((eng s.ents k).ph = 2 ∧ (eng s.ents k).ep = e.ep)
  o : e.ph ≠ 1 → e.ph ≠ 2 → e.ps.length = 0
structure SOk (s : St) : Prop where
  now : 0 ≤ s.now ∧ s.now ≤ 999999999
  nd : NsOk s.nodes
  js : JsOk (jbK s.ents s.ents.length)
  nx : 1 ≤ s.next ∧ s.next ≤ 1000000
  eps : 0 ≤ s.eps ∧ s.eps ≤ 1000000
  en : ∀ i, i < s.ents.length → EnA s i (eng s.ents i) ∧ EnP s i (eng s.ents i)
  us : UsOk s.nodes (iuK s s.ents.length)
noncomputable def soB (s : St) : Bool := @decide (SOk s) (Classical.propDecidable _)
theorem soB_mk {s : St} (h : SOk s) : soB s = true := @decide_eq_true _ (Classical.propDecidable _) h
theorem soB_no {s : St} (h : ¬ SOk s) : soB s = false := @decide_eq_false _ (Classical.propDecidable _) h
theorem soB_t {s : St} (h : soB s = true) : SOk s := @of_decide_eq_true _ (Classical.propDecidable _) h
theorem soB_f {s : St} (h : soB s = false) : ¬ SOk s := @of_decide_eq_false _ (Classical.propDecidable _) h
theorem soB_a {s : St} {i : Nat} (hi : i < s.ents.length) (h : ¬ EnA s i (eng s.ents i)) : soB s = false := soB_no fun q => h (q.en i hi).1
theorem soB_p {s : St} {i : Nat} (hi : i < s.ents.length) (h : ¬ EnP s i (eng s.ents i)) : soB s = false := soB_no fun q => h (q.en i hi).2

theorem jbK_wf {ls : List En} (h : ∀ i, i < ls.length → enwf (eng ls i)) : ∀ i, i < (jbK ls ls.length).length → jwf (jg (jbK ls ls.length) i) := fun i hi c hc => by
  rw [jbK_len (Nat.le_refl _)] at hi
  rw [jbK_at hi (Nat.le_refl _)]
  have := (h i hi).1 c (by omega)
  unfold enc at this
  rwa [if_pos hc] at this
theorem ownJ_toS {w : World} {base g c : Nat} {ls : List En} (h : OwnJ w base g c (jbK ls ls.length)) (hw : ∀ i, i < ls.length → enwf (eng ls i)) : JobS w (some ⟨g, 0, none⟩) ls.length c (jbK ls ls.length) := by
  have := h.toS (jbK_wf hw)
  rwa [jbK_len (Nat.le_refl _)] at this

end Go.Proofs.YtdgfkcobhhlfbaaGreat

/- A right State as the program asks for it: mathematics. -/
namespace Go.Proofs.YtdgfkcobhhlfbaaGreat
open Go.RowKit Go.Sort

/-- the first k entries' of this phase -/
def inK (ls : List En) (p : Int) (k : Nat) : List En := (ls.take k).filter fun e => e.ph == p
theorem inK_yes {ls : List En} {p : Int} {k : Nat} (hk : k < ls.length) (h : (eng ls k).ph = p) : inK ls p (k + 1) = inK ls p k ++ [eng ls k] := by
  unfold inK
  rw [List.take_succ_eq_append_getElem hk, List.filter_append, ← eng_get hk]
  simp [h]
theorem inK_no {ls : List En} {p : Int} {k : Nat} (hk : k < ls.length) (h : (eng ls k).ph ≠ p) : inK ls p (k + 1) = inK ls p k := by
  unfold inK
  rw [List.take_succ_eq_append_getElem hk, List.filter_append, ← eng_get hk]
  simp [h]
theorem inK_le {ls : List En} {p : Int} {k : Nat} (hk : k ≤ ls.length) : (inK ls p k).length ≤ k := by
  unfold inK
  have := List.length_filter_le (fun e : En => e.ph == p) (ls.take k)
  simp at this ⊢
  omega
theorem inK_mem {ls : List En} {p : Int} {k : Nat} {e : En} (h : e ∈ inK ls p k) : ∃ i, i < ls.length ∧ e = eng ls i ∧ e.ph = p := by
  unfold inK at h
  obtain ⟨h1, h2⟩ := List.mem_filter.1 h
  obtain ⟨i, hi, rfl⟩ := List.mem_iff_getElem.1 (List.mem_of_mem_take h1)
  exact ⟨i, hi, (eng_get hi).symm, by simpa using h2⟩
theorem eng_mem {ls : List En} {i : Nat} (h : i < ls.length) : eng ls i ∈ ls := by rw [eng_get h]; exact List.getElem_mem h
theorem inK_at {ls : List En} {p : Int} {k i : Nat} (h : i < (inK ls p k).length) : ∃ j, j < ls.length ∧ eng (inK ls p k) i = eng ls j ∧ (eng ls j).ph = p := by
  obtain ⟨j, hj, e, h2⟩ := inK_mem (eng_mem h)
  exact ⟨j, hj, e, by rw [← e]; exact h2⟩
theorem inK_has {ls : List En} {p : Int} {j : Nat} (hj : j < ls.length) (h : (eng ls j).ph = p) : eng ls j ∈ inK ls p ls.length := by
  unfold inK
  rw [List.take_length]
  exact List.mem_filter.2 ⟨eng_mem hj, by simpa using h⟩
theorem eng_app {a : List En} {x : En} {i : Nat} (h : i < a.length) : eng (a ++ [x]) i = eng a i := by
  unfold eng; rw [List.getElem?_append_left h]
theorem eng_last {a : List En} {x : En} : eng (a ++ [x]) a.length = x := by simp [eng]

/-- what these have in use -/
noncomputable def usK (nn : Nat) (ls : List En) : Nat → List Int
  | 0 => List.replicate nn 0
  | k + 1 => (chF (usK nn ls k) (eng ls k).ps 1).getD []
theorem usK_len (nn : Nat) (ls : List En) : ∀ k, (usK nn ls k).length ≤ nn
  | 0 => by simp [usK]
  | k + 1 => by simp only [usK]; exact Nat.le_trans (chF_len _ _ _) (usK_len nn ls k)
theorem usK_app (nn : Nat) (a : List En) (x : En) : ∀ k, k ≤ a.length → usK nn (a ++ [x]) k = usK nn a k
  | 0, _ => rfl
  | k + 1, h => by simp only [usK]; rw [usK_app nn a x k (by omega), eng_app (by omega)]
theorem iuK_us (s : St) : ∀ k, k ≤ s.ents.length → iuK s k = usK s.nodes.length (inK s.ents 2 k) (inK s.ents 2 k).length
  | 0, _ => by simp [iuK, inK, usK]
  | k + 1, h => by
    have ih := iuK_us s k (by omega)
    by_cases q : (eng s.ents k).ph = 2
    · rw [inK_yes (by omega) q, List.length_append]
      simp only [iuK, List.length_cons, List.length_nil, usK]
      rw [if_pos q, ih, usK_app _ _ _ _ (Nat.le_refl _), eng_last]
    · rw [inK_no (by omega) q]
      simp only [iuK]
      rw [if_neg q, ih]

/-- ids never fall -/
def jsrt (l : List Jb) : Prop := ∀ i, 0 < i → i < l.length → (jg l (i - 1)).id ≤ (jg l i).id
noncomputable def jsrtB (l : List Jb) : Bool := @decide (jsrt l) (Classical.propDecidable _)
theorem jsrtB_mk {l : List Jb} (h : jsrt l) : jsrtB l = true := @decide_eq_true _ (Classical.propDecidable _) h
theorem jsrtB_no {l : List Jb} (h : ¬ jsrt l) : jsrtB l = false := @decide_eq_false _ (Classical.propDecidable _) h
theorem jsrtB_t {l : List Jb} (h : jsrtB l = true) : jsrt l := @of_decide_eq_true _ (Classical.propDecidable _) h
theorem jsrtB_f {l : List Jb} (h : jsrtB l = false) : ¬ jsrt l := @of_decide_eq_false _ (Classical.propDecidable _) h

/-- is this Entry right by itself? -/
structure EoOk (s : St) (e : En) : Prop where
  at_ : e.job.at_ ≤ s.now
  wt : e.job.wt = 0
  due : e.job.due = 1000000000
  nx : e.job.id < s.next
  st : 0 ≤ e.st ∧ e.st ≤ s.now
  ep : 0 ≤ e.ep ∧ e.ep ≤ s.eps
  ph : (e.ph = 1 ∧ e.st = 0 ∧ e.ep = 0 ∧ e.ps.length = 0) ∨ (e.ph = 2 ∧ 0 < e.ep) ∨ ((e.ph = 3 ∨ e.ph = 4 ∨ e.ph = 5) ∧ e.ps.length = 0)
noncomputable def eoB (s : St) (e : En) : Bool := @decide (EoOk s e) (Classical.propDecidable _)
theorem eoB_mk {s : St} {e : En} (h : EoOk s e) : eoB s e = true := @decide_eq_true _ (Classical.propDecidable _) h
theorem eoB_no {s : St} {e : En} (h : ¬ EoOk s e) : eoB s e = false := @decide_eq_false _ (Classical.propDecidable _) h
theorem eoB_t {s : St} {e : En} (h : eoB s e = true) : EoOk s e := @of_decide_eq_true _ (Classical.propDecidable _) h
theorem eoB_f {s : St} {e : En} (h : eoB s e = false) : ¬ EoOk s e := @of_decide_eq_false _ (Classical.propDecidable _) h
/-- are the first k? -/
def eoTo (s : St) (ls : List En) (k : Nat) : Prop := ∀ i, i < k → eoB s (eng ls i) = true
noncomputable def eoTB (s : St) (ls : List En) : Bool := @decide (eoTo s ls ls.length) (Classical.propDecidable _)
theorem eoTB_mk {s : St} {ls : List En} (h : eoTo s ls ls.length) : eoTB s ls = true := @decide_eq_true _ (Classical.propDecidable _) h
theorem eoTB_no {s : St} {ls : List En} (h : ¬ eoTo s ls ls.length) : eoTB s ls = false := @decide_eq_false _ (Classical.propDecidable _) h
theorem eoTB_t {s : St} {ls : List En} (h : eoTB s ls = true) : eoTo s ls ls.length := @of_decide_eq_true _ (Classical.propDecidable _) h
theorem eoTB_f {s : St} {ls : List En} (h : eoTB s ls = false) : ¬ eoTo s ls ls.length := @of_decide_eq_false _ (Classical.propDecidable _) h

/-- part i, as the program holds it against its node -/
def Pp1 (ns : List Nd) (ps : List Pt) (i : Nat) : Prop := (0 ≤ (ptg ps i).node ∧ (ptg ps i).node ≤ (ns.length : Int) - 1) ∧ (1 ≤ (ptg ps i).cores ∧ (ptg ps i).cores ≤ (ndg ns (ptg ps i).node.toNat).cores) ∧ (ndg ns (ptg ps i).node.toNat).state ≠ 3 ∧ (0 < i → (ptg ps (i - 1)).node < (ptg ps i).node)
def PpOk (ns : List Nd) (cores : Int) (ps : List Pt) : Prop := (∀ i, i < ps.length → Pp1 ns ps i) ∧ csK ps ps.length = cores
noncomputable def ppB (ns : List Nd) (cores : Int) (ps : List Pt) : Bool := @decide (PpOk ns cores ps) (Classical.propDecidable _)
theorem ppB_mk {ns : List Nd} {cores : Int} {ps : List Pt} (h : PpOk ns cores ps) : ppB ns cores ps = true := @decide_eq_true _ (Classical.propDecidable _) h
theorem ppB_no {ns : List Nd} {cores : Int} {ps : List Pt} (h : ¬ PpOk ns cores ps) : ppB ns cores ps = false := @decide_eq_false _ (Classical.propDecidable _) h
theorem ppB_t {ns : List Nd} {cores : Int} {ps : List Pt} (h : ppB ns cores ps = true) : PpOk ns cores ps := @of_decide_eq_true _ (Classical.propDecidable _) h
theorem ppB_f {ns : List Nd} {cores : Int} {ps : List Pt} (h : ppB ns cores ps = false) : ¬ PpOk ns cores ps := @of_decide_eq_false _ (Classical.propDecidable _) h
theorem ppB_bad {ns : List Nd} {cores : Int} {ps : List Pt} {i : Nat} (hi : i < ps.length) (h : ¬ Pp1 ns ps i) : ppB ns cores ps = false := ppB_no fun q => h (q.1 i hi)

/-- at most forty, each with right parts, no two with one epoch -/
def rnTo (ns : List Nd) (ls : List En) (k : Nat) : Prop := ∀ i, i < k → ppB ns (eng ls i).job.cores (eng ls i).ps = true ∧ ∀ h, h < i → (eng ls h).ep ≠ (eng ls i).ep
structure RnOk (ns : List Nd) (ls : List En) : Prop where
  n : ls.length ≤ 40
  ok : rnTo ns ls ls.length
noncomputable def rnB (ns : List Nd) (ls : List En) : Bool := @decide (RnOk ns ls) (Classical.propDecidable _)
theorem rnB_mk {ns : List Nd} {ls : List En} (h : RnOk ns ls) : rnB ns ls = true := @decide_eq_true _ (Classical.propDecidable _) h
theorem rnB_no {ns : List Nd} {ls : List En} (h : ¬ RnOk ns ls) : rnB ns ls = false := @decide_eq_false _ (Classical.propDecidable _) h
theorem rnB_t {ns : List Nd} {ls : List En} (h : rnB ns ls = true) : RnOk ns ls := @of_decide_eq_true _ (Classical.propDecidable _) h
theorem rnB_f {ns : List Nd} {ls : List En} (h : rnB ns ls = false) : ¬ RnOk ns ls := @of_decide_eq_false _ (Classical.propDecidable _) h
theorem rn_no_ok {ns : List Nd} {ls : List En} {k : Nat} (hk : k < ls.length) (h : ppB ns (eng ls k).job.cores (eng ls k).ps = false) : rnB ns ls = false := rnB_no fun q => by have := (q.ok k hk).1; rw [h] at this; cases this
theorem rn_no_id {ns : List Nd} {ls : List En} {k m : Nat} (hk : k < ls.length) (hm : m < k) (h : (eng ls m).ep = (eng ls k).ep) : rnB ns ls = false := rnB_no fun q => (q.ok k hk).2 m hm h
theorem rnTo_succ {ns : List Nd} {ls : List En} {k : Nat} (h : rnTo ns ls k) (h1 : ppB ns (eng ls k).job.cores (eng ls k).ps = true) (h2 : ∀ i, i < k → (eng ls i).ep ≠ (eng ls k).ep) : rnTo ns ls (k + 1) := fun i hi => by
  by_cases e : i = k
  · subst e; exact ⟨h1, h2⟩
  · exact h i (by omega)

/-! ### cores in use only grow -/
theorem smK_has {ps : List Pt} {n : Nat} : ∀ k, ptOk ps n k → ∀ j, j < k → (ptg ps j).cores ≤ smK ps (ptg ps j).node.toNat k
  | 0, _, j, h => by omega
  | k + 1, hp, j, h => by
    have h0 := smK_mono (i := (ptg ps j).node.toNat) hp
    by_cases e : j = k
    · subst e
      have h1 := smK_0 (i := (ptg ps j).node.toNat) j (fun i hi => hp i (by omega))
      have h2 := (hp j (by omega)).1
      have e1 : (ptg ps j).node = ((ptg ps j).node.toNat : Int) := by omega
      simp only [smK]
      rw [if_pos (by omega)]
      omega
    · exact Int.le_trans (smK_has k (fun i hi => hp i (by omega)) j (by omega)) h0

/-- a full row behind entry k was full ahead of it -/
theorem usK_full {nn : Nat} (hn : 1 ≤ nn) {ls : List En} {k : Nat} (h : (usK nn ls (k + 1)).length = nn) : (usK nn ls k).length = nn ∧ chK (usK nn ls k) (eng ls k).ps 1 (eng ls k).ps.length = some (usK nn ls (k + 1)) := by
  simp only [usK] at h ⊢
  rcases q : chF (usK nn ls k) (eng ls k).ps 1 with _ | out
  · rw [q] at h; simp at h; omega
  · rw [q] at h
    simp at h
    unfold chF at q
    split at q
    · have := (chK_sum _ _ q).1
      refine ⟨by omega, ?_⟩
      exact q
    · cases q
theorem usK_all {nn : Nat} (hn : 1 ≤ nn) {ls : List En} : ∀ d k, (usK nn ls (k + d)).length = nn → (usK nn ls k).length = nn
  | 0, _, h => h
  | d + 1, k, h => usK_all hn d k (usK_full hn (k := k + d) h).1
theorem usK_mono {nn : Nat} (hn : 1 ≤ nn) {ls : List En} {i : Nat} (hi : i < nn) : ∀ d k, (usK nn ls (k + d)).length = nn → zg (usK nn ls k) i ≤ zg (usK nn ls (k + d)) i
  | 0, _, _ => Int.le_refl _
  | d + 1, k, h => by
    obtain ⟨h1, h2⟩ := usK_full hn (k := k + d) h
    have ih := usK_mono hn hi d k h1
    obtain ⟨h3, h4, h5⟩ := chK_sum _ _ h2
    have := h5 i (by omega)
    have h0 := smK_0 (i := i) _ h4
    rw [show k + (d + 1) = k + d + 1 by omega, this]
    omega
theorem usK_nn {nn : Nat} (hn : 1 ≤ nn) {ls : List En} {i k : Nat} (hi : i < nn) (h : (usK nn ls k).length = nn) : 0 ≤ zg (usK nn ls k) i := by
  have := usK_mono hn hi k 0 (by rw [Nat.zero_add]; exact h)
  rw [Nat.zero_add] at this
  refine Int.le_trans ?_ this
  simp [usK, zg, hi]

/-- each part of one that runs has no more than its node -/
theorem run_part {ns : List Nd} {ls : List En} (hu : UsOk ns (usK ns.length ls ls.length)) {k j : Nat} (hk : k < ls.length) (hj : j < (eng ls k).ps.length) :
    (ptg (eng ls k).ps j).cores ≤ (ndg ns (ptg (eng ls k).ps j).node.toNat).cores := by
  have hn := hu.ns.n1
  have hl := hu.len
  have h1 : (usK ns.length ls (k + 1)).length = ns.length := usK_all hn (ls.length - (k + 1)) (k + 1) (by rw [show k + 1 + (ls.length - (k + 1)) = ls.length by omega]; exact hl)
  obtain ⟨h2, h3⟩ := usK_full hn h1
  obtain ⟨_, h4, h5⟩ := chK_sum _ _ h3
  obtain ⟨⟨n1, n2⟩, _⟩ := h4 j hj
  rw [h2] at n2
  have hi : (ptg (eng ls k).ps j).node.toNat < ns.length := by omega
  have h6 := h5 _ (by rw [h2]; exact hi)
  have h7 := smK_has _ h4 j hj
  have h8 := usK_nn hn hi h2
  have h9 := usK_mono hn hi (ls.length - (k + 1)) (k + 1) (by rw [show k + 1 + (ls.length - (k + 1)) = ls.length by omega]; exact hl)
  rw [show k + 1 + (ls.length - (k + 1)) = ls.length by omega] at h9
  have := (hu.us _ hi).2
  omega

end Go.Proofs.YtdgfkcobhhlfbaaGreat

/- A right State, in the program's own pieces. -/
namespace Go.Proofs.YtdgfkcobhhlfbaaGreat
open Go.RowKit Go.Sort

theorem pw_eng {l : List En} {Q : En → En → Prop} : l.Pairwise Q ↔ ∀ i, i < l.length → ∀ h, h < i → Q (eng l h) (eng l i) := by
  rw [List.pairwise_iff_getElem]
  constructor
  · intro p i hi h hh
    rw [eng_get hi, eng_get (by omega : h < l.length)]
    exact p h i (by omega) hi hh
  · intro p i j hi hj hij
    have := p j hj i hij
    rwa [eng_get hi, eng_get hj] at this
/-- no two of them run with one epoch -/
theorem run_pair {ls : List En} : (∀ i, i < (inK ls 2 ls.length).length → ∀ h, h < i → (eng (inK ls 2 ls.length) h).ep ≠ (eng (inK ls 2 ls.length) i).ep) ↔
    ∀ i, i < ls.length → ∀ h, h < i → (eng ls h).ph = 2 → (eng ls i).ph = 2 → (eng ls h).ep ≠ (eng ls i).ep := by
  rw [← pw_eng (Q := fun a b => a.ep ≠ b.ep), ← pw_eng (Q := fun a b => a.ph = 2 → b.ph = 2 → a.ep ≠ b.ep)]
  unfold inK
  rw [List.take_length, List.pairwise_filter]
  simp

theorem pp_pr {ns : List Nd} {c : Int} {ps : List Pt} (hn : NsOk ns) (h : PpOk ns c ps) : PrOk ns c ps :=
  ⟨fun i hi => by
    obtain ⟨h1, ⟨h2, h3⟩, h4, h5⟩ := h.1 i hi
    have := (nOk_t (hn.ok (ptg ps i).node.toNat (by omega))).1
    exact ⟨h1, ⟨h2, by omega⟩, h4, h5⟩, h.2⟩

theorem so_mk {s : St} (now : 0 ≤ s.now ∧ s.now ≤ 999999999) (nd : NsOk s.nodes) (nx : 1 ≤ s.next ∧ s.next ≤ 1000000) (eps : 0 ≤ s.eps ∧ s.eps ≤ 1000000)
    (js : JsOk (jbK s.ents s.ents.length)) (srt : jsrt (jbK s.ents s.ents.length)) (eo : eoTo s s.ents s.ents.length) (rn : RnOk s.nodes (inK s.ents 2 s.ents.length))
    (us : UsOk s.nodes (usK s.nodes.length (inK s.ents 2 s.ents.length) (inK s.ents 2 s.ents.length).length)) : SOk s := by
  have hjl := jbK_len (Nat.le_refl s.ents.length)
  refine ⟨now, nd, js, nx, eps, fun i hi => ?_, by rw [iuK_us s _ (Nat.le_refl _)]; exact us⟩
  have e := eoB_t (eo i hi)
  refine ⟨⟨e.nx, e.at_, e.wt, e.due, fun h0 => ?_, ?_, e.ep, e.st⟩, ⟨fun h1 => ?_, fun h2 => ?_, fun h1 h2 => ?_⟩⟩
  · have h1 := srt i h0 (by omega)
    have h2 := (js.ok i (by omega)).2 (i - 1) (by omega)
    rw [jbK_at (by omega) (Nat.le_refl _), jbK_at hi (Nat.le_refl _)] at h1 h2
    omega
  · rcases e.ph with ⟨h, _⟩ | ⟨h, _⟩ | ⟨h | h | h, _⟩ <;> omega
  · rcases e.ph with ⟨_, h⟩ | ⟨h, _⟩ | ⟨h | h | h, _⟩
    · exact h
    all_goals omega
  · refine ⟨?_, ?_, fun k hk ⟨q1, q2⟩ => ?_⟩
    · rcases e.ph with ⟨h, _⟩ | ⟨_, h⟩ | ⟨h | h | h, _⟩ <;> omega
    · have hm := inK_has hi h2
      obtain ⟨a, ha, hb⟩ := List.mem_iff_getElem.1 hm
      have := ppB_t (rn.ok a ha).1
      rw [eng_get ha, hb] at this
      exact pp_pr nd this
    · exact run_pair.1 (fun a ha => (rn.ok a ha).2) i hi k hk q1 h2 q2
  · rcases e.ph with ⟨h, _⟩ | ⟨h, _⟩ | ⟨_, h⟩
    · omega
    · omega
    · exact h

theorem SOk.srt {s : St} (h : SOk s) : jsrt (jbK s.ents s.ents.length) := fun i h0 hi => by
  rw [jbK_len (Nat.le_refl _)] at hi
  rw [jbK_at (by omega) (Nat.le_refl _), jbK_at hi (Nat.le_refl _)]
  have := (h.en i hi).1.up h0
  omega
theorem SOk.eo {s : St} (h : SOk s) : eoTo s s.ents s.ents.length := fun i hi => by
  obtain ⟨a, p⟩ := h.en i hi
  refine eoB_mk ⟨a.at_, a.wt, a.due, a.nx, a.st, a.ep, ?_⟩
  have := a.ph
  by_cases h1 : (eng s.ents i).ph = 1
  · exact Or.inl ⟨h1, p.q h1⟩
  · by_cases h2 : (eng s.ents i).ph = 2
    · exact Or.inr (Or.inl ⟨h2, by have := (p.r h2).1; omega⟩)
    · exact Or.inr (Or.inr ⟨by omega, p.o h1 h2⟩)
theorem SOk.us' {s : St} (h : SOk s) : UsOk s.nodes (usK s.nodes.length (inK s.ents 2 s.ents.length) (inK s.ents 2 s.ents.length).length) := by
  have := h.us
  rwa [iuK_us s _ (Nat.le_refl _)] at this
theorem SOk.rn {s : St} (h : SOk s) : RnOk s.nodes (inK s.ents 2 s.ents.length) := by
  have hn := h.js.n
  rw [jbK_len (Nat.le_refl _)] at hn
  refine ⟨Nat.le_trans (inK_le (Nat.le_refl _)) hn, fun i hi => ⟨?_, ?_⟩⟩
  · obtain ⟨j, hj, e, hp⟩ := inK_at hi
    obtain ⟨q1, q2⟩ := ((h.en j hj).2.r hp).2.1
    refine ppB_mk ⟨fun a ha => ?_, by rw [e]; exact q2⟩
    have h9 := run_part h.us' hi ha
    rw [e] at ha h9 ⊢
    obtain ⟨r1, r2, r3, r4⟩ := q1 a ha
    exact ⟨r1, ⟨r2.1, h9⟩, r3, r4⟩
  · exact run_pair.2 (fun a ha b hb p1 p2 p3 => (((h.en a ha).2.r p2).2.2 b hb) ⟨p1, p3⟩) i hi

end Go.Proofs.YtdgfkcobhhlfbaaGreat
