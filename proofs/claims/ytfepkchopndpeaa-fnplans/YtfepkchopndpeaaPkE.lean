/- Several texts in one. -/
import Derived.Test.YtfepkchopndpeaaJobQ
import Derived.Test.YtfepkchopndpeaaPkC
import Derived.Deep.RegionHeld3
import Derived.Deep.RegionHeldLaw
import Derived.Deep.RegionLaw
import Derived.Maps.AppendAt
import Derived.Lib.SmallJoins
import Derived.Test.YtfepkchopndpeaaDraw
/- Queue of the model. -/
namespace Go.Proofs.Ytfepkchopndpeaa
open Go.RowKit Go.Sort

/-- a row of the call's own: jobs, in a block from base on -/
structure OwnJ (w : World) (base g cap : Nat) (ys : List Jb) : Prop where
  own : w.ownsRow base 44 7 (.slice (some ⟨g, 0, none⟩) ys.length cap) ys.length (jcells ys)
  le : ys.length ≤ cap
  mx : cap ≤ maxLen
  base : base ≤ g
  lt : g < w.heap.size

theorem ownJ_of {w : World} {base : Nat} {v : Value} {m : Nat} {xs : List Value} {ys : List Jb} (h : w.ownsRow base 44 7 v m xs) (hm : m = ys.length) (hx : xs = jcells ys) (hv : v ≠ .slice none 0 0) :
    ∃ g cap, v = .slice (some ⟨g, 0, none⟩) ys.length cap ∧ OwnJ w base g cap ys := by
  subst hm hx
  have hl := h.lt
  rcases h.2 with ⟨rfl, h0⟩ | ⟨g, cap, cur, rfl, hb, hg, h1, h2, h3⟩
  · exact absurd rfl hv
  · exact ⟨g, cap, rfl, h, h1, h2, hb, (hl g rfl).2⟩

theorem ownJ_of' {w : World} {base : Nat} {v : Value} {m : Nat} {xs : List Value} {ys : List Jb} (h : w.ownsRow base 44 7 v m xs) (hm : m = ys.length) (hx : xs = jcells ys) (hv : v ≠ .slice none 0 0) :
    ∃ g cap, v = .slice (some ⟨g, 0, none⟩) m cap ∧ OwnJ w base g cap ys := by
  obtain ⟨g, cap, e, h1⟩ := ownJ_of h hm hx hv
  exact ⟨g, cap, by rw [e, hm], h1⟩

theorem OwnJ.below {w w' : World} {base g cap : Nat} {ys : List Jb} (h : OwnJ w base g cap ys) (hb : Below w.heap.size w w') : OwnJ w' base g cap ys := by
  refine ⟨⟨h.own.1, ?_⟩, h.le, h.mx, h.base, Nat.lt_of_lt_of_le h.lt hb.size⟩
  rcases h.own.2 with ⟨e, _⟩ | ⟨g', cap', cur, e, hg, hgg, r⟩
  · cases e
  · have hl := h.own.lt g rfl
    refine .inr ⟨g', cap', cur, e, hg, ?_, r⟩
    injection e with e1 _ _
    injection e1 with e1
    injection e1 with e1 _ _
    subst e1
    exact (hb.block g hl.2).trans hgg

theorem OwnJ.at_ {w : World} {base g cap : Nat} {ys : List Jb} (h : OwnJ w base g cap ys) : JobAt w g 0 ys := by
  intro i hi c hc
  have := World.ownsRow.cells h.own (g := g) rfl (i * 7 + c) _ (jcells_at ys i c hi hc)
  have hadd : (⟨g, 0, none⟩ : Addr).add (i * 7 + c) = ⟨g, i * 7 + c, none⟩ := by unfold Addr.add; split <;> simp_all
  rw [hadd] at this
  rw [Nat.zero_add]; exact this

theorem OwnJ.toS {w : World} {base g cap : Nat} {ys : List Jb} (h : OwnJ w base g cap ys) (wf : ∀ i, i < ys.length → jwf (jg ys i)) : JobS w (some ⟨g, 0, none⟩) ys.length cap ys :=
  ⟨rfl, h.le, h.mx, (fun e => by cases e), wf, fun _ => ⟨g, 0, rfl, h.lt, h.at_⟩⟩

theorem jcells_app (a b : List Jb) : jcells (a ++ b) = jcells a ++ jcells b := by simp [jcells]

/-- its first k jobs -/
theorem OwnJ.pre {w : World} {base g cap : Nat} {ys : List Jb} (h : OwnJ w base g cap ys) {k : Nat} (hk : k ≤ ys.length) :
    w.ownsRow base 44 7 (.slice (some ⟨g, 0, none⟩) k cap) k (jcells (ys.take k)) := by
  refine ⟨by rw [jcells_len]; simp; omega, ?_⟩
  rcases h.own.2 with ⟨e, _⟩ | ⟨g', cap', cur, e, hg, hgg, h1, h2, h3, h4⟩
  · cases e
  · injection e with e1 _ e3
    injection e1 with e1
    injection e1 with e1 _ _
    subst e1 e3
    refine .inr ⟨g, cap, cur, rfl, hg, hgg, by omega, h2, h3, ?_⟩
    have e : jcells ys = jcells (ys.take k) ++ jcells (ys.drop k) := by
      rw [← jcells_app, List.take_append_drop]
    have el : (jcells (ys.take k)).length = k * 7 := by rw [jcells_len]; simp; omega
    have : (cur.toList.take (ys.length * 7)).take (k * 7) = (jcells ys).take (k * 7) := by rw [h4]
    rw [List.take_take, show min (k * 7) (ys.length * 7) = k * 7 by omega] at this
    rw [this, e, ← el, List.take_left]

/-- the cells of the jobs from k on -/
theorem OwnJ.rest {w : World} {base g cap : Nat} {ys : List Jb} (h : OwnJ w base g cap ys) (k : Nat) : ∀ j u, (jcells (ys.drop k))[j]? = some u → w.cell? ((⟨g, 0 + k * 7, none⟩ : Addr).add j) = some u := by
  intro j u hj
  obtain ⟨h1, rfl⟩ := jcells_get hj
  have hlen : (ys.drop k).length = ys.length - k := by simp
  have := h.at_ (k + j / 7) (by omega) (j % 7) (by omega)
  have hadd : (⟨g, 0 + k * 7, none⟩ : Addr).add j = ⟨g, 0 + (k + j / 7) * 7 + j % 7, none⟩ := by
    unfold Addr.add; split
    · rename_i e; subst e; simp
    · simp only [Addr.mk.injEq, and_true, true_and]; omega
  rw [hadd, this]
  have e : jg (ys.drop k) (j / 7) = jg ys (k + j / 7) := by simp [jg]
  rw [e]

/-- one job, just boxed: its cells -/
theorem new7_cells (W : World) (j : Jb) (T : TypeId) : ∀ i u, (jl j)[i]? = some u → ((W.alloc (.cells #[.int .i64 j.id, .int .i64 j.cores, .int .i64 j.long, .int .i64 j.due, .int .i64 j.wt, .int .i64 j.rank, .int .i64 j.at_] T)).drew).cell? ((⟨W.heap.size, 0, none⟩ : Addr).add i) = some u := by
  intro i u hi
  have hadd : (⟨W.heap.size, 0, none⟩ : Addr).add i = ⟨W.heap.size, i, none⟩ := by unfold Addr.add; split <;> simp_all
  rw [hadd]
  show (W.alloc (.cells #[.int .i64 j.id, .int .i64 j.cores, .int .i64 j.long, .int .i64 j.due, .int .i64 j.wt, .int .i64 j.rank, .int .i64 j.at_] T)).cell? _ = _
  rw [Joins.cell_alloc_mark_at _ _ _ _ _ _ rfl]
  show (List.toArray (jl j))[i]? = _
  rw [List.getElem?_toArray]
  exact hi

theorem lenBound {ys ls : List Jb} {k n : Nat} (h : ys.Perm (ls.take k)) (hl : ls.length = n) (hk : k < n) : ys.length < ls.length := by
  rw [h.length_eq]; simp; omega

end Go.Proofs.Ytfepkchopndpeaa

/- Jobs drawn. What is drawn is not reckoned, only that jobs come, each number small. -/
namespace Go.Proofs.Ytfepkchopndpeaa
open Go.RowKit Go.Sort

/-- a drawn job: its numbers are small -/
def jsmall (j : Jb) : Prop := ∀ c, c < 7 → -1 ≤ jc j c ∧ jc j c ≤ 1000000001
theorem jsmall.wf {j : Jb} (h : jsmall j) : jwf j := fun c hc => by have := h c hc; omega

theorem OwnJ.blk {w w' : World} {base g cap : Nat} {ys : List Jb} (h : OwnJ w base g cap ys) (hb : w'.heap[g]? = w.heap[g]?) : OwnJ w' base g cap ys := by
  have hlt : g < w'.heap.size := by
    rcases h.own.2 with ⟨e, _⟩ | ⟨g', cap', cur, e, hg, hgg, r⟩
    · cases e
    · injection e with e1 _ _
      injection e1 with e1
      injection e1 with e1 _ _
      subst e1
      rw [← hb] at hgg
      exact lt_of_block hgg
  refine ⟨⟨h.own.1, ?_⟩, h.le, h.mx, h.base, hlt⟩
  rcases h.own.2 with ⟨e, _⟩ | ⟨g', cap', cur, e, hg, hgg, r⟩
  · cases e
  · injection e with e1 _ e3
    injection e1 with e1
    injection e1 with e1 _ _
    subst e1 e3
    exact .inr ⟨g, cap, cur, rfl, hg, hb.trans hgg, r⟩

set_option maxHeartbeats 1000000 in
theorem l3DrawJob_any (cb : Nat) (a : Option Addr) (n cap : Nat) (zs : List Int) (id : Int) (w : World) (h : CurAt w cb a n cap zs) (i0 : -1 ≤ id) (i1 : id ≤ 1000000001) :
    Calls Try.prog 69 #[.pointer (some ⟨cb, 0, none⟩), .int .i64 id] w fun e w' => ∃ j : Jb, e = .returned (.agg #[.int .i64 j.id, .int .i64 j.cores, .int .i64 j.long, .int .i64 j.due, .int .i64 j.wt, .int .i64 j.rank, .int .i64 j.at_]) ∧ j.id = id ∧ jsmall j ∧ CurAt w' cb a n cap zs ∧ But cb w w' := by
  have hcb := h.lt
  have h0 := h.but (box_below0 (o := .cells #[.int .i64 0, .int .i64 0, .int .i64 0, .int .i64 0, .int .i64 0, .int .i64 0, .int .i64 0] 44)) hcb
  go_enter Try.func69, Try.ntmps69
  go_wp2_with fail
  refine (l1Below_any cb a n cap zs 4 _ h0 (by omega) (by omega)).mono ?_
  rintro e w1 ⟨x0, rfl, p0, q0, h1, b0⟩
  go_wp2_with fail
  refine (l1Below_any cb a n cap zs 9 _ h1 (by omega) (by omega)).mono ?_
  rintro e w2 ⟨x1, rfl, p1, q1, h2, b1⟩
  go_wp2_with fail
  refine (l1Below_any cb a n cap zs 30 _ h2 (by omega) (by omega)).mono ?_
  rintro e w3 ⟨x2, rfl, p2, q2, h3, b2⟩
  go_wp2_with fail
  refine (l1Below_any cb a n cap zs 7 _ h3 (by omega) (by omega)).mono ?_
  rintro e w4 ⟨x3, rfl, p3, q3, h4, b3⟩
  go_wp2_with fail
  refine (l1Below_any cb a n cap zs 3 _ h4 (by omega) (by omega)).mono ?_
  rintro e w5 ⟨x4, rfl, p4, q4, h5, b4⟩
  go_wp2_with fail
  refine (l1Below_any cb a n cap zs 6 _ h5 (by omega) (by omega)).mono ?_
  rintro e w6 ⟨x5, rfl, p5, q5, h6, b5⟩
  have B6 : But cb (w.alloc (.cells #[.int .i64 0, .int .i64 0, .int .i64 0, .int .i64 0, .int .i64 0, .int .i64 0, .int .i64 0] 44)) w6 := ((((b0.trans b1).trans b2).trans b3).trans b4).trans b5
  have blk := B6.other hcb
  have g0 : w6.cell? ⟨w.heap.size, 0, none⟩ = some (.int .i64 0) := by simp [World.cell?, blk]
  have f0 : w6.frozen? ⟨w.heap.size, 0, none⟩ = false := by simp [World.frozen?, blk]
  have g1 : w6.cell? ⟨w.heap.size, 1, none⟩ = some (.int .i64 0) := by simp [World.cell?, blk]
  have f1 : w6.frozen? ⟨w.heap.size, 1, none⟩ = false := by simp [World.frozen?, blk]
  have g2 : w6.cell? ⟨w.heap.size, 2, none⟩ = some (.int .i64 0) := by simp [World.cell?, blk]
  have f2 : w6.frozen? ⟨w.heap.size, 2, none⟩ = false := by simp [World.frozen?, blk]
  have g3 : w6.cell? ⟨w.heap.size, 3, none⟩ = some (.int .i64 0) := by simp [World.cell?, blk]
  have f3 : w6.frozen? ⟨w.heap.size, 3, none⟩ = false := by simp [World.frozen?, blk]
  have g4 : w6.cell? ⟨w.heap.size, 4, none⟩ = some (.int .i64 0) := by simp [World.cell?, blk]
  have f4 : w6.frozen? ⟨w.heap.size, 4, none⟩ = false := by simp [World.frozen?, blk]
  have g5 : w6.cell? ⟨w.heap.size, 5, none⟩ = some (.int .i64 0) := by simp [World.cell?, blk]
  have f5 : w6.frozen? ⟨w.heap.size, 5, none⟩ = false := by simp [World.frozen?, blk]
  have g6 : w6.cell? ⟨w.heap.size, 6, none⟩ = some (.int .i64 0) := by simp [World.cell?, blk]
  have f6 : w6.frozen? ⟨w.heap.size, 6, none⟩ = false := by simp [World.frozen?, blk]
  have hz : w.heap.size < w6.heap.size := lt_of_block blk
  have hne : ¬ w.heap.size = cb := by omega
  have h7 := h6
  clear h0 h1 h2 h3 h4 h5 h6 b0 b1 b2 b3 b4 b5
  go_wp2
  refine bodyPost_ret (v := .agg #[.int .i64 id, .int .i64 (1 + x0), .int .i64 (1 + x1), .int .i64 x2, .int .i64 x3, .int .i64 x4, .int .i64 x5]) ?_ rfl ⟨⟨id, 1 + x0, 1 + x1, x2, x3, x4, x5⟩, rfl, rfl, ?_, ?_, ?_⟩
  · simp [results, Try.results69, go_sem, g0, g1, g2, g3, g4, g5, g6]
  · intro c hc
    obtain rfl | rfl | rfl | rfl | rfl | rfl | rfl : c = 0 ∨ c = 1 ∨ c = 2 ∨ c = 3 ∨ c = 4 ∨ c = 5 ∨ c = 6 := by omega
    all_goals (simp only [jc]; omega)
  · exact ((((((h7.setNew hcb _).setNew hcb _).setNew hcb _).setNew hcb _).setNew hcb _).setNew hcb _).setNew hcb _
  · have B0 : But cb w w6 := (But.of box_below0).trans B6
    exact ((((((B0.setNew (Nat.le_refl _) _).setNew (Nat.le_refl _) _).setNew (Nat.le_refl _) _).setNew (Nat.le_refl _) _).setNew (Nat.le_refl _) _).setNew (Nat.le_refl _) _).setNew (Nat.le_refl _) _

/-- a job, just boxed: its cells -/
theorem new7_plain (W : World) (j : Jb) (T : TypeId) : ∀ i u, (jl j)[i]? = some u → (W.alloc (.cells #[.int .i64 j.id, .int .i64 j.cores, .int .i64 j.long, .int .i64 j.due, .int .i64 j.wt, .int .i64 j.rank, .int .i64 j.at_] T)).cell? ((⟨W.heap.size, 0, none⟩ : Addr).add i) = some u := by
  intro i u hi
  have hadd : (⟨W.heap.size, 0, none⟩ : Addr).add i = ⟨W.heap.size, i, none⟩ := by unfold Addr.add; split <;> simp_all
  rw [hadd, Joins.cell_alloc_mark_at _ _ _ _ _ _ rfl]
  show (List.toArray (jl j))[i]? = _
  rw [List.getElem?_toArray]
  exact hi

/-- all small -/
def allSmall (ys : List Jb) : Prop := ∀ y ∈ ys, jsmall y
theorem allSmall.snoc {ys : List Jb} {j : Jb} (h : allSmall ys) (hj : jsmall j) : allSmall (ys ++ [j]) := by
  intro y hy
  rcases List.mem_append.1 hy with h1 | h1
  · exact h y h1
  · rw [List.mem_singleton.1 h1]; exact hj

set_option maxRecDepth 8000 in
set_option maxHeartbeats 1000000 in
theorem l3Draw_any (cb : Nat) (a : Option Addr) (n cap : Nat) (zs : List Int) (most : Int) (w : World) (h : CurAt w cb a n cap zs) (m0 : 0 ≤ most) (m1 : most ≤ 40) :
    Calls Try.prog 51 #[.pointer (some ⟨cb, 0, none⟩), .int .i64 most] w fun e w' => ∃ g c ys, e = .returned (.slice (some ⟨g, 0, none⟩) ys.length c) ∧ OwnJ w' w.heap.size g c ys ∧ ys.length ≤ 40 ∧ allSmall ys ∧ CurAt w' cb a n cap zs ∧ But cb w w' := by
  obtain ⟨i1, hj, hj0, hj1, hj2⟩ := info_parts infoJ
  have hcb := h.lt
  have h0 := h.but (box_below0 (o := .cells #[] 44)) hcb
  have own0 : OwnJ (w.alloc (.cells #[] 44)) w.heap.size w.heap.size 0 [] := ⟨World.ownsRow_made w #[] 0 (Nat.le_refl _) (Nat.zero_le _) rfl, Nat.le_refl _, Nat.zero_le _, Nat.le_refl _, by simp⟩
  go_enter Try.func51, Try.ntmps51
  go_wp2_with fail
  refine (l1Below_any cb a n cap zs (most + 1) _ h0 (by omega) (by omega)).mono ?_
  rintro e w1 ⟨x, rfl, x0, x1, c1, b1⟩
  obtain ⟨k0, rfl⟩ := Int.eq_ofNat_of_zero_le x0
  have own1 := own0.blk (w' := w1) (b1.block _ (by simp) (by omega))
  have B1 : But cb w w1 := (But.of box_below0).trans b1
  clear own0 h0 b1
  go_wp2
  go_loopw [5, 6] (fun u s wr => ∃ (k g uc : Nat) (ys : List Jb), k + ys.length ≤ 40 ∧ s = .int .i64 k ∧ u = .slice (some ⟨g, 0, none⟩) ys.length uc ∧ Hid (OwnJ wr w.heap.size g uc ys) ∧ Hid (allSmall ys) ∧ CurAt wr cb a n cap zs ∧ But cb w wr) (fun _ s _ => (intOf s).toNat)
  case atStart => exact ⟨k0, _, 0, [], by simp; omega, rfl, rfl, own1, (fun y hy => by cases hy), c1, B1⟩
  case round =>
    obtain ⟨k, g, uc, ys, hk, rfl, rfl, HO, HA, hc, hb⟩ := hrel
    by_cases hlt : 0 < k
    · have hlt' : (0 : Int) < (k : Int) := by omega
      go_wp2_with fail
      refine (l3DrawJob_any cb a n cap zs k _ hc (by omega) (by omega)).mono ?_
      rintro e w2 ⟨j, rfl, hid, hsm, c2, b2⟩
      have hOg := HO.out
      have hgb := hOg.base
      have O2 := hOg.blk (w' := w2) (b2.block g hOg.lt (by omega))
      have B2 := hb.trans b2
      have hz2 := B2.size
      have OA : (w2.alloc (.cells #[.int .i64 j.id, .int .i64 j.cores, .int .i64 j.long, .int .i64 j.due, .int .i64 j.wt, .int .i64 j.rank, .int .i64 j.at_] 44)).ownsRow w.heap.size 44 7 (.slice (some ⟨g, 0, none⟩) ys.length uc) ys.length (jcells ys) := (O2.below box_below0).own
      clear hid
      go_wp2_with (at_builtin; refine wpList_append_own_at _ rfl (.tmp 16) (.tmp 20) 27 rfl w.heap.size 44 i1 (.agg #[.int .i64 0, .int .i64 0, .int .i64 0, .int .i64 0, .int .i64 0, .int .i64 0, .int .i64 0]) 7 56 Try.underlying27 hj hj0 hj1 hj2 rfl (by decide) _ _ _ rfl OA ⟨w2.heap.size, 0, none⟩ 1 1 [.int .i64 j.id, .int .i64 j.cores, .int .i64 j.long, .int .i64 j.due, .int .i64 j.wt, .int .i64 j.rank, .int .i64 j.at_] rfl rfl (new7_plain _ _ _) (jl_one j) (by unfold maxLen; omega) (by omega) (by simp; omega) ?_)
      intro v3 w3 own3 grow3 nil3 at3
      have hc3 : CurAt w3 cb a n cap zs := c2.keep (fun r hr => (grow3.block r (by have := c2.lt; simp; omega) (by simp [Value.ownBlock]; omega)).trans (Below.heap_alloc _ _ _ (by have := c2.lt; omega))) (Nat.le_trans (by simp) grow3.size)
      have B3 : But cb w w3 := (B2.alloc _).grownB (B := w.heap.size) grow3 (Nat.le_refl _) (fun r e => by have e' : g = r := Option.some.inj e; omega)
      obtain ⟨g3, c3, rfl, O3⟩ := ownJ_of' (ys := ys ++ [j]) own3 (by simp) (by rw [jcells_app]; rfl) (by first | exact nil3 | exact fun e => nomatch (nil3.1 e).1)
      have HO3 : Hid (OwnJ w3 w.heap.size g3 c3 (ys ++ [j])) := O3
      have HA3 : Hid (allSmall (ys ++ [j])) := HA.out.snoc hsm
      clear own3 grow3 nil3 at3 OA O3 hsm
      go_wp2
      go_roundw
      case rel => exact ⟨k - 1, g3, c3, ys ++ [j], by simp; omega, by go_num, by simp, HO3, HA3, hc3, B3⟩
      case measure => simp [intOf]; omega
    · obtain rfl : k = 0 := by omega
      go_wp2
      go_ret
      exact ⟨g, uc, ys, rfl, HO.out, by omega, HA.out, hc, hb⟩

end Go.Proofs.Ytfepkchopndpeaa

/- Jobs drawn, one of them turned. -/
namespace Go.Proofs.Ytfepkchopndpeaa
open Go.RowKit Go.Sort

/-- one number of a job turned -/
def jset (j : Jb) (f : Nat) (z : Int) : Jb :=
  match f with
  | 0 => ⟨z, j.cores, j.long, j.due, j.wt, j.rank, j.at_⟩
  | 1 => ⟨j.id, z, j.long, j.due, j.wt, j.rank, j.at_⟩
  | 2 => ⟨j.id, j.cores, z, j.due, j.wt, j.rank, j.at_⟩
  | 3 => ⟨j.id, j.cores, j.long, z, j.wt, j.rank, j.at_⟩
  | 4 => ⟨j.id, j.cores, j.long, j.due, z, j.rank, j.at_⟩
  | 5 => ⟨j.id, j.cores, j.long, j.due, j.wt, z, j.at_⟩
  | _ => ⟨j.id, j.cores, j.long, j.due, j.wt, j.rank, z⟩

theorem jset_c (j : Jb) (f c : Nat) (z : Int) (hf : f < 7) (hc : c < 7) : jc (jset j f z) c = if c = f then z else jc j c := by
  obtain rfl | rfl | rfl | rfl | rfl | rfl | rfl : f = 0 ∨ f = 1 ∨ f = 2 ∨ f = 3 ∨ f = 4 ∨ f = 5 ∨ f = 6 := by omega
  all_goals
    obtain rfl | rfl | rfl | rfl | rfl | rfl | rfl : c = 0 ∨ c = 1 ∨ c = 2 ∨ c = 3 ∨ c = 4 ∨ c = 5 ∨ c = 6 := by omega
    all_goals rfl

theorem jset_small {j : Jb} (h : jsmall j) {f : Nat} (hf : f < 7) {z : Int} (h0 : -1 ≤ z) (h1 : z ≤ 1000000001) : jsmall (jset j f z) := by
  intro c hc
  rw [jset_c j f c z hf hc]
  split
  · omega
  · exact h c hc

theorem jcells_set (ys : List Jb) (i f : Nat) (z : Int) (hi : i < ys.length) (hf : f < 7) : jcells (ys.set i (jset (jg ys i) f z)) = (jcells ys).set (i * 7 + f) (.int .i64 z) := by
  have hl := jcells_len ys
  apply List.ext_getElem?
  intro j
  by_cases hj : j < ys.length * 7
  · have hj1 : j / 7 < ys.length := by omega
    have e1 := jcells_at (ys.set i (jset (jg ys i) f z)) (j / 7) (j % 7) (by simp; omega) (by omega)
    have e2 := jcells_at ys (j / 7) (j % 7) hj1 (by omega)
    rw [show j / 7 * 7 + j % 7 = j by omega] at e1 e2
    rw [e1, List.getElem?_set, e2]
    by_cases hji : j / 7 = i
    · have eg : jg (ys.set i (jset (jg ys i) f z)) (j / 7) = jset (jg ys i) f z := by rw [hji]; simp [jg, hi]
      rw [eg, jset_c _ _ _ _ hf (by omega), hji]
      by_cases hc : j % 7 = f
      · rw [if_pos hc, if_pos (by omega), if_pos (by omega)]
      · rw [if_neg hc, if_neg (by omega)]
    · have eg : jg (ys.set i (jset (jg ys i) f z)) (j / 7) = jg ys (j / 7) := by
        simp only [jg]; rw [List.getElem?_set_ne (by omega)]
      rw [eg, if_neg (by omega)]
  · rw [List.getElem?_eq_none (by rw [jcells_len]; simp; omega), List.getElem?_eq_none (by simp; omega)]

theorem OwnJ.store {w : World} {base g cap : Nat} {ys : List Jb} (h : OwnJ w base g cap ys) {i f : Nat} (hi : i < ys.length) (hf : f < 7) (z : Int) : OwnJ (w.setCell ⟨g, i * 7 + f, none⟩ (.int .i64 z)) base g cap (ys.set i (jset (jg ys i) f z)) := by
  have hlen : (ys.set i (jset (jg ys i) f z)).length = ys.length := by simp
  refine ⟨?_, by rw [hlen]; exact h.le, h.mx, h.base, by simpa [World.setCell] using h.lt⟩
  rw [hlen, jcells_set ys i f z hi hf]
  refine ⟨by simpa using h.own.1, ?_⟩
  rcases h.own.2 with ⟨e, _⟩ | ⟨g', cap', cur, e, hg, hgg, h1, h2, h3, h4⟩
  · cases e
  · injection e with e1 _ e3
    injection e1 with e1
    injection e1 with e1 _ _
    subst e1 e3
    refine .inr ⟨g, cap, _, rfl, hg, blk_set hgg _, h1, h2, by simpa using h3, ?_⟩
    rw [← h4, Array.toList_setIfInBounds, List.take_set]

theorem OwnJ.cell {w : World} {base g cap : Nat} {ys : List Jb} (h : OwnJ w base g cap ys) {i f : Nat} (hi : i < ys.length) (hf : f < 7) : w.cell? ⟨g, i * 7 + f, none⟩ = some (.int .i64 (jc (jg ys i) f)) ∧ w.frozen? ⟨g, i * 7 + f, none⟩ = false := by
  refine ⟨by have := h.at_ i hi f hf; rwa [Nat.zero_add] at this, ?_⟩
  rcases h.own.2 with ⟨e, _⟩ | ⟨g', cap', cur, e, hg, hgg, r⟩
  · cases e
  · injection e with e1 _ e3
    injection e1 with e1
    injection e1 with e1 _ _
    subst e1
    exact free_of_blk _ hgg

theorem allSmall.set {ys : List Jb} (h : allSmall ys) {i f : Nat} (hi : i < ys.length) (hf : f < 7) {z : Int} (h0 : -1 ≤ z) (h1 : z ≤ 1000000001) : allSmall (ys.set i (jset (jg ys i) f z)) := by
  intro y hy
  rcases List.mem_or_eq_of_mem_set hy with h2 | rfl
  · exact h y h2
  · exact jset_small (by rw [jg_get hi]; exact h _ (List.getElem_mem hi)) hf h0 h1

def tab0 : Array Value := #[.int .i64 0, .int .i64 1, .int .i64 1000000, .int .i64 1000001]
theorem tab0_at : ∀ k, k < 4 → ∃ v : Int, tab0[k]? = some (.int .i64 v) ∧ -1 ≤ v ∧ v ≤ 1000000001
  | 0, _ => ⟨_, rfl, by omega, by omega⟩
  | 1, _ => ⟨_, rfl, by omega, by omega⟩
  | 2, _ => ⟨_, rfl, by omega, by omega⟩
  | 3, _ => ⟨_, rfl, by omega, by omega⟩

def tab1 : Array Value := #[.int .i64 0, .int .i64 10000, .int .i64 10001, .int .i64 (-1)]
theorem tab1_at : ∀ k, k < 4 → ∃ v : Int, tab1[k]? = some (.int .i64 v) ∧ -1 ≤ v ∧ v ≤ 1000000001
  | 0, _ => ⟨_, rfl, by omega, by omega⟩
  | 1, _ => ⟨_, rfl, by omega, by omega⟩
  | 2, _ => ⟨_, rfl, by omega, by omega⟩
  | 3, _ => ⟨_, rfl, by omega, by omega⟩

def tab2 : Array Value := #[.int .i64 (-1), .int .i64 1000000000, .int .i64 1000000001]
theorem tab2_at : ∀ k, k < 3 → ∃ v : Int, tab2[k]? = some (.int .i64 v) ∧ -1 ≤ v ∧ v ≤ 1000000001
  | 0, _ => ⟨_, rfl, by omega, by omega⟩
  | 1, _ => ⟨_, rfl, by omega, by omega⟩
  | 2, _ => ⟨_, rfl, by omega, by omega⟩

def tab3 : Array Value := #[.int .i64 (-1), .int .i64 1000, .int .i64 1001]
theorem tab3_at : ∀ k, k < 3 → ∃ v : Int, tab3[k]? = some (.int .i64 v) ∧ -1 ≤ v ∧ v ≤ 1000000001
  | 0, _ => ⟨_, rfl, by omega, by omega⟩
  | 1, _ => ⟨_, rfl, by omega, by omega⟩
  | 2, _ => ⟨_, rfl, by omega, by omega⟩

def tab4 : Array Value := #[.int .i64 0, .int .i64 1000, .int .i64 1001]
theorem tab4_at : ∀ k, k < 3 → ∃ v : Int, tab4[k]? = some (.int .i64 v) ∧ -1 ≤ v ∧ v ≤ 1000000001
  | 0, _ => ⟨_, rfl, by omega, by omega⟩
  | 1, _ => ⟨_, rfl, by omega, by omega⟩
  | 2, _ => ⟨_, rfl, by omega, by omega⟩

def tab5 : Array Value := #[.int .i64 (-1), .int .i64 9, .int .i64 10]
theorem tab5_at : ∀ k, k < 3 → ∃ v : Int, tab5[k]? = some (.int .i64 v) ∧ -1 ≤ v ∧ v ≤ 1000000001
  | 0, _ => ⟨_, rfl, by omega, by omega⟩
  | 1, _ => ⟨_, rfl, by omega, by omega⟩
  | 2, _ => ⟨_, rfl, by omega, by omega⟩

set_option maxRecDepth 8000 in
set_option maxHeartbeats 2000000 in
theorem l3DrawAny_any (cb : Nat) (a : Option Addr) (n cap : Nat) (zs : List Int) (most : Int) (w : World) (h : CurAt w cb a n cap zs) (m0 : 0 ≤ most) (m1 : most ≤ 40) :
    Calls Try.prog 26 #[.pointer (some ⟨cb, 0, none⟩), .int .i64 most] w fun e w' => ∃ g c ys, e = .returned (.slice (some ⟨g, 0, none⟩) ys.length c) ∧ OwnJ w' w.heap.size g c ys ∧ ys.length ≤ 40 ∧ allSmall ys ∧ CurAt w' cb a n cap zs ∧ But cb w w' := by
  have hcb := h.lt
  go_enter Try.func26, Try.ntmps26
  go_wp2_with fail
  refine (l3Draw_any cb a n cap zs most _ h m0 m1).mono ?_
  rintro e w1 ⟨g, uc, ys, rfl, O1, hy40, hA, c1, B1⟩
  go_wp2_with fail
  refine (l1Once_any cb a n cap zs 14 _ c1 (by omega) (by omega)).mono ?_
  rintro e w2 ⟨b, rfl, c2, b2⟩
  have hgb := O1.base
  have O2 := O1.blk (w' := w2) (b2.block g O1.lt (by omega))
  have B2 := B1.trans b2
  clear O1 B1 b2 c1
  have HO2 : Hid (OwnJ w2 w.heap.size g uc ys) := O2
  have HA2 : Hid (allSmall ys) := hA
  clear O2 hA
  cases b with
  | false =>
    go_wp2
    go_ret
    exact ⟨g, uc, ys, rfl, HO2.out, hy40, HA2.out, c2, B2⟩
  | true =>
    by_cases hl : 0 < ys.length
    · have hl' : (0 : Int) < (ys.length : Int) := by omega
      go_wp2_with fail
      refine (l1Below_any cb a n cap zs (ys.length : Int) _ c2 (by omega) (by omega)).mono ?_
      rintro e w3 ⟨xi, rfl, xi0, xi1, c3, b3⟩
      obtain ⟨i, rfl⟩ := Int.eq_ofNat_of_zero_le xi0
      have hi : i < ys.length := by omega
      have O3 := HO2.out.blk (w' := w3) (b3.block g HO2.out.lt (by omega))
      have HO3 : Hid (OwnJ w3 w.heap.size g uc ys) := O3
      have B3 := B2.trans b3
      clear O3 b3 c2 B2
      go_wp2_with fail
      refine (l1Below_any cb a n cap zs 6 _ c3 (by omega) (by omega)).mono ?_
      rintro e w4 ⟨xk, rfl, xk0, xk1, c4, b4⟩
      obtain ⟨k, rfl⟩ := Int.eq_ofNat_of_zero_le xk0
      have O4 := HO3.out.blk (w' := w4) (b4.block g HO3.out.lt (by omega))
      have HO4 : Hid (OwnJ w4 w.heap.size g uc ys) := O4
      have B4 := B3.trans b4
      have hcb4 := c4.lt
      clear O4 b4 c3 B3 HO3 HO2
      obtain rfl | rfl | rfl | rfl | rfl | rfl : k = 0 ∨ k = 1 ∨ k = 2 ∨ k = 3 ∨ k = 4 ∨ k = 5 := by omega
      · go_wp2_with fail
        refine (l1Below_any cb a n cap zs 4 _ (c4.but (box_below0 (o := .cells tab0 2)) hcb4) (by omega) (by omega)).mono ?_
        rintro e w5 ⟨xt, rfl, xt0, xt1, c5, b5⟩
        obtain ⟨t, rfl⟩ := Int.eq_ofNat_of_zero_le xt0
        obtain ⟨v, hv, v0, v1⟩ := tab0_at t (by omega)
        have q0 := row_at (L := tab0) b5 hcb4 hv
        have ht : t < 4 := by omega
        have O5 := (HO4.out.below box_below0).blk (w' := w5) (b5.block g (by have := HO4.out.lt; simp; omega) (by omega))
        obtain ⟨s0, s1⟩ := O5.cell (f := 0) hi (by omega)
        have O6 := O5.store (f := 0) hi (by omega) v
        have HO6 : Hid _ := O6
        have c6 := c5.setNew (B := g) (j := i * 7 + 0) (by omega) (.int .i64 v)
        have B6 := ((B4.alloc (.cells tab0 2)).trans b5).setNew (B := g) (j := i * 7 + 0) hgb (.int .i64 v)
        clear hv O5 O6 b5 c5
        simp only [Nat.add_zero] at *
        go_wp2
        go_ret
        exact ⟨g, uc, _, ret_val (by simp), HO6.out, by simpa using hy40, HA2.out.set hi (by omega) v0 v1, c6, B6⟩
      · go_wp2_with fail
        refine (l1Below_any cb a n cap zs 4 _ (c4.but (box_below0 (o := .cells tab1 2)) hcb4) (by omega) (by omega)).mono ?_
        rintro e w5 ⟨xt, rfl, xt0, xt1, c5, b5⟩
        obtain ⟨t, rfl⟩ := Int.eq_ofNat_of_zero_le xt0
        obtain ⟨v, hv, v0, v1⟩ := tab1_at t (by omega)
        have q0 := row_at (L := tab1) b5 hcb4 hv
        have ht : t < 4 := by omega
        have O5 := (HO4.out.below box_below0).blk (w' := w5) (b5.block g (by have := HO4.out.lt; simp; omega) (by omega))
        obtain ⟨s0, s1⟩ := O5.cell (f := 2) hi (by omega)
        have O6 := O5.store (f := 2) hi (by omega) v
        have HO6 : Hid _ := O6
        have c6 := c5.setNew (B := g) (j := i * 7 + 2) (by omega) (.int .i64 v)
        have B6 := ((B4.alloc (.cells tab1 2)).trans b5).setNew (B := g) (j := i * 7 + 2) hgb (.int .i64 v)
        clear hv O5 O6 b5 c5
        go_wp2
        go_ret
        exact ⟨g, uc, _, ret_val (by simp), HO6.out, by simpa using hy40, HA2.out.set hi (by omega) v0 v1, c6, B6⟩
      · go_wp2_with fail
        refine (l1Below_any cb a n cap zs 3 _ (c4.but (box_below0 (o := .cells tab2 2)) hcb4) (by omega) (by omega)).mono ?_
        rintro e w5 ⟨xt, rfl, xt0, xt1, c5, b5⟩
        obtain ⟨t, rfl⟩ := Int.eq_ofNat_of_zero_le xt0
        obtain ⟨v, hv, v0, v1⟩ := tab2_at t (by omega)
        have q0 := row_at (L := tab2) b5 hcb4 hv
        have ht : t < 3 := by omega
        have O5 := (HO4.out.below box_below0).blk (w' := w5) (b5.block g (by have := HO4.out.lt; simp; omega) (by omega))
        obtain ⟨s0, s1⟩ := O5.cell (f := 3) hi (by omega)
        have O6 := O5.store (f := 3) hi (by omega) v
        have HO6 : Hid _ := O6
        have c6 := c5.setNew (B := g) (j := i * 7 + 3) (by omega) (.int .i64 v)
        have B6 := ((B4.alloc (.cells tab2 2)).trans b5).setNew (B := g) (j := i * 7 + 3) hgb (.int .i64 v)
        clear hv O5 O6 b5 c5
        go_wp2
        go_ret
        exact ⟨g, uc, _, ret_val (by simp), HO6.out, by simpa using hy40, HA2.out.set hi (by omega) v0 v1, c6, B6⟩
      · go_wp2_with fail
        refine (l1Below_any cb a n cap zs 3 _ (c4.but (box_below0 (o := .cells tab3 2)) hcb4) (by omega) (by omega)).mono ?_
        rintro e w5 ⟨xt, rfl, xt0, xt1, c5, b5⟩
        obtain ⟨t, rfl⟩ := Int.eq_ofNat_of_zero_le xt0
        obtain ⟨v, hv, v0, v1⟩ := tab3_at t (by omega)
        have q0 := row_at (L := tab3) b5 hcb4 hv
        have ht : t < 3 := by omega
        have O5 := (HO4.out.below box_below0).blk (w' := w5) (b5.block g (by have := HO4.out.lt; simp; omega) (by omega))
        obtain ⟨s0, s1⟩ := O5.cell (f := 4) hi (by omega)
        have O6 := O5.store (f := 4) hi (by omega) v
        have HO6 : Hid _ := O6
        have c6 := c5.setNew (B := g) (j := i * 7 + 4) (by omega) (.int .i64 v)
        have B6 := ((B4.alloc (.cells tab3 2)).trans b5).setNew (B := g) (j := i * 7 + 4) hgb (.int .i64 v)
        clear hv O5 O6 b5 c5
        go_wp2
        go_ret
        exact ⟨g, uc, _, ret_val (by simp), HO6.out, by simpa using hy40, HA2.out.set hi (by omega) v0 v1, c6, B6⟩
      · go_wp2_with fail
        refine (l1Below_any cb a n cap zs 3 _ (c4.but (box_below0 (o := .cells tab4 2)) hcb4) (by omega) (by omega)).mono ?_
        rintro e w5 ⟨xt, rfl, xt0, xt1, c5, b5⟩
        obtain ⟨t, rfl⟩ := Int.eq_ofNat_of_zero_le xt0
        obtain ⟨v, hv, v0, v1⟩ := tab4_at t (by omega)
        have q0 := row_at (L := tab4) b5 hcb4 hv
        have ht : t < 3 := by omega
        have O5 := (HO4.out.below box_below0).blk (w' := w5) (b5.block g (by have := HO4.out.lt; simp; omega) (by omega))
        obtain ⟨s0, s1⟩ := O5.cell (f := 1) hi (by omega)
        have O6 := O5.store (f := 1) hi (by omega) v
        have HO6 : Hid _ := O6
        have c6 := c5.setNew (B := g) (j := i * 7 + 1) (by omega) (.int .i64 v)
        have B6 := ((B4.alloc (.cells tab4 2)).trans b5).setNew (B := g) (j := i * 7 + 1) hgb (.int .i64 v)
        clear hv O5 O6 b5 c5
        go_wp2
        go_ret
        exact ⟨g, uc, _, ret_val (by simp), HO6.out, by simpa using hy40, HA2.out.set hi (by omega) v0 v1, c6, B6⟩
      · go_wp2_with fail
        refine (l1Below_any cb a n cap zs 3 _ (c4.but (box_below0 (o := .cells tab5 2)) hcb4) (by omega) (by omega)).mono ?_
        rintro e w5 ⟨xt, rfl, xt0, xt1, c5, b5⟩
        obtain ⟨t, rfl⟩ := Int.eq_ofNat_of_zero_le xt0
        obtain ⟨v, hv, v0, v1⟩ := tab5_at t (by omega)
        have q0 := row_at (L := tab5) b5 hcb4 hv
        have ht : t < 3 := by omega
        have O5 := (HO4.out.below box_below0).blk (w' := w5) (b5.block g (by have := HO4.out.lt; simp; omega) (by omega))
        obtain ⟨s0, s1⟩ := O5.cell (f := 5) hi (by omega)
        have O6 := O5.store (f := 5) hi (by omega) v
        have HO6 : Hid _ := O6
        have c6 := c5.setNew (B := g) (j := i * 7 + 5) (by omega) (.int .i64 v)
        have B6 := ((B4.alloc (.cells tab5 2)).trans b5).setNew (B := g) (j := i * 7 + 5) hgb (.int .i64 v)
        clear hv O5 O6 b5 c5
        go_wp2
        go_ret
        exact ⟨g, uc, _, ret_val (by simp), HO6.out, by simpa using hy40, HA2.out.set hi (by omega) v0 v1, c6, B6⟩
    · have hl0 : ys.length = 0 := by omega
      obtain rfl : ys = [] := List.eq_nil_of_length_eq_zero hl0
      go_wp2
      go_ret
      exact ⟨g, uc, [], rfl, HO2.out, hy40, HA2.out, c2, B2⟩

end Go.Proofs.Ytfepkchopndpeaa
