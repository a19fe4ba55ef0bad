/- Jobs drawn. What is drawn is not reckoned, only that jobs come, each number small. -/
import Derived.Test.YtcmpenlgkccgkaaJobQS
import Derived.Test.YtcmpenlgkccgkaaDraw
namespace Go.Proofs.Ytcmpenlgkccgkaa
open Go.RowKit Go.Sort

/-- a drawn job: its numbers are small -/
def jsmall (j : Jb) : Prop := ∀ c, c < 7 → -1 ≤ jc j c ∧ jc j c ≤ 1000000001
theorem jsmall.wf {j : Jb} (h : jsmall j) : jwf j := fun c hc => by have := h c hc; omega

theorem OwnJ.blk {w w' : World} {base g cap : Nat} {ys : List Jb} (h : OwnJ w base g cap ys) (hb : w'.heap[g]? = w.heap[g]?) : OwnJ w' base g cap ys := by
  have hlt : g < w'.heap.size := by
    rcases h.own.2 with ⟨e, _⟩ | ⟨g', cap', cur, e, hg, hgg, r⟩
    · cases e
    · injection e with e1 _ _
      injection e1 with e1
      injection e1 with e1 _ _
      subst e1
      rw [← hb] at hgg
      exact lt_of_block hgg
  refine ⟨⟨h.own.1, ?_⟩, h.le, h.mx, h.base, hlt⟩
  rcases h.own.2 with ⟨e, _⟩ | ⟨g', cap', cur, e, hg, hgg, r⟩
  · cases e
  · injection e with e1 _ e3
    injection e1 with e1
    injection e1 with e1 _ _
    subst e1 e3
    exact .inr ⟨g, cap, cur, rfl, hg, hb.trans hgg, r⟩

set_option maxHeartbeats 1000000 in
theorem l3DrawJob_any (cb : Nat) (a : Option Addr) (n cap : Nat) (zs : List Int) (id : Int) (w : World) (h : CurAt w cb a n cap zs) (i0 : -1 ≤ id) (i1 : id ≤ 1000000001) :
    Calls Try.prog 91 #[.pointer (some ⟨cb, 0, none⟩), .int .i64 id] w fun e w' => ∃ j : Jb, e = .returned (.agg #[.int .i64 j.id, .int .i64 j.cores, .int .i64 j.long, .int .i64 j.due, .int .i64 j.wt, .int .i64 j.rank, .int .i64 j.at_]) ∧ j.id = id ∧ jsmall j ∧ CurAt w' cb a n cap zs ∧ But cb w w' := by
  have hcb := h.lt
  have h0 := h.but (box_below0 (o := .cells #[.int .i64 0, .int .i64 0, .int .i64 0, .int .i64 0, .int .i64 0, .int .i64 0, .int .i64 0] 54)) hcb
  go_enter Try.func91, Try.ntmps91
  go_wp2_with fail
  refine (l1Below_any cb a n cap zs 4 _ h0 (by omega) (by omega)).mono ?_
  rintro e w1 ⟨x0, rfl, p0, q0, h1, b0⟩
  go_wp2_with fail
  refine (l1Below_any cb a n cap zs 9 _ h1 (by omega) (by omega)).mono ?_
  rintro e w2 ⟨x1, rfl, p1, q1, h2, b1⟩
  go_wp2_with fail
  refine (l1Below_any cb a n cap zs 30 _ h2 (by omega) (by omega)).mono ?_
  rintro e w3 ⟨x2, rfl, p2, q2, h3, b2⟩
  go_wp2_with fail
  refine (l1Below_any cb a n cap zs 7 _ h3 (by omega) (by omega)).mono ?_
  rintro e w4 ⟨x3, rfl, p3, q3, h4, b3⟩
  go_wp2_with fail
  refine (l1Below_any cb a n cap zs 3 _ h4 (by omega) (by omega)).mono ?_
  rintro e w5 ⟨x4, rfl, p4, q4, h5, b4⟩
  go_wp2_with fail
  refine (l1Below_any cb a n cap zs 6 _ h5 (by omega) (by omega)).mono ?_
  rintro e w6 ⟨x5, rfl, p5, q5, h6, b5⟩
  have B6 : But cb (w.alloc (.cells #[.int .i64 0, .int .i64 0, .int .i64 0, .int .i64 0, .int .i64 0, .int .i64 0, .int .i64 0] 54)) w6 := ((((b0.trans b1).trans b2).trans b3).trans b4).trans b5
  have blk := B6.other hcb
  have g0 : w6.cell? ⟨w.heap.size, 0, none⟩ = some (.int .i64 0) := by simp [World.cell?, blk]
  have f0 : w6.frozen? ⟨w.heap.size, 0, none⟩ = false := by simp [World.frozen?, blk]
  have g1 : w6.cell? ⟨w.heap.size, 1, none⟩ = some (.int .i64 0) := by simp [World.cell?, blk]
  have f1 : w6.frozen? ⟨w.heap.size, 1, none⟩ = false := by simp [World.frozen?, blk]
  have g2 : w6.cell? ⟨w.heap.size, 2, none⟩ = some (.int .i64 0) := by simp [World.cell?, blk]
  have f2 : w6.frozen? ⟨w.heap.size, 2, none⟩ = false := by simp [World.frozen?, blk]
  have g3 : w6.cell? ⟨w.heap.size, 3, none⟩ = some (.int .i64 0) := by simp [World.cell?, blk]
  have f3 : w6.frozen? ⟨w.heap.size, 3, none⟩ = false := by simp [World.frozen?, blk]
  have g4 : w6.cell? ⟨w.heap.size, 4, none⟩ = some (.int .i64 0) := by simp [World.cell?, blk]
  have f4 : w6.frozen? ⟨w.heap.size, 4, none⟩ = false := by simp [World.frozen?, blk]
  have g5 : w6.cell? ⟨w.heap.size, 5, none⟩ = some (.int .i64 0) := by simp [World.cell?, blk]
  have f5 : w6.frozen? ⟨w.heap.size, 5, none⟩ = false := by simp [World.frozen?, blk]
  have g6 : w6.cell? ⟨w.heap.size, 6, none⟩ = some (.int .i64 0) := by simp [World.cell?, blk]
  have f6 : w6.frozen? ⟨w.heap.size, 6, none⟩ = false := by simp [World.frozen?, blk]
  have hz : w.heap.size < w6.heap.size := lt_of_block blk
  have hne : ¬ w.heap.size = cb := by omega
  have h7 := h6
  clear h0 h1 h2 h3 h4 h5 h6 b0 b1 b2 b3 b4 b5
  go_wp2
  refine bodyPost_ret (v := .agg #[.int .i64 id, .int .i64 (1 + x0), .int .i64 (1 + x1), .int .i64 x2, .int .i64 x3, .int .i64 x4, .int .i64 x5]) ?_ rfl ⟨⟨id, 1 + x0, 1 + x1, x2, x3, x4, x5⟩, rfl, rfl, ?_, ?_, ?_⟩
  · simp [results, Try.results91, go_sem, g0, g1, g2, g3, g4, g5, g6]
  · intro c hc
    obtain rfl | rfl | rfl | rfl | rfl | rfl | rfl : c = 0 ∨ c = 1 ∨ c = 2 ∨ c = 3 ∨ c = 4 ∨ c = 5 ∨ c = 6 := by omega
    all_goals (simp only [jc]; omega)
  · exact ((((((h7.setNew hcb _).setNew hcb _).setNew hcb _).setNew hcb _).setNew hcb _).setNew hcb _).setNew hcb _
  · have B0 : But cb w w6 := (But.of box_below0).trans B6
    exact ((((((B0.setNew (Nat.le_refl _) _).setNew (Nat.le_refl _) _).setNew (Nat.le_refl _) _).setNew (Nat.le_refl _) _).setNew (Nat.le_refl _) _).setNew (Nat.le_refl _) _).setNew (Nat.le_refl _) _

/-- a job, just boxed: its cells -/
theorem new7_plain (W : World) (j : Jb) (T : TypeId) : ∀ i u, (jl j)[i]? = some u → (W.alloc (.cells #[.int .i64 j.id, .int .i64 j.cores, .int .i64 j.long, .int .i64 j.due, .int .i64 j.wt, .int .i64 j.rank, .int .i64 j.at_] T)).cell? ((⟨W.heap.size, 0, none⟩ : Addr).add i) = some u := by
  intro i u hi
  have hadd : (⟨W.heap.size, 0, none⟩ : Addr).add i = ⟨W.heap.size, i, none⟩ := by unfold Addr.add; split <;> simp_all
  rw [hadd, Joins.cell_alloc_mark_at _ _ _ _ _ _ rfl]
  show (List.toArray (jl j))[i]? = _
  rw [List.getElem?_toArray]
  exact hi

/-- all small -/
def allSmall (ys : List Jb) : Prop := ∀ y ∈ ys, jsmall y
theorem allSmall.snoc {ys : List Jb} {j : Jb} (h : allSmall ys) (hj : jsmall j) : allSmall (ys ++ [j]) := by
  intro y hy
  rcases List.mem_append.1 hy with h1 | h1
  · exact h y h1
  · rw [List.mem_singleton.1 h1]; exact hj

set_option maxRecDepth 8000 in
set_option maxHeartbeats 1000000 in
theorem l3Draw_any (cb : Nat) (a : Option Addr) (n cap : Nat) (zs : List Int) (most : Int) (w : World) (h : CurAt w cb a n cap zs) (m0 : 0 ≤ most) (m1 : most ≤ 40) :
    Calls Try.prog 79 #[.pointer (some ⟨cb, 0, none⟩), .int .i64 most] w fun e w' => ∃ g c ys, e = .returned (.slice (some ⟨g, 0, none⟩) ys.length c) ∧ OwnJ w' w.heap.size g c ys ∧ ys.length ≤ 40 ∧ allSmall ys ∧ CurAt w' cb a n cap zs ∧ But cb w w' := by
  obtain ⟨i1, hj, hj0, hj1, hj2⟩ := info_parts infoJ
  have hcb := h.lt
  have h0 := h.but (box_below0 (o := .cells #[] 54)) hcb
  have own0 : OwnJ (w.alloc (.cells #[] 54)) w.heap.size w.heap.size 0 [] := ⟨World.ownsRow_made w #[] 0 (Nat.le_refl _) (Nat.zero_le _) rfl, Nat.le_refl _, Nat.zero_le _, Nat.le_refl _, by simp⟩
  go_enter Try.func79, Try.ntmps79
  go_wp2_with fail
  refine (l1Below_any cb a n cap zs (most + 1) _ h0 (by omega) (by omega)).mono ?_
  rintro e w1 ⟨x, rfl, x0, x1, c1, b1⟩
  obtain ⟨k0, rfl⟩ := Int.eq_ofNat_of_zero_le x0
  have own1 := own0.blk (w' := w1) (b1.block _ (by simp) (by omega))
  have B1 : But cb w w1 := (But.of box_below0).trans b1
  clear own0 h0 b1
  go_wp2
  go_loopw [5, 6] (fun u s wr => ∃ (k g uc : Nat) (ys : List Jb), k + ys.length ≤ 40 ∧ s = .int .i64 k ∧ u = .slice (some ⟨g, 0, none⟩) ys.length uc ∧ Hid (OwnJ wr w.heap.size g uc ys) ∧ Hid (allSmall ys) ∧ CurAt wr cb a n cap zs ∧ But cb w wr) (fun _ s _ => (intOf s).toNat)
  case atStart => exact ⟨k0, _, 0, [], by simp; omega, rfl, rfl, own1, (fun y hy => by cases hy), c1, B1⟩
  case round =>
    obtain ⟨k, g, uc, ys, hk, rfl, rfl, HO, HA, hc, hb⟩ := hrel
    by_cases hlt : 0 < k
    · have hlt' : (0 : Int) < (k : Int) := by omega
      go_wp2_with fail
      refine (l3DrawJob_any cb a n cap zs k _ hc (by omega) (by omega)).mono ?_
      rintro e w2 ⟨j, rfl, hid, hsm, c2, b2⟩
      have hOg := HO.out
      have hgb := hOg.base
      have O2 := hOg.blk (w' := w2) (b2.block g hOg.lt (by omega))
      have B2 := hb.trans b2
      have hz2 := B2.size
      have OA : (w2.alloc (.cells #[.int .i64 j.id, .int .i64 j.cores, .int .i64 j.long, .int .i64 j.due, .int .i64 j.wt, .int .i64 j.rank, .int .i64 j.at_] 54)).ownsRow w.heap.size 54 7 (.slice (some ⟨g, 0, none⟩) ys.length uc) ys.length (jcells ys) := (O2.below box_below0).own
      clear hid
      go_wp2_with (at_builtin; refine wpList_append_own_at _ rfl (.tmp 16) (.tmp 20) 26 rfl w.heap.size 54 i1 (.agg #[.int .i64 0, .int .i64 0, .int .i64 0, .int .i64 0, .int .i64 0, .int .i64 0, .int .i64 0]) 7 56 Try.underlying26 hj hj0 hj1 hj2 rfl (by decide) _ _ _ rfl OA ⟨w2.heap.size, 0, none⟩ 1 1 [.int .i64 j.id, .int .i64 j.cores, .int .i64 j.long, .int .i64 j.due, .int .i64 j.wt, .int .i64 j.rank, .int .i64 j.at_] rfl rfl (new7_plain _ _ _) (jl_one j) (by unfold maxLen; omega) (by omega) (by simp; omega) ?_)
      intro v3 w3 own3 grow3 nil3 at3
      have hc3 : CurAt w3 cb a n cap zs := c2.keep (fun r hr => (grow3.block r (by have := c2.lt; simp; omega) (by simp [Value.ownBlock]; omega)).trans (Below.heap_alloc _ _ _ (by have := c2.lt; omega))) (Nat.le_trans (by simp) grow3.size)
      have B3 : But cb w w3 := (B2.alloc _).grownB (B := w.heap.size) grow3 (Nat.le_refl _) (fun r e => by have e' : g = r := Option.some.inj e; omega)
      obtain ⟨g3, c3, rfl, O3⟩ := ownJ_of' (ys := ys ++ [j]) own3 (by simp) (by rw [jcells_app]; rfl) (by first | exact nil3 | exact fun e => nomatch (nil3.1 e).1)
      have HO3 : Hid (OwnJ w3 w.heap.size g3 c3 (ys ++ [j])) := O3
      have HA3 : Hid (allSmall (ys ++ [j])) := HA.out.snoc hsm
      clear own3 grow3 nil3 at3 OA O3 hsm
      go_wp2
      go_roundw
      case rel => exact ⟨k - 1, g3, c3, ys ++ [j], by simp; omega, by go_num, by simp, HO3, HA3, hc3, B3⟩
      case measure => simp [intOf]; omega
    · obtain rfl : k = 0 := by omega
      go_wp2
      go_ret
      exact ⟨g, uc, ys, rfl, HO.out, by omega, HA.out, hc, hb⟩

end Go.Proofs.Ytcmpenlgkccgkaa
