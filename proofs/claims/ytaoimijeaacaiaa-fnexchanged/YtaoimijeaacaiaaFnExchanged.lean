/- For every input that can be read the law FnExchanged returns true, and what it was handed reads as before. The frame is the kit's; the opening of the arguments and the walk are ours. -/
import Derived.Test.YtaoimijeaacaiaaRows
import Derived.WalkKit
import Derived.ProofKit
import Derived.OpenShut
import Derived.ChangeOld
import Derived.Below
import Derived.Test.YtaoimijeaacaiaaSwap
import Derived.Test.YtaoimijeaacaiaaEndsS2
import Derived.Test.YtaoimijeaacaiaaJobDraw3
import Derived.Test.YtaoimijeaacaiaaBytesOpen
namespace Go.Proofs.Ytaoimijeaacaiaa.fnExchanged
open Go.ChangeShapes Go.WideShapes Go.ChangeAt Go.RowKit
set_option linter.unusedVariables false

theorem own : ownKnob Try.prog.godebug = none := by kernel_rfl
theorem laidOut : laidOutB Try.prog = true := by kernel_rfl

set_option maxRecDepth 8000 in
set_option maxHeartbeats 4000000 in
theorem walk (a0 : Option Addr) (n0 cap0 : Nat) (z0 : List Int) (w : World) (w0 : IsBytes w a0 n0 cap0 z0) :
    Calls Try.prog 8 #[.slice a0 n0 cap0] w fun e w' => e = .returned (.bool true) ∧ Below w.heap.size w w' := by
  have hmx := w0.mx
  have hle := w0.le
  by_cases hn : n0 ≤ 4096
  · go_enter Try.func8, Try.ntmps8
    go_wp2_with fail
    refine (big_any a0 n0 cap0 _ false (by simpa using hn)).mono ?_
    rintro e w' ⟨rfl, hq⟩; have hq' := hq.symm; clear hq; subst hq'
    go_wp2_with fail
    refine (drawWeighted_any a0 n0 cap0 z0 _ w0 hn).mono ?_
    rintro e w1 ⟨g, c, ys, rfl, O, hy, hA, U1⟩
    have J1 : JobS w1 (some ⟨g, 0, none⟩) ys.length c ys := O.toS (fun i hi => (hA _ (by rw [jg_get hi]; exact List.getElem_mem hi)).wf)
    go_wp2_with fail
    refine (implWeighted_any _ ys.length c ys _ J1).mono ?_
    rintro e w2 ⟨rfl, hb2⟩
    have U2 := U1.then hb2 U1.size
    go_wp2_with fail
    refine (specWeighted_any _ ys.length c ys _ (J1.below hb2)).mono ?_
    rintro e w3 ⟨rfl, hb3⟩
    have V3 := hb2.then hb3 hb2.size
    have U3 := U2.then hb3 U2.size
    by_cases c2 : ys.length < 2
    · have c2' : (ys.length : Int) < 2 := by omega
      go_wp2_with fail
      refine (specWeighted_any _ ys.length c ys _ (J1.below V3)).mono ?_
      rintro e w4 ⟨rfl, hb4⟩
      go_wp2
      go_ret
      exact ⟨rfl, U3.then hb4 U3.size⟩
    · have c2' : ¬ ((ys.length : Int) < 2) := by omega
      go_wp2_with fail
      refine (specJobsOk_any _ ys.length c ys _ (J1.below V3)).mono ?_
      rintro e w4 ⟨rfl, hb4⟩
      have V4 := V3.then hb4 V3.size
      have U4 := U3.then hb4 U3.size
      rcases hq : jsB ys with _ | _
      · go_wp2_with fail
        refine (specWeighted_any _ ys.length c ys _ (J1.below V4)).mono ?_
        rintro e w5 ⟨rfl, hb5⟩
        go_wp2
        go_ret
        exact ⟨rfl, U4.then hb5 U4.size⟩
      · go_wp2_with fail
        refine (pick_any a0 n0 cap0 z0 1 ((ys.length : Int) - 1) _ (w0.below U4) hn (by omega) (by omega) (by omega) (by omega)).mono ?_
        rintro e w' ⟨x, rfl, x0, x1, hq'⟩; have hq2 := hq'.symm; clear hq'; subst hq2
        obtain ⟨k, rfl⟩ := Int.eq_ofNat_of_zero_le x0
        have hk : k + 1 < ys.length := by omega
        obtain ⟨i1, hj, hj0, hj1, hj2⟩ := info_parts infoJ
        have OE := World.ownsRow_made (base := w4.heap.size) (e := 28) (size := 7) w4 #[] 0 (Nat.le_refl _) (Nat.zero_le _) rfl
        have O4 := O.below V4
        have HC : ∀ j u, (jcells ys)[j]? = some u → (w4.alloc (.cells #[] 28)).cell? ((⟨g, 0, none⟩ : Addr).add j) = some u := by
          intro j u hju
          have := World.ownsRow.cells O4.own (g := g) rfl j u hju
          have hadd : (⟨g, 0, none⟩ : Addr).add j = ⟨g, j, none⟩ := by unfold Addr.add; split <;> simp_all
          rw [hadd] at this ⊢
          rw [World.cell?_alloc_lt _ _ _ O4.lt]
          exact this
        have hjl : (jcells ys).length = ys.length * 7 := jcells_len ys
        have hle4 := O4.le
        have hmx4 := O4.mx
        unfold maxLen at hmx4
        go_wp2_with (at_builtin; refine wpList_append_own_at _ rfl (.tmp 36) (.tmp 37) 24 rfl w4.heap.size 28 i1 (.agg #[.int .i64 0, .int .i64 0, .int .i64 0, .int .i64 0, .int .i64 0, .int .i64 0, .int .i64 0]) 7 56 Try.underlying24 hj hj0 hj1 hj2 rfl (by decide) _ _ _ rfl OE ⟨g, 0, none⟩ ys.length c (jcells ys) ?eb hjl HC (jcells_one _) (by unfold maxLen; omega) (by omega) (by simp) ?_)
        case eb => rfl
        intro v5 w5 own5 grow5 nil5 at5
        obtain ⟨g6, c6, rfl, O6⟩ := ownJ_of (ys := ys) own5 (by simp) (by simp) (by first | exact nil5 | exact fun e => nomatch (nil5.1 e).1)
        have B5 : Below w4.heap.size w4 w5 := box_below0.grown grow5 (by simp) (fun r e => by simp [Value.ownBlock] at e; omega)
        have O5 := O4.below B5
        have hgg : g < g6 := by have := O4.lt; have := O6.base; omega
        have hne : g ≠ g6 := by omega
        have hne2 : g6 ≠ g := by omega
        clear own5 grow5 nil5 at5 OE HC
        have qa0 : w5.cell? ⟨g, k * 7, none⟩ = some (.int .i64 (jg ys k).id) := (O5.cell (i := k) (f := 0) (by omega) (by omega)).1
        have ra0 : w5.cell? ⟨g6, k * 7, none⟩ = some (.int .i64 (jg ys k).id) ∧ w5.frozen? ⟨g6, k * 7, none⟩ = false := O6.cell (i := k) (f := 0) (by omega) (by omega)
        have qa1 : w5.cell? ⟨g, k * 7 + 1, none⟩ = some (.int .i64 (jg ys k).cores) := (O5.cell (i := k) (f := 1) (by omega) (by omega)).1
        have ra1 : w5.cell? ⟨g6, k * 7 + 1, none⟩ = some (.int .i64 (jg ys k).cores) ∧ w5.frozen? ⟨g6, k * 7 + 1, none⟩ = false := O6.cell (i := k) (f := 1) (by omega) (by omega)
        have qa2 : w5.cell? ⟨g, k * 7 + 2, none⟩ = some (.int .i64 (jg ys k).long) := (O5.cell (i := k) (f := 2) (by omega) (by omega)).1
        have ra2 : w5.cell? ⟨g6, k * 7 + 2, none⟩ = some (.int .i64 (jg ys k).long) ∧ w5.frozen? ⟨g6, k * 7 + 2, none⟩ = false := O6.cell (i := k) (f := 2) (by omega) (by omega)
        have qa3 : w5.cell? ⟨g, k * 7 + 3, none⟩ = some (.int .i64 (jg ys k).due) := (O5.cell (i := k) (f := 3) (by omega) (by omega)).1
        have ra3 : w5.cell? ⟨g6, k * 7 + 3, none⟩ = some (.int .i64 (jg ys k).due) ∧ w5.frozen? ⟨g6, k * 7 + 3, none⟩ = false := O6.cell (i := k) (f := 3) (by omega) (by omega)
        have qa4 : w5.cell? ⟨g, k * 7 + 4, none⟩ = some (.int .i64 (jg ys k).wt) := (O5.cell (i := k) (f := 4) (by omega) (by omega)).1
        have ra4 : w5.cell? ⟨g6, k * 7 + 4, none⟩ = some (.int .i64 (jg ys k).wt) ∧ w5.frozen? ⟨g6, k * 7 + 4, none⟩ = false := O6.cell (i := k) (f := 4) (by omega) (by omega)
        have qa5 : w5.cell? ⟨g, k * 7 + 5, none⟩ = some (.int .i64 (jg ys k).rank) := (O5.cell (i := k) (f := 5) (by omega) (by omega)).1
        have ra5 : w5.cell? ⟨g6, k * 7 + 5, none⟩ = some (.int .i64 (jg ys k).rank) ∧ w5.frozen? ⟨g6, k * 7 + 5, none⟩ = false := O6.cell (i := k) (f := 5) (by omega) (by omega)
        have qa6 : w5.cell? ⟨g, k * 7 + 6, none⟩ = some (.int .i64 (jg ys k).at_) := (O5.cell (i := k) (f := 6) (by omega) (by omega)).1
        have ra6 : w5.cell? ⟨g6, k * 7 + 6, none⟩ = some (.int .i64 (jg ys k).at_) ∧ w5.frozen? ⟨g6, k * 7 + 6, none⟩ = false := O6.cell (i := k) (f := 6) (by omega) (by omega)
        have qb0 : w5.cell? ⟨g, (k + 1) * 7, none⟩ = some (.int .i64 (jg ys (k + 1)).id) := (O5.cell (i := (k + 1)) (f := 0) (by omega) (by omega)).1
        have rb0 : w5.cell? ⟨g6, (k + 1) * 7, none⟩ = some (.int .i64 (jg ys (k + 1)).id) ∧ w5.frozen? ⟨g6, (k + 1) * 7, none⟩ = false := O6.cell (i := (k + 1)) (f := 0) (by omega) (by omega)
        have qb1 : w5.cell? ⟨g, (k + 1) * 7 + 1, none⟩ = some (.int .i64 (jg ys (k + 1)).cores) := (O5.cell (i := (k + 1)) (f := 1) (by omega) (by omega)).1
        have rb1 : w5.cell? ⟨g6, (k + 1) * 7 + 1, none⟩ = some (.int .i64 (jg ys (k + 1)).cores) ∧ w5.frozen? ⟨g6, (k + 1) * 7 + 1, none⟩ = false := O6.cell (i := (k + 1)) (f := 1) (by omega) (by omega)
        have qb2 : w5.cell? ⟨g, (k + 1) * 7 + 2, none⟩ = some (.int .i64 (jg ys (k + 1)).long) := (O5.cell (i := (k + 1)) (f := 2) (by omega) (by omega)).1
        have rb2 : w5.cell? ⟨g6, (k + 1) * 7 + 2, none⟩ = some (.int .i64 (jg ys (k + 1)).long) ∧ w5.frozen? ⟨g6, (k + 1) * 7 + 2, none⟩ = false := O6.cell (i := (k + 1)) (f := 2) (by omega) (by omega)
        have qb3 : w5.cell? ⟨g, (k + 1) * 7 + 3, none⟩ = some (.int .i64 (jg ys (k + 1)).due) := (O5.cell (i := (k + 1)) (f := 3) (by omega) (by omega)).1
        have rb3 : w5.cell? ⟨g6, (k + 1) * 7 + 3, none⟩ = some (.int .i64 (jg ys (k + 1)).due) ∧ w5.frozen? ⟨g6, (k + 1) * 7 + 3, none⟩ = false := O6.cell (i := (k + 1)) (f := 3) (by omega) (by omega)
        have qb4 : w5.cell? ⟨g, (k + 1) * 7 + 4, none⟩ = some (.int .i64 (jg ys (k + 1)).wt) := (O5.cell (i := (k + 1)) (f := 4) (by omega) (by omega)).1
        have rb4 : w5.cell? ⟨g6, (k + 1) * 7 + 4, none⟩ = some (.int .i64 (jg ys (k + 1)).wt) ∧ w5.frozen? ⟨g6, (k + 1) * 7 + 4, none⟩ = false := O6.cell (i := (k + 1)) (f := 4) (by omega) (by omega)
        have qb5 : w5.cell? ⟨g, (k + 1) * 7 + 5, none⟩ = some (.int .i64 (jg ys (k + 1)).rank) := (O5.cell (i := (k + 1)) (f := 5) (by omega) (by omega)).1
        have rb5 : w5.cell? ⟨g6, (k + 1) * 7 + 5, none⟩ = some (.int .i64 (jg ys (k + 1)).rank) ∧ w5.frozen? ⟨g6, (k + 1) * 7 + 5, none⟩ = false := O6.cell (i := (k + 1)) (f := 5) (by omega) (by omega)
        have qb6 : w5.cell? ⟨g, (k + 1) * 7 + 6, none⟩ = some (.int .i64 (jg ys (k + 1)).at_) := (O5.cell (i := (k + 1)) (f := 6) (by omega) (by omega)).1
        have rb6 : w5.cell? ⟨g6, (k + 1) * 7 + 6, none⟩ = some (.int .i64 (jg ys (k + 1)).at_) ∧ w5.frozen? ⟨g6, (k + 1) * 7 + 6, none⟩ = false := O6.cell (i := (k + 1)) (f := 6) (by omega) (by omega)
        have n1 : (0 : Int) ≤ (k : Int) := by omega
        have n2 : (k : Int) < (ys.length : Int) := by omega
        have n3 : (k : Int) + 1 < (ys.length : Int) := by omega
        go_wp2
        have O7 := O6.store7 (i := k) (by omega) (jg ys (k + 1))
        have O8 := O7.store7 (i := k + 1) (by simp; omega) (jg ys k)
        have U5 := U4.then B5 U4.size
        have hz6 : w.heap.size ≤ g6 := by have := U4.size; have := O6.base; omega
        have UB : Below w.heap.size w ((((((((((((((w5.setCell ⟨g6, k * 7, none⟩ (.int .i64 (jg ys (k + 1)).id)).setCell ⟨g6, k * 7 + 1, none⟩ (.int .i64 (jg ys (k + 1)).cores)).setCell ⟨g6, k * 7 + 2, none⟩ (.int .i64 (jg ys (k + 1)).long)).setCell ⟨g6, k * 7 + 3, none⟩ (.int .i64 (jg ys (k + 1)).due)).setCell ⟨g6, k * 7 + 4, none⟩ (.int .i64 (jg ys (k + 1)).wt)).setCell ⟨g6, k * 7 + 5, none⟩ (.int .i64 (jg ys (k + 1)).rank)).setCell ⟨g6, k * 7 + 6, none⟩ (.int .i64 (jg ys (k + 1)).at_)).setCell ⟨g6, (k + 1) * 7, none⟩ (.int .i64 (jg ys k).id)).setCell ⟨g6, (k + 1) * 7 + 1, none⟩ (.int .i64 (jg ys k).cores)).setCell ⟨g6, (k + 1) * 7 + 2, none⟩ (.int .i64 (jg ys k).long)).setCell ⟨g6, (k + 1) * 7 + 3, none⟩ (.int .i64 (jg ys k).due)).setCell ⟨g6, (k + 1) * 7 + 4, none⟩ (.int .i64 (jg ys k).wt)).setCell ⟨g6, (k + 1) * 7 + 5, none⟩ (.int .i64 (jg ys k).rank)).setCell ⟨g6, (k + 1) * 7 + 6, none⟩ (.int .i64 (jg ys k).at_)) := ((((((((((((((U5.setCell hz6 _).setCell hz6 _).setCell hz6 _).setCell hz6 _).setCell hz6 _).setCell hz6 _).setCell hz6 _).setCell hz6 _).setCell hz6 _).setCell hz6 _).setCell hz6 _).setCell hz6 _).setCell hz6 _).setCell hz6 _)
        have hgb : ((((((((((((((w5.setCell ⟨g6, k * 7, none⟩ (.int .i64 (jg ys (k + 1)).id)).setCell ⟨g6, k * 7 + 1, none⟩ (.int .i64 (jg ys (k + 1)).cores)).setCell ⟨g6, k * 7 + 2, none⟩ (.int .i64 (jg ys (k + 1)).long)).setCell ⟨g6, k * 7 + 3, none⟩ (.int .i64 (jg ys (k + 1)).due)).setCell ⟨g6, k * 7 + 4, none⟩ (.int .i64 (jg ys (k + 1)).wt)).setCell ⟨g6, k * 7 + 5, none⟩ (.int .i64 (jg ys (k + 1)).rank)).setCell ⟨g6, k * 7 + 6, none⟩ (.int .i64 (jg ys (k + 1)).at_)).setCell ⟨g6, (k + 1) * 7, none⟩ (.int .i64 (jg ys k).id)).setCell ⟨g6, (k + 1) * 7 + 1, none⟩ (.int .i64 (jg ys k).cores)).setCell ⟨g6, (k + 1) * 7 + 2, none⟩ (.int .i64 (jg ys k).long)).setCell ⟨g6, (k + 1) * 7 + 3, none⟩ (.int .i64 (jg ys k).due)).setCell ⟨g6, (k + 1) * 7 + 4, none⟩ (.int .i64 (jg ys k).wt)).setCell ⟨g6, (k + 1) * 7 + 5, none⟩ (.int .i64 (jg ys k).rank)).setCell ⟨g6, (k + 1) * 7 + 6, none⟩ (.int .i64 (jg ys k).at_)).heap[g]? = w5.heap[g]? := (Below.heap_setCell _ _ _ _ hne).trans ((Below.heap_setCell _ _ _ _ hne).trans ((Below.heap_setCell _ _ _ _ hne).trans ((Below.heap_setCell _ _ _ _ hne).trans ((Below.heap_setCell _ _ _ _ hne).trans ((Below.heap_setCell _ _ _ _ hne).trans ((Below.heap_setCell _ _ _ _ hne).trans ((Below.heap_setCell _ _ _ _ hne).trans ((Below.heap_setCell _ _ _ _ hne).trans ((Below.heap_setCell _ _ _ _ hne).trans ((Below.heap_setCell _ _ _ _ hne).trans ((Below.heap_setCell _ _ _ _ hne).trans ((Below.heap_setCell _ _ _ _ hne).trans (Below.heap_setCell _ _ _ _ hne)))))))))))))
        change OwnJ _ _ _ _ (swp ys k) at O8
        generalize ((((((((((((((w5.setCell ⟨g6, k * 7, none⟩ (.int .i64 (jg ys (k + 1)).id)).setCell ⟨g6, k * 7 + 1, none⟩ (.int .i64 (jg ys (k + 1)).cores)).setCell ⟨g6, k * 7 + 2, none⟩ (.int .i64 (jg ys (k + 1)).long)).setCell ⟨g6, k * 7 + 3, none⟩ (.int .i64 (jg ys (k + 1)).due)).setCell ⟨g6, k * 7 + 4, none⟩ (.int .i64 (jg ys (k + 1)).wt)).setCell ⟨g6, k * 7 + 5, none⟩ (.int .i64 (jg ys (k + 1)).rank)).setCell ⟨g6, k * 7 + 6, none⟩ (.int .i64 (jg ys (k + 1)).at_)).setCell ⟨g6, (k + 1) * 7, none⟩ (.int .i64 (jg ys k).id)).setCell ⟨g6, (k + 1) * 7 + 1, none⟩ (.int .i64 (jg ys k).cores)).setCell ⟨g6, (k + 1) * 7 + 2, none⟩ (.int .i64 (jg ys k).long)).setCell ⟨g6, (k + 1) * 7 + 3, none⟩ (.int .i64 (jg ys k).due)).setCell ⟨g6, (k + 1) * 7 + 4, none⟩ (.int .i64 (jg ys k).wt)).setCell ⟨g6, (k + 1) * 7 + 5, none⟩ (.int .i64 (jg ys k).rank)).setCell ⟨g6, (k + 1) * 7 + 6, none⟩ (.int .i64 (jg ys k).at_)) = WB at O8 UB hgb ⊢
        have OB : OwnJ WB w.heap.size g c ys := O5.blk hgb
        have hls := swp_len ys k
        have wfy : ∀ i, i < ys.length → jwf (jg ys i) := fun i hi => J1.wf i hi
        have wfs : ∀ i, i < (swp ys k).length → jwf (jg (swp ys k) i) := fun i hi => by
          rw [swp_g hk]
          split
          · exact wfy _ hk
          · split
            · exact wfy _ (by omega)
            · exact wfy _ (by omega)
        have JX0 : JobS WB (some ⟨g6, 0, none⟩) (swp ys k).length c6 (swp ys k) := O8.toS wfs
        have JL : JobS WB (some ⟨g, 0, none⟩) ys.length c ys := OB.toS wfy
        have JX : JobS WB (some ⟨g6, 0, none⟩) ys.length c6 (swp ys k) := by rw [hls] at JX0; exact JX0
        have hqs : jsB (swp ys k) = true := jsB_mk (swp_ok hk (jsB_t hq))
        have oky := (jsB_t hq).ok
        have oks := (jsB_t hqs).ok
        have bj := jok_bd (oky k (by omega)).1
        have bk := jok_bd (oky (k + 1) hk).1
        have eV : ∀ g : Jb → Int → Int, sumV g (swp ys k) = sumG g (swp ys k) ys.length := fun g => by unfold sumV; rw [if_pos hqs, hls]
        have eW : ∀ g : Jb → Int → Int, sumV g ys = sumG g ys ys.length := fun g => by unfold sumV; rw [if_pos hq]
        have d1 : sumV gWeighted (swp ys k) - sumV gWeighted ys = (jg ys k).wt * (jg ys (k + 1)).long - (jg ys (k + 1)).wt * (jg ys k).long := by rw [eV, eW]; exact weighted_swp hk
        have d2 : sumV gWaiting (swp ys k) - sumV gWaiting ys = (jg ys (k + 1)).long - (jg ys k).long := by rw [eV, eW]; exact waiting_swp hk
        have hy40 : ys.length ≤ 40 := (jsB_t hq).n
        have b1 := sumG_bd g_bd_Weighted oky (by omega) ys.length (Nat.le_refl _)
        have b2 := sumG_bd g_bd_Waiting oky (by omega) ys.length (Nat.le_refl _)
        have b3 := sumG_bd g_bd_Weighted oks (by omega) ys.length (by omega)
        have b4 := sumG_bd g_bd_Waiting oks (by omega) ys.length (by omega)
        rw [← eW] at b1 b2
        rw [← eV] at b3 b4
        have p1 : 0 ≤ (jg ys k).wt * (jg ys (k + 1)).long ∧ (jg ys k).wt * (jg ys (k + 1)).long ≤ 400000000 := wt_bd (oky k (by omega)).1 (by omega) (by omega)
        have p2 : 0 ≤ (jg ys (k + 1)).wt * (jg ys k).long ∧ (jg ys (k + 1)).wt * (jg ys k).long ≤ 400000000 := wt_bd (oky (k + 1) hk).1 (by omega) (by omega)
        have KK : ∀ W, Below WB.heap.size WB W → (Below WB.heap.size WB W ∧ W.cell? ⟨g, k * 7 + 4, none⟩ = some (.int .i64 (jg ys k).wt) ∧ W.cell? ⟨g, (k + 1) * 7 + 2, none⟩ = some (.int .i64 (jg ys (k + 1)).long) ∧ W.cell? ⟨g, (k + 1) * 7 + 4, none⟩ = some (.int .i64 (jg ys (k + 1)).wt) ∧ W.cell? ⟨g, k * 7 + 2, none⟩ = some (.int .i64 (jg ys k).long)) := fun W hW =>
          ⟨hW, ((OB.below hW).cell (i := k) (f := 4) (by omega) (by omega)).1, ((OB.below hW).cell (i := k + 1) (f := 2) (by omega) (by omega)).1, ((OB.below hW).cell (i := k + 1) (f := 4) (by omega) (by omega)).1, ((OB.below hW).cell (i := k) (f := 2) (by omega) (by omega)).1⟩
        have KB : ∀ {W}, (Below WB.heap.size WB W ∧ W.cell? ⟨g, k * 7 + 4, none⟩ = some (.int .i64 (jg ys k).wt) ∧ W.cell? ⟨g, (k + 1) * 7 + 2, none⟩ = some (.int .i64 (jg ys (k + 1)).long) ∧ W.cell? ⟨g, (k + 1) * 7 + 4, none⟩ = some (.int .i64 (jg ys (k + 1)).wt) ∧ W.cell? ⟨g, k * 7 + 2, none⟩ = some (.int .i64 (jg ys k).long)) → Below WB.heap.size WB W := fun h => h.1
        have CW : ∀ W, Below WB.heap.size WB W → Calls Try.prog 41 #[.slice (some ⟨g6, 0, none⟩) ys.length c6] W fun e w' => e = .returned (.int .i64 (sumV gWeighted (swp ys k))) ∧ Below W.heap.size W w' := fun W hW => implWeighted_any _ ys.length c6 (swp ys k) W (JX.below hW)
        have CX : ∀ W, Below WB.heap.size WB W → Calls Try.prog 45 #[.slice (some ⟨g6, 0, none⟩) ys.length c6] W fun e w' => e = .returned (.int .i64 (sumV gWaiting (swp ys k))) ∧ Below W.heap.size W w' := fun W hW => implWaiting_any _ ys.length c6 (swp ys k) W (JX.below hW)
        have CL : ∀ W, Below WB.heap.size WB W → Calls Try.prog 45 #[.slice (some ⟨g, 0, none⟩) ys.length c] W fun e w' => e = .returned (.int .i64 (sumV gWaiting ys)) ∧ Below W.heap.size W w' := fun W hW => implWaiting_any _ ys.length c ys W (JL.below hW)
        clear eV eW hqs oky oks JX JX0 JL wfs wfy O7 O8 OB O5 O6 B5 hgb J1 O O4 hA hls hjl hj hj0 hj1 hj2 U5
        clear qa0 qa1 qa2 qa3 qa4 qa5 qa6 qb0 qb1 qb2 qb3 qb4 qb5 qb6 ra0 ra1 ra2 ra3 ra4 ra5 ra6 rb0 rb1 rb2 rb3 rb4 rb5 rb6
        generalize (jg ys k).wt = A1 at *
        generalize (jg ys (k + 1)).wt = A2 at *
        generalize (jg ys k).long = L1 at *
        generalize (jg ys (k + 1)).long = L2 at *
        generalize sumV gWeighted (swp ys k) = X1 at *
        generalize sumV gWaiting (swp ys k) = X2 at *
        generalize sumV gWaiting ys = X3 at *
        generalize sumV gWeighted ys = X4 at *
        have n4 : (0 : Int) ≤ (k : Int) + 1 := by omega
        have n5 : ((k : Int) + 1).toNat = k + 1 := by omega
        have wk : IntKind.i64.wrap ((k : Int) + 1) = (k : Int) + 1 := by rw [IntKind.wrap_i64]; omega
        have wp1 : IntKind.i64.wrap (A1 * L2) = A1 * L2 := by rw [IntKind.wrap_i64]; omega
        have wp2 : IntKind.i64.wrap (A2 * L1) = A2 * L1 := by rw [IntKind.wrap_i64]; omega
        have wp3 : IntKind.i64.wrap (A1 * L2 - A2 * L1) = A1 * L2 - A2 * L1 := by rw [IntKind.wrap_i64]; omega
        have wp4 : IntKind.i64.wrap (X1 - X4) = A1 * L2 - A2 * L1 := by rw [IntKind.wrap_i64]; omega
        have wp5 : IntKind.i64.wrap (X2 - X3) = L2 - L1 := by rw [IntKind.wrap_i64]; omega
        have wp6 : IntKind.i64.wrap (L2 - L1) = L2 - L1 := by rw [IntKind.wrap_i64]; omega
        clear d1 d2 b1 b2 b3 b4 p1 p2 bj bk
        go_region_held3 (fun w' => Below WB.heap.size WB w' ∧ w'.cell? ⟨g, k * 7 + 4, none⟩ = some (.int .i64 A1) ∧ w'.cell? ⟨g, (k + 1) * 7 + 2, none⟩ = some (.int .i64 L2) ∧ w'.cell? ⟨g, (k + 1) * 7 + 4, none⟩ = some (.int .i64 A2) ∧ w'.cell? ⟨g, k * 7 + 2, none⟩ = some (.int .i64 L1)) (first | exact KK _ SB | exact KK _ (Below.refl _ _).drew | go_keep) (first
          | (go_at_call 41
             refine (CW _ (KB (by assumption))).mono ?_
             rintro e w6 ⟨rfl, hb6⟩
             have SB : Below WB.heap.size WB w6 := Below.then (KB (by assumption)) hb6 (KB (by assumption)).size)
          | (go_at_call 45
             refine (CX _ (KB (by assumption))).mono ?_
             rintro e w7 ⟨rfl, hb7⟩
             have SB : Below WB.heap.size WB w7 := Below.then (KB (by assumption)) hb7 (KB (by assumption)).size)
          | (go_at_call 45
             refine (CL _ (KB (by assumption))).mono ?_
             rintro e w8 ⟨rfl, hb8⟩
             have SB : Below WB.heap.size WB w8 := Below.then (KB (by assumption)) hb8 (KB (by assumption)).size))
        all_goals
          go_wp2
          go_ret
          exact ⟨rfl, UB.then SB UB.size⟩
  · have c0 : decide (4096 < n0) = true := by simpa using hn
    go_enter Try.func8, Try.ntmps8
    go_wp2_with fail
    refine (big_any a0 n0 cap0 _ true c0.symm).mono ?_
    rintro e w' ⟨rfl, hq⟩; have hq' := hq.symm; clear hq; subst hq'
    go_wp2
    go_ret
    exact ⟨rfl, Below.refl _ _⟩

set_option maxRecDepth 100000 in
theorem lifted (os : Os) (started : os.Started) (H : Type) (enc : TypeId × Value → H) :
    ReturnsInHanded {} Try.checked os 8 .any (Rows.fnExchangedSpec.pre6 enc Try.prog Try.f8 Rows.fnExchangedRow.domain false) (Rows.fnExchangedSpec.post enc Try.prog Try.f8 false true false false) := by
  refine returnsInHanded_of_change (C := Try.checked) own started (by kernel_rfl) Try.func8
    (ChangeSpec.witness6 (enc := enc) (C := Try.checked) false ⟨#[], #[.slice none 0 0], []⟩ 8 (by kernel_rfl) (by kernel_rfl) (by kernel_rfl) (by kernel_rfl)) ?_
  intro W base args ds gs before hval0 hW hcnd _
  have hval : ∀ (j : Nat) t v, Try.f8.params[j]? = some t → args[j]? = some v → Value.okWide Try.prog W .any base t v := hval0
  have hW' := hW
  obtain ⟨p, q, hA0, hV, rfl, hfz, hnd⟩ := hW
  have hA : DataW.TrodAll enc Try.prog W 0 (fun _ => true) true Try.f8.params.toList args.toList ds p := hA0
  rw [Try.params8] at hA hval
  obtain ⟨v0, vs0, d0, ds0, p0, q0, hargs, rfl, rfl, h0, r0⟩ := trodAll_cons hA
  obtain ⟨rfl, rfl, rfl⟩ := trodAll_nil r0
  obtain rfl : args = #[v0] := by cases args; simp_all
  obtain ⟨rfl, rfl⟩ := trodVars_none hV
  have k0 := h0
  have lt0 : ∀ x ∈ p0, x.block < W.heap.size := by obtain ⟨m, hm⟩ := k0; exact DataW.trod_lt m _ _ _ hm
  obtain ⟨a0, n0, cap0, z0, rfl, w0⟩ := open_bytes (hval 0 22 v0 rfl rfl) h0
  clear hA0 hval0
  refine (walk a0 n0 cap0 z0 W w0).mono fun e W' ⟨he, bel⟩ => ?_
  subst he
  exact ⟨_, rfl, _, _, _, [], _, [], hW', trodAll_mk1 (shut_bool Try.underlying4 _), (trodAll_cons_mk (Below.trod laidOut (by kernel_rfl) (of_decide_eq_true (by kernel_rfl)) k0 bel lt0) trodAll_mk0), rfl, bel.frame _, fun h => by cases h⟩

theorem over : Rows.fnExchangedRow.holds Try.pinned (OpenSpec.ofChange Rows.fnExchangedSpec) :=
  OpenClaim.holds_of_wide 8 Try.f8 rfl rfl rfl rfl rfl rfl rfl ⟨rfl, rfl, rfl, rfl, rfl⟩ rfl rfl rfl rfl rfl (by kernel_rfl) Try.func8 (by kernel_rfl)
    (of_decide_eq_true (by kernel_rfl)) (by unfold Func.isWrapper; first | (rw [if_pos (by decide +kernel)]; kernel_rfl) | (rw [if_neg (by decide +kernel)]; exact ⟨rfl, rfl⟩))
    (fun os started H enc _ => lifted os started H enc)

/-- the given statement -/
theorem proved : Rows.FnExchangedSaid := over
#print axioms proved
end Go.Proofs.Ytaoimijeaacaiaa.fnExchanged
