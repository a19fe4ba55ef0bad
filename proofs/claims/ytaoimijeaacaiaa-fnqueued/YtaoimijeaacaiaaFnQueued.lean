/- For every input that can be read the law FnQueued returns true, and what it was handed reads as before. The frame is the kit's; the opening of the arguments and the walk are ours. -/
import Derived.Test.YtaoimijeaacaiaaRows
import Derived.WalkKit
import Derived.ProofKit
import Derived.OpenShut
import Derived.ChangeOld
import Derived.Below
import Derived.Test.YtaoimijeaacaiaaQueuedMath
import Derived.Deep.RegionHeld3
namespace Go.Proofs.Ytaoimijeaacaiaa.fnQueued
open Go.ChangeShapes Go.WideShapes Go.ChangeAt Go.RowKit
open Go.Sort
set_option linter.unusedVariables false

theorem own : ownKnob Try.prog.godebug = none := by kernel_rfl
theorem laidOut : laidOutB Try.prog = true := by kernel_rfl

set_option maxRecDepth 8000 in
set_option maxHeartbeats 8000000 in
theorem walk (a0 : Option Addr) (n0 cap0 : Nat) (z0 : List Int) (w : World) (w0 : IsBytes w a0 n0 cap0 z0) :
    Calls Try.prog 3 #[.slice a0 n0 cap0] w fun e w' => e = .returned (.bool true) ∧ Below w.heap.size w w' := by
  have hmx := w0.mx
  have hle := w0.le
  by_cases hn : n0 ≤ 4096
  · go_enter Try.func3, Try.ntmps3
    go_wp2_with fail
    refine (big_any a0 n0 cap0 _ false (by simpa using hn)).mono ?_
    rintro e w' ⟨rfl, hq⟩; have hq' := hq.symm; clear hq; subst hq'
    go_wp2_with fail
    refine (drawQueue_any a0 n0 cap0 z0 _ w0 hn).mono ?_
    rintro e w1 ⟨g, c, ls, rfl, O, hy, hA, U1⟩
    have J1 : JobS w1 (some ⟨g, 0, none⟩) ls.length c ls := O.toS (fun i hi => (hA _ (by rw [jg_get hi]; exact List.getElem_mem hi)).wf)
    go_wp2_with fail
    refine (implQueue_any _ ls.length c ls _ J1).mono ?_
    rintro e w2 ⟨v1, m1, c1, zs, rfl, J2, hQ, hb2⟩
    have U2 := U1.then hb2 U1.size
    go_wp2_with fail
    refine (drawAhead_any a0 n0 cap0 z0 _ (w0.below U2) hn).mono ?_
    rintro e w3 ⟨ja, jb, rfl, hja, hjb, hb3⟩
    have V3 := hb2.then hb3 hb2.size
    have U3 := U2.then hb3 U2.size
    go_wp2_with fail
    have ba : (((w3.alloc (.cells #[.int .i64 ja.id, .int .i64 ja.cores, .int .i64 ja.long, .int .i64 ja.due, .int .i64 ja.wt, .int .i64 ja.rank, .int .i64 ja.at_] 28)).alloc (.cells #[.int .i64 jb.id, .int .i64 jb.cores, .int .i64 jb.long, .int .i64 jb.due, .int .i64 jb.wt, .int .i64 jb.rank, .int .i64 jb.at_] 28))).heap[w3.heap.size]? = some (.cells #[.int .i64 ja.id, .int .i64 ja.cores, .int .i64 ja.long, .int .i64 ja.due, .int .i64 ja.wt, .int .i64 ja.rank, .int .i64 ja.at_] 28 (0, 0)) := (Below.heap_alloc _ _ _ (by simp)).trans (heap_alloc_new _ _)
    have bb : (((w3.alloc (.cells #[.int .i64 ja.id, .int .i64 ja.cores, .int .i64 ja.long, .int .i64 ja.due, .int .i64 ja.wt, .int .i64 ja.rank, .int .i64 ja.at_] 28)).alloc (.cells #[.int .i64 jb.id, .int .i64 jb.cores, .int .i64 jb.long, .int .i64 jb.due, .int .i64 jb.wt, .int .i64 jb.rank, .int .i64 jb.at_] 28))).heap[w3.heap.size + 1]? = some (.cells #[.int .i64 jb.id, .int .i64 jb.cores, .int .i64 jb.long, .int .i64 jb.due, .int .i64 jb.wt, .int .i64 jb.rank, .int .i64 jb.at_] 28 (0, 0)) := by
      have := heap_alloc_new (w3.alloc (.cells #[.int .i64 ja.id, .int .i64 ja.cores, .int .i64 ja.long, .int .i64 ja.due, .int .i64 ja.wt, .int .i64 ja.rank, .int .i64 ja.at_] 28)) (.cells #[.int .i64 jb.id, .int .i64 jb.cores, .int .i64 jb.long, .int .i64 jb.due, .int .i64 jb.wt, .int .i64 jb.rank, .int .i64 jb.at_] 28)
      rwa [show (w3.alloc (.cells #[.int .i64 ja.id, .int .i64 ja.cores, .int .i64 ja.long, .int .i64 ja.due, .int .i64 ja.wt, .int .i64 ja.rank, .int .i64 ja.at_] 28)).heap.size = w3.heap.size + 1 by simp] at this
    have bx : Below w3.heap.size w3 ((w3.alloc (.cells #[.int .i64 ja.id, .int .i64 ja.cores, .int .i64 ja.long, .int .i64 ja.due, .int .i64 ja.wt, .int .i64 ja.rank, .int .i64 ja.at_] 28)).alloc (.cells #[.int .i64 jb.id, .int .i64 jb.cores, .int .i64 jb.long, .int .i64 jb.due, .int .i64 jb.wt, .int .i64 jb.rank, .int .i64 jb.at_] 28)) := box_below0.alloc (by simp) _
    generalize (w3.alloc (.cells #[.int .i64 ja.id, .int .i64 ja.cores, .int .i64 ja.long, .int .i64 ja.due, .int .i64 ja.wt, .int .i64 ja.rank, .int .i64 ja.at_] 28)).alloc (.cells #[.int .i64 jb.id, .int .i64 jb.cores, .int .i64 jb.long, .int .i64 jb.due, .int .i64 jb.wt, .int .i64 jb.rank, .int .i64 jb.at_] 28) = WA at ba bb bx ⊢
    generalize hA3 : w3.heap.size = A at ba bb bx ⊢
    generalize hB3 : A + 1 = B at bb ⊢
    clear hB3
    have bx3 : Below w3.heap.size w3 WA := by rw [hA3]; exact bx
    clear bx hA3
    have UA := U3.then bx3 U3.size
    have J2A := (J2.below hb3).below bx3
    have VA := V3.then bx3 V3.size
    go_wp2_with fail
    refine (drawPlace_any a0 n0 cap0 z0 _ (w0.below UA) hn).mono ?_
    rintro e w4 ⟨g', c', ms, x, rfl, O', hy', hA', x0, x1, hb4⟩
    have JM4 : JobS w4 (some ⟨g', 0, none⟩) ms.length c' ms := O'.toS (fun i hi => (hA' _ (by rw [jg_get hi]; exact List.getElem_mem hi)).wf)
    have U4 := UA.then hb4 UA.size
    have V4 := VA.then hb4 VA.size
    go_wp2_with fail
    refine (implPlace_any _ ms.length c' ms x _ JM4).mono ?_
    rintro e WB ⟨r, rfl, hr, hb5⟩
    have UB := U4.then hb5 U4.size
    have JL : JobS WB (some ⟨g, 0, none⟩) ls.length c ls := J1.below (V4.then hb5 V4.size)
    have JQ : JobS WB v1 m1 c1 zs := (J2A.below hb4).below hb5
    have JM : JobS WB (some ⟨g', 0, none⟩) ms.length c' ms := JM4.below hb5
    have bA : WB.heap[A]? = some (.cells #[.int .i64 ja.id, .int .i64 ja.cores, .int .i64 ja.long, .int .i64 ja.due, .int .i64 ja.wt, .int .i64 ja.rank, .int .i64 ja.at_] 28 (0, 0)) := by
      have h1 := (hb4.block A (lt_of_block ba)).trans ba
      exact (hb5.block A (lt_of_block h1)).trans h1
    have bB : WB.heap[B]? = some (.cells #[.int .i64 jb.id, .int .i64 jb.cores, .int .i64 jb.long, .int .i64 jb.due, .int .i64 jb.wt, .int .i64 jb.rank, .int .i64 jb.at_] 28 (0, 0)) := by
      have h1 := (hb4.block B (lt_of_block bb)).trans bb
      exact (hb5.block B (lt_of_block h1)).trans h1
    have hyl : zs.length = m1 := JQ.len
    clear ba bb bx3 UA J2A VA U4 V4 hb5 hb4 O' hA' hy' JM4 O hA hy V3 U3 U2 hb2 hb3 J2 J1 hja hjb
    have KK : ∀ W, Below WB.heap.size WB W → (Below WB.heap.size WB W ∧ W.cell? ⟨A, 0, none⟩ = some (.int .i64 ja.id) ∧ W.cell? ⟨A, 1, none⟩ = some (.int .i64 ja.cores) ∧ W.cell? ⟨A, 2, none⟩ = some (.int .i64 ja.long) ∧ W.cell? ⟨A, 3, none⟩ = some (.int .i64 ja.due) ∧ W.cell? ⟨A, 4, none⟩ = some (.int .i64 ja.wt) ∧ W.cell? ⟨A, 5, none⟩ = some (.int .i64 ja.rank) ∧ W.cell? ⟨A, 6, none⟩ = some (.int .i64 ja.at_) ∧ W.cell? ⟨B, 0, none⟩ = some (.int .i64 jb.id) ∧ W.cell? ⟨B, 1, none⟩ = some (.int .i64 jb.cores) ∧ W.cell? ⟨B, 2, none⟩ = some (.int .i64 jb.long) ∧ W.cell? ⟨B, 3, none⟩ = some (.int .i64 jb.due) ∧ W.cell? ⟨B, 4, none⟩ = some (.int .i64 jb.wt) ∧ W.cell? ⟨B, 5, none⟩ = some (.int .i64 jb.rank) ∧ W.cell? ⟨B, 6, none⟩ = some (.int .i64 jb.at_)) := fun W hW => by
      obtain ⟨⟨p0, p1, p2, p3, p4, p5, p6⟩, _⟩ := blk7 ((hW.block A (lt_of_block bA)).trans bA)
      obtain ⟨⟨q0, q1, q2, q3, q4, q5, q6⟩, _⟩ := blk7 ((hW.block B (lt_of_block bB)).trans bB)
      exact ⟨hW, p0, p1, p2, p3, p4, p5, p6, q0, q1, q2, q3, q4, q5, q6⟩
    have KB : ∀ {W}, (Below WB.heap.size WB W ∧ W.cell? ⟨A, 0, none⟩ = some (.int .i64 ja.id) ∧ W.cell? ⟨A, 1, none⟩ = some (.int .i64 ja.cores) ∧ W.cell? ⟨A, 2, none⟩ = some (.int .i64 ja.long) ∧ W.cell? ⟨A, 3, none⟩ = some (.int .i64 ja.due) ∧ W.cell? ⟨A, 4, none⟩ = some (.int .i64 ja.wt) ∧ W.cell? ⟨A, 5, none⟩ = some (.int .i64 ja.rank) ∧ W.cell? ⟨A, 6, none⟩ = some (.int .i64 ja.at_) ∧ W.cell? ⟨B, 0, none⟩ = some (.int .i64 jb.id) ∧ W.cell? ⟨B, 1, none⟩ = some (.int .i64 jb.cores) ∧ W.cell? ⟨B, 2, none⟩ = some (.int .i64 jb.long) ∧ W.cell? ⟨B, 3, none⟩ = some (.int .i64 jb.due) ∧ W.cell? ⟨B, 4, none⟩ = some (.int .i64 jb.wt) ∧ W.cell? ⟨B, 5, none⟩ = some (.int .i64 jb.rank) ∧ W.cell? ⟨B, 6, none⟩ = some (.int .i64 jb.at_)) → Below WB.heap.size WB W := fun h => h.1
    have HKK : Hid _ := KK
    clear KK
    go_upto_region 8 with fail
    go_cut [65] from 31 (fun s65 wx => s65 = .bool false ∧ Below WB.heap.size WB wx)
    case first =>
      go_region_held3 (fun w' => Below WB.heap.size WB w' ∧ w'.cell? ⟨A, 0, none⟩ = some (.int .i64 ja.id) ∧ w'.cell? ⟨A, 1, none⟩ = some (.int .i64 ja.cores) ∧ w'.cell? ⟨A, 2, none⟩ = some (.int .i64 ja.long) ∧ w'.cell? ⟨A, 3, none⟩ = some (.int .i64 ja.due) ∧ w'.cell? ⟨A, 4, none⟩ = some (.int .i64 ja.wt) ∧ w'.cell? ⟨A, 5, none⟩ = some (.int .i64 ja.rank) ∧ w'.cell? ⟨A, 6, none⟩ = some (.int .i64 ja.at_) ∧ w'.cell? ⟨B, 0, none⟩ = some (.int .i64 jb.id) ∧ w'.cell? ⟨B, 1, none⟩ = some (.int .i64 jb.cores) ∧ w'.cell? ⟨B, 2, none⟩ = some (.int .i64 jb.long) ∧ w'.cell? ⟨B, 3, none⟩ = some (.int .i64 jb.due) ∧ w'.cell? ⟨B, 4, none⟩ = some (.int .i64 jb.wt) ∧ w'.cell? ⟨B, 5, none⟩ = some (.int .i64 jb.rank) ∧ w'.cell? ⟨B, 6, none⟩ = some (.int .i64 jb.at_)) ((refine HKK.out _ ?_; first | with_reducible exact SB | with_reducible exact (Below.refl _ _).drew)) (first
        | (go_at_call 21
           refine (specQueue_any _ ls.length c ls _ (JL.below (KB (by assumption)))).mono ?_
           rintro e y1 ⟨v3, m3, c3, ys3, rfl, J3, hQ3, hb⟩
           have SB : Below WB.heap.size WB y1 := (KB (by assumption)).then hb (KB (by assumption)).size
           obtain rfl := hQ.uniq hQ3
           obtain rfl : m1 = m3 := by rw [← J3.len, hyl])
        | (go_at_call 20
           refine (likeJobs_same v1 v3 m1 c1 c3 zs _ (JQ.below (KB (by assumption))) J3).mono ?_
           rintro e y2 ⟨rfl, hb⟩
           have SB : Below WB.heap.size WB y2 := (KB (by assumption)).then hb (KB (by assumption)).size)
        | (go_at_call 22
           refine (implAhead_any _ _ _ _ _ _ _ _ _ _ _ _ _ _ _).mono ?_
           rintro e y3 ⟨rfl, hb⟩
           have SB : Below WB.heap.size WB y3 := (KB (by assumption)).then hb (KB (by assumption)).size)
        | (go_at_call 23
           refine (specAhead_any _ _ _ _ _ _ _ _ _ _ _ _ _ _ _).mono ?_
           rintro e y4 ⟨rfl, hb⟩
           have SB : Below WB.heap.size WB y4 := (KB (by assumption)).then hb (KB (by assumption)).size)
        | (go_at_call 24
           refine (specPlace_any _ ms.length c' ms x _ (JM.below (KB (by assumption)))).mono ?_
           rintro e y5 ⟨r', rfl, hr', hb⟩
           have SB : Below WB.heap.size WB y5 := (KB (by assumption)).then hb (KB (by assumption)).size
           obtain rfl := hr.uniq hr')
        | (go_at_call 25
           refine (implJobsOk_any _ ls.length c ls _ (JL.below (KB (by assumption)))).mono ?_
           rintro e y6 ⟨rfl, hb⟩
           have SB : Below WB.heap.size WB y6 := (KB (by assumption)).then hb (KB (by assumption)).size)
        | (go_at_call 26
           refine (specJobsOk_any _ ls.length c ls _ (JL.below (KB (by assumption)))).mono ?_
           rintro e y7 ⟨rfl, hb⟩
           have SB : Below WB.heap.size WB y7 := (KB (by assumption)).then hb (KB (by assumption)).size)
        | (go_at_call 27
           refine (implJobOk_any _ _ _ _ _ _ _ _).mono ?_
           rintro e y8 ⟨rfl, hb⟩
           have SB : Below WB.heap.size WB y8 := (KB (by assumption)).then hb (KB (by assumption)).size)
        | (go_at_call 28
           refine (specJobOk_any _ _ _ _ _ _ _ _).mono ?_
           rintro e y9 ⟨rfl, hb⟩
           have SB : Below WB.heap.size WB y9 := (KB (by assumption)).then hb (KB (by assumption)).size))
      all_goals (go_wp2_with fail; go_meet; exact ⟨by simp, SB⟩)
    case rest =>
      obtain ⟨rfl, B8⟩ := hcut
      have C8 := HKK.out wc B8
      go_upto_region 10 with fail
      go_cut [78] from 66 (fun s78 wx => s78 = .bool false ∧ Below WB.heap.size WB wx)
      case first =>
        rcases hab : aheadB ja.id ja.rank ja.at_ jb.id jb.rank jb.at_ with _ | _
        · go_wp2_with fail
          refine (implAhead_any _ _ _ _ _ _ _ _ _ _ _ _ _ _ _).mono ?_
          rw [hab]
          rintro e y1 ⟨rfl, hb1⟩
          have S1 := B8.then hb1 B8.size
          have C1 := HKK.out y1 S1
          go_wp2_with fail
          refine (implAhead_any _ _ _ _ _ _ _ _ _ _ _ _ _ _ _).mono ?_
          rw [ahead_irrefl]
          rintro e y2 ⟨rfl, hb2⟩
          go_wp2_with fail
          go_meet
          exact ⟨rfl, S1.then hb2 S1.size⟩
        · have hba := ahead_asym hab
          go_wp2_with fail
          refine (implAhead_any _ _ _ _ _ _ _ _ _ _ _ _ _ _ _).mono ?_
          rw [hab]
          rintro e y1 ⟨rfl, hb1⟩
          have S1 := B8.then hb1 B8.size
          have C1 := HKK.out y1 S1
          go_wp2_with fail
          refine (implAhead_any _ _ _ _ _ _ _ _ _ _ _ _ _ _ _).mono ?_
          rw [hba]
          rintro e y2 ⟨rfl, hb2⟩
          have S2 := S1.then hb2 S1.size
          have C2 := HKK.out y2 S2
          go_wp2_with fail
          refine (implAhead_any _ _ _ _ _ _ _ _ _ _ _ _ _ _ _).mono ?_
          rw [ahead_irrefl]
          rintro e y3 ⟨rfl, hb3⟩
          go_wp2_with fail
          go_meet
          exact ⟨rfl, S2.then hb3 S2.size⟩
      case rest =>
        obtain ⟨rfl, B10⟩ := hcut
        rename_i wd
        clear C8 HKK KB
        go_upto_region 12 with fail
        go_cut [90] from 79 (fun s90 wx => s90 = .bool false ∧ Below WB.heap.size WB wx)
        case first =>
          obtain ⟨ys, hQ2, hnum⟩ := hr
          rcases hnum with ⟨rfl, hno⟩ | ⟨k, rfl, hk, hid, hno⟩
          · go_wp2_with fail
            go_meet
            exact ⟨rfl, B10⟩
          · go_wp2_with fail
            refine (implQueue_any _ ms.length c' ms _ (JM.below B10)).mono ?_
            rintro e y1 ⟨v5, m5, c5, ys', rfl, J5, hQ5, hb5⟩
            obtain rfl := hQ2.uniq hQ5
            have hl5 := J5.len
            obtain ⟨b5, off5, rfl, hbw5, hat5⟩ := J5.at_ (by omega)
            have hk0 := hat5 k (by omega) 0 (by omega)
            simp only [jc, Nat.add_zero] at hk0
            rw [hid] at hk0
            have hk1 : (k : Int) < (m5 : Int) := by omega
            have hk2 : (0 : Int) ≤ (k : Int) := by omega
            clear hat5 hl5 hno hid
            go_wp2_with fail
            go_meet
            exact ⟨by simp, B10.then hb5 B10.size⟩
        case rest =>
          obtain ⟨rfl, B12⟩ := hcut
          go_wp2_with fail
          refine (specJobsOk_any _ ls.length c ls _ (JL.below B12)).mono ?_
          rcases hq : jsB ls with _ | _
          · rintro e y1 ⟨rfl, hb1⟩
            have hz : zs = [] := by
              rcases hQ with ⟨_, h⟩ | ⟨h, _⟩
              · exact h
              · rw [hq] at h; cases h
            subst hz
            obtain rfl : m1 = 0 := by simpa using hyl.symm
            go_wp2
            go_ret
            exact ⟨rfl, UB.then (B12.then hb1 B12.size) UB.size⟩
          · rintro e y1 ⟨rfl, hb1⟩
            have S1 := B12.then hb1 B12.size
            have hz40 : m1 ≤ 40 := by have := hQ.len; omega
            have hmc1 := JQ.le
            have hmx1 := JQ.mx
            unfold maxLen at hmx1
            have HYL : Hid (zs.length = m1) := hyl
            clear hyl
            go_wp2
            go_loopw [10] (fun i wr => ∃ k : Nat, k ≤ m1 ∧ i = .int .i64 k ∧ Below WB.heap.size WB wr) (fun i _ => m1 - (intOf i).toNat)
            case atStart => exact ⟨0, by omega, rfl, S1⟩
            case round =>
              obtain ⟨i, hi, rfl, hw⟩ := hrel
              by_cases hlt : i < m1
              · have hlt' : (i : Int) < (m1 : Int) := by omega
                go_wp2
                go_loopw [11] (fun j wi => ∃ k : Nat, k ≤ i ∧ j = .int .i64 k ∧ Below WB.heap.size WB wi) (fun j _ => i - (intOf j).toNat)
                case atStart => exact ⟨0, by omega, rfl, hw⟩
                case round =>
                  obtain ⟨k, hk, rfl, hwi⟩ := hrel
                  by_cases hki : k < i
                  · have hki' : (k : Int) < (i : Int) := by omega
                    have hkm' : (k : Int) < (m1 : Int) := by omega
                    obtain ⟨b, off, rfl, hbw, hat⟩ := (JQ.below hwi).at_ (by omega)
                    have hyl := HYL.out
                    have Hk := hat.job (i := k) (by omega)
                    have Hi := hat.job (i := i) (by omega)
                    have hst := strict hQ hki (by omega)
                    clear hyl hat
                    simp only [jlt] at hst
                    have CA : ∀ W, Calls Try.prog 22 #[.agg #[.int .i64 (jg zs k).id, .int .i64 (jg zs k).cores, .int .i64 (jg zs k).long, .int .i64 (jg zs k).due, .int .i64 (jg zs k).wt, .int .i64 (jg zs k).rank, .int .i64 (jg zs k).at_], .agg #[.int .i64 (jg zs i).id, .int .i64 (jg zs i).cores, .int .i64 (jg zs i).long, .int .i64 (jg zs i).due, .int .i64 (jg zs i).wt, .int .i64 (jg zs i).rank, .int .i64 (jg zs i).at_]] W fun e w' => e = .returned (.bool true) ∧ ∃ q os', w' = grow (W.drewN q) os' := fun W => by rw [← hst]; exact implAhead_grow _ _ _ _ _ _ _ _ _ _ _ _ _ _ W
                    obtain ⟨p0, p1, p2, p3, p4, p5, p6⟩ := Hk
                    obtain ⟨q0, q1, q2, q3, q4, q5, q6⟩ := Hi
                    have P0 := fun nn os => cell_grown (by exact hbw) p0 nn os
                    have Q0 := fun nn os => cell_grown (by exact hbw) q0 nn os
                    have P1 := fun nn os => cell_grown (by exact hbw) p1 nn os
                    have Q1 := fun nn os => cell_grown (by exact hbw) q1 nn os
                    have P2 := fun nn os => cell_grown (by exact hbw) p2 nn os
                    have Q2 := fun nn os => cell_grown (by exact hbw) q2 nn os
                    have P3 := fun nn os => cell_grown (by exact hbw) p3 nn os
                    have Q3 := fun nn os => cell_grown (by exact hbw) q3 nn os
                    have P4 := fun nn os => cell_grown (by exact hbw) p4 nn os
                    have Q4 := fun nn os => cell_grown (by exact hbw) q4 nn os
                    have P5 := fun nn os => cell_grown (by exact hbw) p5 nn os
                    have Q5 := fun nn os => cell_grown (by exact hbw) q5 nn os
                    have P6 := fun nn os => cell_grown (by exact hbw) p6 nn os
                    have Q6 := fun nn os => cell_grown (by exact hbw) q6 nn os
                    clear hst
                    have hmo : Try.prog.follows .mixedOrders = true := by kernel_rfl
                    go_wp2
                    go_quiet_grown ((go_at_call 22; exact Calls.grown_of (CA _)))
                    go_wp2
                    go_roundw
                    case rel => exact ⟨k + 1, by omega, by go_num, hwi.then (below_grow _ _ _) hwi.size⟩
                    case measure => simp [intOf]; omega
                  · have e : k = i := by omega
                    subst e
                    go_wp2
                    go_roundw
                    case rel => exact ⟨k + 1, by omega, by go_num, hwi⟩
                    case measure => simp [intOf]; omega
              · have e : i = m1 := by omega
                subst e
                have hin : ∀ y ∈ zs, y ∈ ls := by
                  rcases hQ with ⟨_, h⟩ | ⟨_, h, _⟩
                  · intro y hy; rw [h] at hy; cases hy
                  · exact fun y hy => h.subset hy
                have hll : i = ls.length := by
                  have hyl := HYL.out
                  rcases hQ with ⟨h, _⟩ | ⟨_, h, _⟩
                  · rw [hq] at h; cases h
                  · rw [← hyl]; exact h.length_eq
                go_wp2_with fail
                subst hll
                refine (together_any v1 _ ls.length c1 c zs ls _ (JQ.below hw) (JL.below hw) hin).mono ?_
                rintro e y3 ⟨rfl, hb3⟩
                go_wp2
                go_ret
                exact ⟨rfl, UB.then (hw.then hb3 hw.size) UB.size⟩
  · have c0 : decide (4096 < n0) = true := by simpa using hn
    go_enter Try.func3, Try.ntmps3
    go_wp2_with fail
    refine (big_any a0 n0 cap0 _ true c0.symm).mono ?_
    rintro e w' ⟨rfl, hq⟩; have hq' := hq.symm; clear hq; subst hq'
    go_wp2
    go_ret
    exact ⟨rfl, Below.refl _ _⟩

set_option maxRecDepth 100000 in
theorem lifted (os : Os) (started : os.Started) (H : Type) (enc : TypeId × Value → H) :
    ReturnsInHanded {} Try.checked os 3 .any (Rows.fnQueuedSpec.pre6 enc Try.prog Try.f3 Rows.fnQueuedRow.domain false) (Rows.fnQueuedSpec.post enc Try.prog Try.f3 false true false false) := by
  refine returnsInHanded_of_change (C := Try.checked) own started (by kernel_rfl) Try.func3
    (ChangeSpec.witness6 (enc := enc) (C := Try.checked) false ⟨#[], #[.slice none 0 0], []⟩ 8 (by kernel_rfl) (by kernel_rfl) (by kernel_rfl) (by kernel_rfl)) ?_
  intro W base args ds gs before hval0 hW hcnd _
  have hval : ∀ (j : Nat) t v, Try.f3.params[j]? = some t → args[j]? = some v → Value.okWide Try.prog W .any base t v := hval0
  have hW' := hW
  obtain ⟨p, q, hA0, hV, rfl, hfz, hnd⟩ := hW
  have hA : DataW.TrodAll enc Try.prog W 0 (fun _ => true) true Try.f3.params.toList args.toList ds p := hA0
  rw [Try.params3] at hA hval
  obtain ⟨v0, vs0, d0, ds0, p0, q0, hargs, rfl, rfl, h0, r0⟩ := trodAll_cons hA
  obtain ⟨rfl, rfl, rfl⟩ := trodAll_nil r0
  obtain rfl : args = #[v0] := by cases args; simp_all
  obtain ⟨rfl, rfl⟩ := trodVars_none hV
  have k0 := h0
  have lt0 : ∀ x ∈ p0, x.block < W.heap.size := by obtain ⟨m, hm⟩ := k0; exact DataW.trod_lt m _ _ _ hm
  obtain ⟨a0, n0, cap0, z0, rfl, w0⟩ := open_bytes (hval 0 22 v0 rfl rfl) h0
  clear hA0 hval0
  refine (walk a0 n0 cap0 z0 W w0).mono fun e W' ⟨he, bel⟩ => ?_
  subst he
  exact ⟨_, rfl, _, _, _, [], _, [], hW', trodAll_mk1 (shut_bool Try.underlying4 _), (trodAll_cons_mk (Below.trod laidOut (by kernel_rfl) (of_decide_eq_true (by kernel_rfl)) k0 bel lt0) trodAll_mk0), rfl, bel.frame _, fun h => by cases h⟩

theorem over : Rows.fnQueuedRow.holds Try.pinned (OpenSpec.ofChange Rows.fnQueuedSpec) :=
  OpenClaim.holds_of_wide 3 Try.f3 rfl rfl rfl rfl rfl rfl rfl ⟨rfl, rfl, rfl, rfl, rfl⟩ rfl rfl rfl rfl rfl (by kernel_rfl) Try.func3 (by kernel_rfl)
    (of_decide_eq_true (by kernel_rfl)) (by unfold Func.isWrapper; first | (rw [if_pos (by decide +kernel)]; kernel_rfl) | (rw [if_neg (by decide +kernel)]; exact ⟨rfl, rfl⟩))
    (fun os started H enc _ => lifted os started H enc)

/-- the given statement -/
theorem proved : Rows.FnQueuedSaid := over
#print axioms proved
end Go.Proofs.Ytaoimijeaacaiaa.fnQueued
