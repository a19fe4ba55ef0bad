/- For every input that can be read the law FnFit returns true, and what it was handed reads as before. The frame is the kit's; the opening of the arguments and the walk are ours. -/
import Derived.Test.YtdaedggmeoganaaRows
import Derived.WalkKit
import Derived.ProofKit
import Derived.OpenShut
import Derived.ChangeOld
import Derived.Below
import Derived.Test.YtdaedggmeoganaaFitMath
import Derived.Test.YtdaedggmeoganaaFit2
import Derived.Test.YtdaedggmeoganaaLeast
import Derived.Test.YtdaedggmeoganaaFreeAt
import Derived.Test.YtdaedggmeoganaaTimeFaces
import Derived.Test.YtdaedggmeoganaaProfDraw4
import Derived.Test.YtdaedggmeoganaaBytesOpen
import Derived.Deep.RegionHeld3
import Derived.Deep.Cut
import Derived.Deep.CutRange
namespace Go.Proofs.Ytdaedggmeoganaa.fnFit
open Go.ChangeShapes Go.WideShapes Go.ChangeAt Go.RowKit
set_option linter.unusedVariables false

theorem own : ownKnob Try.prog.godebug = none := by kernel_rfl
theorem laidOut : laidOutB Try.prog = true := by kernel_rfl

set_option maxRecDepth 8000 in
set_option maxHeartbeats 8000000 in
theorem walk (a0 : Option Addr) (n0 cap0 : Nat) (z0 : List Int) (w : World) (w0 : IsBytes w a0 n0 cap0 z0) :
    Calls Try.prog 3 #[.slice a0 n0 cap0] w fun e w' => e = .returned (.bool true) ∧ Below w.heap.size w w' := by
  have hmx := w0.mx
  have hle := w0.le
  by_cases hn : n0 ≤ 4096
  · go_enter Try.func3, Try.ntmps3
    go_wp2_with fail
    refine (big_any a0 n0 cap0 _ false (by simpa using hn)).mono ?_
    rintro e w' ⟨rfl, hq⟩; have hq' := hq.symm; clear hq; subst hq'
    go_wp2_with fail
    refine (drawFit_any a0 n0 cap0 z0 _ w0 hn).mono ?_
    rintro e w1 ⟨T1, v1, m1, c1, l1, x, y, k, rfl, L1, tb1, xb, yb, kb, U1⟩
    have bx1 : Below w1.heap.size w1 (w1.alloc (.cells #[.int .i64 T1, .slice v1 m1 c1] 26)) := box_below
    go_wp2_with fail
    refine (implFit_any T1 x y k v1 m1 c1 l1 _ (L1.below bx1)).mono ?_
    rintro e w2 ⟨rfl, hb2⟩
    have bA2 : w2.heap[w1.heap.size]? = some (.cells #[.int .i64 T1, .slice v1 m1 c1] 26 (0, 0)) := (hb2.block _ (by simp)).trans (heap_alloc_new _ _)
    have J1 := (L1.below bx1).below hb2
    have U2 := U1.then (bx1.then hb2 bx1.size) U1.size
    generalize hA : w1.heap.size = A at bA2 ⊢
    clear hA bx1 hb2 L1 U1
    go_wp2_with fail
    refine (drawLeast_any a0 n0 cap0 z0 _ (w0.below U2) hn).mono ?_
    rintro e w3 ⟨T2, v2, m2, c2, l2, a, b, rfl, L2, tb2, ab, bb, hb3⟩
    have bA3 := (hb3.block _ (lt_of_block bA2)).trans bA2
    have J13 := J1.below hb3
    have U3 := U2.then hb3 U2.size
    have bx3 : Below w3.heap.size w3 (w3.alloc (.cells #[.int .i64 T2, .slice v2 m2 c2] 26)) := box_below
    have bA4 := (bx3.block _ (lt_of_block bA3)).trans bA3
    clear bA2 J1 U2 hb3
    go_wp2_with fail
    refine (implLeast_any T2 a b v2 m2 c2 l2 _ (L2.below bx3)).mono ?_
    rintro e w4 ⟨rfl, hb4⟩
    have bB4 : w4.heap[w3.heap.size]? = some (.cells #[.int .i64 T2, .slice v2 m2 c2] 26 (0, 0)) := (hb4.block _ (by simp)).trans (heap_alloc_new _ _)
    have bA5 := (hb4.block _ (lt_of_block bA4)).trans bA4
    have J14 := (J13.below bx3).below hb4
    have J24 := (L2.below bx3).below hb4
    have U4 := U3.then (bx3.then hb4 bx3.size) U3.size
    generalize hB : w3.heap.size = B at bB4 ⊢
    clear hB bx3 hb4 L2 U3 J13 bA3 bA4
    go_wp2_with fail
    refine (drawFreeAt_any a0 n0 cap0 z0 _ (w0.below U4) hn).mono ?_
    rintro e w5 ⟨T3, v3, m3, c3, l3, s, rfl, L3, tb3, sb3, hb5⟩
    have bA6 := (hb5.block _ (lt_of_block bA5)).trans bA5
    have bB6 := (hb5.block _ (lt_of_block bB4)).trans bB4
    have J15 := J14.below hb5
    have J25 := J24.below hb5
    have U5 := U4.then hb5 U4.size
    have bx5 : Below w5.heap.size w5 (w5.alloc (.cells #[.int .i64 T3, .slice v3 m3 c3] 26)) := box_below
    have bA := (bx5.block _ (lt_of_block bA6)).trans bA6
    have bB := (bx5.block _ (lt_of_block bB6)).trans bB6
    have bC := heap_alloc_new w5 (.cells #[.int .i64 T3, .slice v3 m3 c3] 26)
    have JA := J15.below bx5
    have JB := J25.below bx5
    have JC := L3.below bx5
    have UB := U5.then bx5 U5.size
    clear bA5 bB4 bA6 bB6 J14 J24 J15 J25 U4 U5 bx5 hb5 L3
    generalize hFT : fitF T1 l1 x y k = t
    generalize hLS : leastF T2 l2 a b = l
    go_upto_region 8 with fail
    generalize w5.alloc (.cells #[.int .i64 T3, .slice v3 m3 c3] 26) = WB at bA bB bC JA JB JC UB ⊢
    generalize w5.heap.size = C at bC ⊢
    have KK : ∀ W, Below WB.heap.size WB W → (Below WB.heap.size WB W ∧ W.cell? ⟨A, 0, none⟩ = some (.int .i64 T1) ∧ W.cell? ⟨A, 1, none⟩ = some (.slice v1 m1 c1) ∧ W.cell? ⟨B, 0, none⟩ = some (.int .i64 T2) ∧ W.cell? ⟨B, 1, none⟩ = some (.slice v2 m2 c2) ∧ W.cell? ⟨C, 0, none⟩ = some (.int .i64 T3) ∧ W.cell? ⟨C, 1, none⟩ = some (.slice v3 m3 c3)) := fun W hW => by
      obtain ⟨p0, p1, _, _⟩ := boxed ((hW.block A (lt_of_block bA)).trans bA)
      obtain ⟨q0, q1, _, _⟩ := boxed ((hW.block B (lt_of_block bB)).trans bB)
      obtain ⟨r0, r1, _, _⟩ := boxed ((hW.block C (lt_of_block bC)).trans bC)
      exact ⟨hW, p0, p1, q0, q1, r0, r1⟩
    have KB : ∀ {W}, (Below WB.heap.size WB W ∧ W.cell? ⟨A, 0, none⟩ = some (.int .i64 T1) ∧ W.cell? ⟨A, 1, none⟩ = some (.slice v1 m1 c1) ∧ W.cell? ⟨B, 0, none⟩ = some (.int .i64 T2) ∧ W.cell? ⟨B, 1, none⟩ = some (.slice v2 m2 c2) ∧ W.cell? ⟨C, 0, none⟩ = some (.int .i64 T3) ∧ W.cell? ⟨C, 1, none⟩ = some (.slice v3 m3 c3)) → Below WB.heap.size WB W := fun h => h.1
    have HKK : Hid _ := KK
    have B0 : Below WB.heap.size WB WB := Below.refl _ _
    clear KK
    obtain ⟨a_0, a_1, _, _⟩ := boxed bA
    obtain ⟨b_0, b_1, _, _⟩ := boxed bB
    obtain ⟨d_0, d_1, _, _⟩ := boxed bC
    go_cut [67] from 44 (fun s67 wx => s67 = .bool false ∧ Below WB.heap.size WB wx)
    case first =>
      go_region_held3 (fun w' => Below WB.heap.size WB w' ∧ w'.cell? ⟨A, 0, none⟩ = some (.int .i64 T1) ∧ w'.cell? ⟨A, 1, none⟩ = some (.slice v1 m1 c1) ∧ w'.cell? ⟨B, 0, none⟩ = some (.int .i64 T2) ∧ w'.cell? ⟨B, 1, none⟩ = some (.slice v2 m2 c2) ∧ w'.cell? ⟨C, 0, none⟩ = some (.int .i64 T3) ∧ w'.cell? ⟨C, 1, none⟩ = some (.slice v3 m3 c3)) ((refine HKK.out _ ?_; first | with_reducible exact SB | with_reducible exact SB.drew | with_reducible exact (Below.refl _ _).drew | with_reducible exact B0.drew | with_reducible exact B0)) (first
        | (go_at_call 13
           refine (specFit_any T1 x y k v1 m1 c1 l1 _ (JA.below (KB (by assumption)))).mono ?_
           rw [hFT]
           rintro e y1 ⟨rfl, hb⟩
           have SB : Below WB.heap.size WB y1 := (KB (by assumption)).then hb (KB (by assumption)).size)
        | (go_at_call 14
           refine (specLeast_any T2 a b v2 m2 c2 l2 _ (JB.below (KB (by assumption)))).mono ?_
           rw [hLS]
           rintro e y2 ⟨rfl, hb⟩
           have SB : Below WB.heap.size WB y2 := (KB (by assumption)).then hb (KB (by assumption)).size)
        | (go_at_call 15
           refine (implFreeAt_any T3 s v3 m3 c3 l3 _ (JC.below (KB (by assumption)))).mono ?_
           rintro e y3 ⟨rfl, hb⟩
           have SB : Below WB.heap.size WB y3 := (KB (by assumption)).then hb (KB (by assumption)).size)
        | (go_at_call 16
           refine (specFreeAt_any T3 s v3 m3 c3 l3 _ (JC.below (KB (by assumption)))).mono ?_
           rintro e y4 ⟨rfl, hb⟩
           have SB : Below WB.heap.size WB y4 := (KB (by assumption)).then hb (KB (by assumption)).size))
      all_goals (go_wp2_with fail; go_meet; exact ⟨by simp, SB⟩)
    case rest =>
      obtain ⟨rfl, B8⟩ := hcut
      have C8 := HKK.out wc B8
      have hz8 := B8.size
      go_upto_region 10 with fail
      go_cut [89] from 68 (fun s89 wx => s89 = .bool false ∧ Below WB.heap.size WB wx)
      case first =>
        obtain ⟨_, e10, e11, e20, e21, e30, e31⟩ := C8
        by_cases cl : 0 ≤ l
        · have cl' : ¬ l < 0 := by omega
          by_cases cab : a < b
          · have hv : (poB T2 l2 && (okB a && okB b)) = true := by
              rcases hx : (poB T2 l2 && (okB a && okB b)) with _ | _
              · rw [leastF_f hx] at hLS; omega
              · rfl
            rw [leastF_t hv] at hLS
            simp only [Bool.and_eq_true] at hv
            obtain ⟨hp, ha, hb⟩ := hv
            have po := poB_t hp
            obtain ⟨ha0, ha1⟩ := okB_t ha
            obtain ⟨hb0, hb1⟩ := okB_t hb
            have hbm : okB (b - 1) = true := by unfold okB inB; simp; omega
            have g1 : l ≤ freeI T2 l2 a := by rw [freeI_tt hp ha, ← hLS]; exact po.least_at ha0 (Int.le_refl _) cab
            have g2 : l ≤ freeI T2 l2 (b - 1) := by rw [freeI_tt hp hbm, ← hLS]; exact po.least_at ha0 (by omega) (by omega)
            have wb : IntKind.i64.wrap (b - 1) = b - 1 := by rw [IntKind.wrap_i64]; omega
            have CF1 := fun W hW => implFreeAt_any T2 a v2 m2 c2 l2 W hW
            have CF2 := fun W hW => implFreeAt_any T2 (b - 1) v2 m2 c2 l2 W hW
            generalize freeI T2 l2 a = f1 at g1 CF1
            generalize freeI T2 l2 (b - 1) = f2 at g2 CF2
            have d1 : decide (f1 < l) = false := decide_eq_false (by omega)
            have d2 : decide (f2 < l) = false := decide_eq_false (by omega)
            clear hp ha hb po hbm hLS
            go_wp2_with fail
            refine (CF1 _ (JB.below B8)).mono ?_
            rintro e y1 ⟨rfl, hbb1⟩
            have S1 := B8.then hbb1 B8.size
            obtain ⟨_, h10, h11, h20, h21, h30, h31⟩ := HKK.out y1 S1
            go_wp2_with fail
            refine (CF2 _ (JB.below S1)).mono ?_
            rintro e y2 ⟨rfl, hbb2⟩
            have S2 := S1.then hbb2 S1.size
            go_wp2_with fail
            go_meet
            exact ⟨by simp, S2⟩
          · have cab' : decide (a < b) = false := decide_eq_false cab
            go_wp2_with fail
            go_meet
            exact ⟨by simp, B8⟩
        · have cl' : l < 0 := by omega
          have d0 : decide (0 ≤ l) = false := decide_eq_false cl
          go_wp2_with fail
          go_meet
          exact ⟨by simp, B8⟩
      case rest =>
        obtain ⟨rfl, B10⟩ := hcut
        rename World => wd
        by_cases ct : t < 0
        · go_wp2
          go_ret
          exact ⟨rfl, UB.then B10 UB.size⟩
        · have hv : (poB T1 l1 && (okB x && (okB y && inB k 0 T1))) = true := by
            rcases hx : (poB T1 l1 && (okB x && (okB y && inB k 0 T1))) with _ | _
            · rw [fitF_f hx] at hFT; omega
            · rfl
          rw [fitF_t hv] at hFT
          simp only [Bool.and_eq_true] at hv
          obtain ⟨hp, hx, hy, hk⟩ := hv
          have po := poB_t hp
          obtain ⟨x0, x1⟩ := okB_t hx
          obtain ⟨y0, y1⟩ := okB_t hy
          obtain ⟨k0, k1⟩ := inB_t hk
          obtain ⟨t0, t1⟩ := po.fit_bd (x := x) (long := y) (n := k) x0 x1
          have room := po.fit_room (x := x) (long := y) (n := k) x0 k1
          have ahead := fun u => po.fit_ahead (x := x) (long := y) (n := k) (t := u) x0 k1
          rw [hFT] at t0 t1 room ahead
          have hLt : ∀ u, 0 ≤ u → u < 1000000000 → faceI laterI u y = laterI u y ∧ leastF T1 l1 u (laterI u y) = leastI T1 l1 u (laterI u y) := fun u u0 u1 => by
            have hu : okB u = true := by unfold okB inB; simp; omega
            have hlu : okB (laterI u y) = true := by unfold okB inB laterI; split <;> simp <;> omega
            exact ⟨face_tt hu hy, leastF_t (by rw [hp, hu, hlu]; rfl)⟩
          have HLt : Hid _ := hLt
          have HAh : Hid _ := ahead
          have HRm : Hid _ := room
          clear hLt ahead room po hp hx hy hk hFT hLS
          have C10 := HKK.out wd B10
          go_upto_region 14 with fail
          go_cut [108] from 92 (fun s108 wx => s108 = .bool false ∧ Below WB.heap.size WB wx)
          case first =>
            obtain ⟨_, e10, e11, e20, e21, e30, e31⟩ := C10
            by_cases cn : t < 1000000000
            · obtain ⟨hf, hl⟩ := HLt.out t (by omega) cn
              have hr := HRm.out cn
              have CL : ∀ W, LevS W v1 m1 c1 l1 → Calls Try.prog 11 #[.agg #[.int .i64 T1, .slice v1 m1 c1], .int .i64 t, .int .i64 (laterI t y)] W fun e w' => e = .returned (.int .i64 (leastI T1 l1 t (laterI t y))) ∧ Below W.heap.size W w' := fun W hW => by have := implLeast_any T1 t (laterI t y) v1 m1 c1 l1 W hW; rwa [hl] at this
              generalize leastI T1 l1 t (laterI t y) = z at hr CL hl
              have dz : decide (z < k) = false := decide_eq_false (by omega)
              have dx : decide (t < x) = false := decide_eq_false (by omega)
              clear hl
              go_region_held3 (fun w' => Below WB.heap.size WB w' ∧ w'.cell? ⟨A, 0, none⟩ = some (.int .i64 T1) ∧ w'.cell? ⟨A, 1, none⟩ = some (.slice v1 m1 c1) ∧ w'.cell? ⟨B, 0, none⟩ = some (.int .i64 T2) ∧ w'.cell? ⟨B, 1, none⟩ = some (.slice v2 m2 c2) ∧ w'.cell? ⟨C, 0, none⟩ = some (.int .i64 T3) ∧ w'.cell? ⟨C, 1, none⟩ = some (.slice v3 m3 c3)) ((refine HKK.out _ ?_; first | with_reducible exact SB | with_reducible exact SB.drew | with_reducible exact (Below.refl _ _).drew | with_reducible exact B10.drew | with_reducible exact B10)) (first
              | (go_at_call 17
                 refine (implLater_any t y _).mono ?_
                 rw [hf]
                 rintro e w' ⟨rfl, hq⟩
                 have hq' := hq.symm; clear hq; subst hq'
                 have SB : Below WB.heap.size WB _ := KB (by assumption))
              | (go_at_call 11
                 refine (CL _ (JA.below (KB (by assumption)))).mono ?_
                 rintro e y5 ⟨rfl, hb⟩
                 have SB : Below WB.heap.size WB y5 := (KB (by assumption)).then hb (KB (by assumption)).size))
              all_goals (go_wp2_with fail; go_meet; exact ⟨by simp, SB⟩)
            · have dn : decide (t < 1000000000) = false := decide_eq_false cn
              go_quiet (fail)
              go_wp2_with fail
              go_meet
              exact ⟨by simp, ⟨B10.os, B10.tape, B10.output, B10.size, B10.block⟩⟩
          case rest =>
            obtain ⟨rfl, B14⟩ := hcut
            rename World => we
            have w60 : IntKind.i64.wrap (x + 60) = x + 60 := by rw [IntKind.wrap_i64]; omega
            have ct' : 0 ≤ t := by omega
            go_wp2
            go_loopw [14] (fun i wr => ∃ u : Int, i = .int .i64 u ∧ x ≤ u ∧ Below WB.heap.size WB wr) (fun i _ => (t - intOf i).toNat)
            case atStart => exact ⟨x, rfl, Int.le_refl _, B14⟩
            case round =>
              obtain ⟨u, rfl, hu, hw⟩ := hrel
              obtain ⟨_, e10, e11, e20, e21, e30, e31⟩ := HKK.out wr hw
              have HEND : Hid _ := UB.then hw UB.size
              by_cases q1 : u < t
              · by_cases q2 : u < x + 60
                · by_cases q3 : u < 1000000000
                  · obtain ⟨hf, hl⟩ := HLt.out u (by omega) q3
                    have ha := HAh.out u hu q1 q3
                    have CL : ∀ W, LevS W v1 m1 c1 l1 → Calls Try.prog 11 #[.agg #[.int .i64 T1, .slice v1 m1 c1], .int .i64 u, .int .i64 (laterI u y)] W fun e w' => e = .returned (.int .i64 (leastI T1 l1 u (laterI u y))) ∧ Below W.heap.size W w' := fun W hW => by have := implLeast_any T1 u (laterI u y) v1 m1 c1 l1 W hW; rwa [hl] at this
                    generalize leastI T1 l1 u (laterI u y) = z at ha CL hl
                    have dz : ¬ k ≤ z := by omega
                    clear hl
                    go_upto_region 19 with fail
                    go_region_held3 (fun w' => Below WB.heap.size WB w' ∧ w'.cell? ⟨A, 0, none⟩ = some (.int .i64 T1) ∧ w'.cell? ⟨A, 1, none⟩ = some (.slice v1 m1 c1) ∧ w'.cell? ⟨B, 0, none⟩ = some (.int .i64 T2) ∧ w'.cell? ⟨B, 1, none⟩ = some (.slice v2 m2 c2) ∧ w'.cell? ⟨C, 0, none⟩ = some (.int .i64 T3) ∧ w'.cell? ⟨C, 1, none⟩ = some (.slice v3 m3 c3)) ((refine HKK.out _ ?_; first | with_reducible exact SB | with_reducible exact SB.drew | with_reducible exact (Below.refl _ _).drew | with_reducible exact hw.drew | with_reducible exact hw)) (first
                    | (go_at_call 17
                       refine (implLater_any u y _).mono ?_
                       rw [hf]
                       rintro e w' ⟨rfl, hq⟩
                       have hq' := hq.symm; clear hq; subst hq'
                       have SB : Below WB.heap.size WB _ := KB (by assumption))
                    | (go_at_call 11
                       refine (CL _ (JA.below (KB (by assumption)))).mono ?_
                       rintro e y5 ⟨rfl, hb⟩
                       have SB : Below WB.heap.size WB y5 := (KB (by assumption)).then hb (KB (by assumption)).size))
                    all_goals
                      go_wp2
                      go_roundw
                      case rel => exact ⟨u + 1, by go_num, by omega, SB⟩
                      case measure => simp [intOf]; omega
                  · have d3 : decide (u < 1000000000) = false := decide_eq_false q3
                    go_wp2
                    go_ret
                    exact ⟨rfl, HEND.out⟩
                · have d2 : decide (u < x + 60) = false := decide_eq_false q2
                  go_wp2
                  go_ret
                  exact ⟨rfl, HEND.out⟩
              · have d1 : decide (u < t) = false := decide_eq_false q1
                go_wp2
                go_ret
                exact ⟨rfl, HEND.out⟩
  · have c0 : decide (4096 < n0) = true := by simpa using hn
    go_enter Try.func3, Try.ntmps3
    go_wp2_with fail
    refine (big_any a0 n0 cap0 _ true c0.symm).mono ?_
    rintro e w' ⟨rfl, hq⟩; have hq' := hq.symm; clear hq; subst hq'
    go_wp2
    go_ret
    exact ⟨rfl, Below.refl _ _⟩

set_option maxRecDepth 100000 in
theorem lifted (os : Os) (started : os.Started) (H : Type) (enc : TypeId × Value → H) :
    ReturnsInHanded {} Try.checked os 3 .any (Rows.fnFitSpec.pre6 enc Try.prog Try.f3 Rows.fnFitRow.domain false) (Rows.fnFitSpec.post enc Try.prog Try.f3 false true false false) := by
  refine returnsInHanded_of_change (C := Try.checked) own started (by kernel_rfl) Try.func3
    (ChangeSpec.witness6 (enc := enc) (C := Try.checked) false ⟨#[], #[.slice none 0 0], []⟩ 8 (by kernel_rfl) (by kernel_rfl) (by kernel_rfl) (by kernel_rfl)) ?_
  intro W base args ds gs before hval0 hW hcnd _
  have hval : ∀ (j : Nat) t v, Try.f3.params[j]? = some t → args[j]? = some v → Value.okWide Try.prog W .any base t v := hval0
  have hW' := hW
  obtain ⟨p, q, hA0, hV, rfl, hfz, hnd⟩ := hW
  have hA : DataW.TrodAll enc Try.prog W 0 (fun _ => true) true Try.f3.params.toList args.toList ds p := hA0
  rw [Try.params3] at hA hval
  obtain ⟨v0, vs0, d0, ds0, p0, q0, hargs, rfl, rfl, h0, r0⟩ := trodAll_cons hA
  obtain ⟨rfl, rfl, rfl⟩ := trodAll_nil r0
  obtain rfl : args = #[v0] := by cases args; simp_all
  obtain ⟨rfl, rfl⟩ := trodVars_none hV
  have k0 := h0
  have lt0 : ∀ x ∈ p0, x.block < W.heap.size := by obtain ⟨m, hm⟩ := k0; exact DataW.trod_lt m _ _ _ hm
  obtain ⟨a0, n0, cap0, z0, rfl, w0⟩ := open_bytes (hval 0 22 v0 rfl rfl) h0
  clear hA0 hval0
  refine (walk a0 n0 cap0 z0 W w0).mono fun e W' ⟨he, bel⟩ => ?_
  subst he
  exact ⟨_, rfl, _, _, _, [], _, [], hW', trodAll_mk1 (shut_bool Try.underlying4 _), (trodAll_cons_mk (Below.trod laidOut (by kernel_rfl) (of_decide_eq_true (by kernel_rfl)) k0 bel lt0) trodAll_mk0), rfl, bel.frame _, fun h => by cases h⟩

theorem over : Rows.fnFitRow.holds Try.pinned (OpenSpec.ofChange Rows.fnFitSpec) :=
  OpenClaim.holds_of_wide 3 Try.f3 rfl rfl rfl rfl rfl rfl rfl ⟨rfl, rfl, rfl, rfl, rfl⟩ rfl rfl rfl rfl rfl (by kernel_rfl) Try.func3 (by kernel_rfl)
    (of_decide_eq_true (by kernel_rfl)) (by unfold Func.isWrapper; first | (rw [if_pos (by decide +kernel)]; kernel_rfl) | (rw [if_neg (by decide +kernel)]; exact ⟨rfl, rfl⟩))
    (fun os started H enc _ => lifted os started H enc)

/-- the given statement -/
theorem proved : Rows.FnFitSaid := over
#print axioms proved
end Go.Proofs.Ytdaedggmeoganaa.fnFit
