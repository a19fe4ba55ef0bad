/- For every input that can be read the law FnEnds returns true, and what it was handed reads as before. The frame is the kit's; the opening of the arguments and the walk are ours. -/
import Derived.Test.YtaoimijeaacaiaaRows
import Derived.WalkKit
import Derived.ProofKit
import Derived.OpenShut
import Derived.ChangeOld
import Derived.Below
import Derived.Test.YtaoimijeaacaiaaEndsMath
import Derived.Test.YtaoimijeaacaiaaEndsS3
import Derived.Test.YtaoimijeaacaiaaJobDraw3
import Derived.Test.YtaoimijeaacaiaaBytesOpen
namespace Go.Proofs.Ytaoimijeaacaiaa.fnEnds
open Go.ChangeShapes Go.WideShapes Go.ChangeAt Go.RowKit
set_option linter.unusedVariables false

theorem own : ownKnob Try.prog.godebug = none := by kernel_rfl
theorem laidOut : laidOutB Try.prog = true := by kernel_rfl

set_option maxRecDepth 8000 in
set_option maxHeartbeats 8000000 in
theorem walk (a0 : Option Addr) (n0 cap0 : Nat) (z0 : List Int) (w : World) (w0 : IsBytes w a0 n0 cap0 z0) :
    Calls Try.prog 7 #[.slice a0 n0 cap0] w fun e w' => e = .returned (.bool true) ∧ Below w.heap.size w w' := by
  have hmx := w0.mx
  have hle := w0.le
  by_cases hn : n0 ≤ 4096
  · go_enter Try.func7, Try.ntmps7
    go_wp2_with fail
    refine (big_any a0 n0 cap0 _ false (by simpa using hn)).mono ?_
    rintro e w' ⟨rfl, hq⟩; have hq' := hq.symm; clear hq; subst hq'
    go_wp2_with fail
    refine (drawEnds_any a0 n0 cap0 z0 _ w0 hn).mono ?_
    rintro e w1 ⟨g, c, ys, rfl, O, hy, hA, U1⟩
    have J1 : JobS w1 (some ⟨g, 0, none⟩) ys.length c ys := O.toS (fun i hi => (hA _ (by rw [jg_get hi]; exact List.getElem_mem hi)).wf)
    have V1 : Below w1.heap.size w1 w1 := Below.refl _ _
    rcases hq : jsB ys with _ | _
    · have hz0 : ((ys.length : Int) == 0) = false := by
        rw [beq_eq_false_iff_ne]
        intro h
        have h1 : ys = [] := List.eq_nil_of_length_eq_zero (by omega)
        rw [h1, js_nil] at hq; cases hq
      go_wp2_with fail
      refine (implEnds_no _ ys.length c ys _ (J1.below V1) hq).mono ?_
      rintro e w2 ⟨rfl, hb2⟩
      have V2 := V1.then hb2 V1.size
      have U2 := U1.then hb2 U1.size
      go_wp2_with fail
      refine (specEnds_no _ ys.length c ys _ (J1.below V2) hq).mono ?_
      rintro e w3 ⟨v, rfl, I3, hb3⟩
      have V3 := V2.then hb3 V2.size
      have U3 := U2.then hb3 U2.size
      go_wp2_with fail
      refine (likeInts_same none (some ⟨v, 0, none⟩) 0 0 0 [] _ (IntS.nil_ _) (I3.toS rfl (Nat.le_refl _) (Nat.zero_le _))).mono ?_
      rintro e w4 ⟨rfl, hb4⟩
      have V4 := V3.then hb4 V3.size
      have U4 := U3.then hb4 U3.size
      go_wp2_with fail
      refine (implLateness_any _ ys.length c ys _ (J1.below V4)).mono ?_
      rintro e w5 ⟨rfl, hb5⟩
      have V5 := V4.then hb5 V4.size
      have U5 := U4.then hb5 U4.size
      go_wp2_with fail
      refine (specLateness_any _ ys.length c ys _ (J1.below V5)).mono ?_
      rintro e w6 ⟨rfl, hb6⟩
      have V6 := V5.then hb6 V5.size
      have U6 := U5.then hb6 U5.size
      go_wp2_with fail
      refine (implWeighted_any _ ys.length c ys _ (J1.below V6)).mono ?_
      rintro e w7 ⟨rfl, hb7⟩
      have V7 := V6.then hb7 V6.size
      have U7 := U6.then hb7 U6.size
      go_wp2_with fail
      refine (specWeighted_any _ ys.length c ys _ (J1.below V7)).mono ?_
      rintro e w8 ⟨rfl, hb8⟩
      have V8 := V7.then hb8 V7.size
      have U8 := U7.then hb8 U7.size
      go_wp2_with fail
      refine (implTardy_any _ ys.length c ys _ (J1.below V8)).mono ?_
      rintro e w9 ⟨rfl, hb9⟩
      have V9 := V8.then hb9 V8.size
      have U9 := U8.then hb9 U8.size
      go_wp2_with fail
      refine (specTardy_any _ ys.length c ys _ (J1.below V9)).mono ?_
      rintro e w10 ⟨rfl, hb10⟩
      have V10 := V9.then hb10 V9.size
      have U10 := U9.then hb10 U9.size
      go_wp2_with fail
      refine (implWaiting_any _ ys.length c ys _ (J1.below V10)).mono ?_
      rintro e w11 ⟨rfl, hb11⟩
      have V11 := V10.then hb11 V10.size
      have U11 := U10.then hb11 U10.size
      go_wp2_with fail
      refine (specWaiting_any _ ys.length c ys _ (J1.below V11)).mono ?_
      rintro e w12 ⟨rfl, hb12⟩
      have V12 := V11.then hb12 V11.size
      have U12 := U11.then hb12 U11.size
      go_wp2_with fail
      refine (specJobsOk_any _ ys.length c ys _ (J1.below V12)).mono ?_
      rw [hq]
      rintro e w13 ⟨rfl, hb13⟩
      go_wp2
      go_ret
      exact ⟨rfl, U12.then hb13 U12.size⟩
    · have oky := (jsB_t hq).ok
      have hy40 : ys.length ≤ 40 := (jsB_t hq).n
      have hel := endsL_len ys ys.length
      go_wp2_with fail
      refine (implEnds_yes _ ys.length c ys _ J1 hq).mono ?_
      rintro e w2 ⟨ge, ce, rfl, hge, hce, hne, I2, hb2⟩
      have V2 := V1.then hb2 V1.size
      have U2 := U1.then hb2 U1.size
      go_wp2_with fail
      refine (specEnds_yes _ ys.length c ys _ (J1.below V2) hq).mono ?_
      rintro e w3 ⟨v, cv, rfl, hv3, hcv, hnv, I3, hb3⟩
      have V3 := V2.then hb3 V2.size
      have U3 := U2.then hb3 U2.size
      have X3 := hb3
      go_wp2_with fail
      refine (likeInts_same (some ⟨ge, 0, none⟩) (some ⟨v, 0, none⟩) ys.length ce cv (endsL ys ys.length) _ ((I2.below hb3).toS hel hne hce) (I3.toS hel hnv hcv)).mono ?_
      rintro e w4 ⟨rfl, hb4⟩
      have V4 := V3.then hb4 V3.size
      have U4 := U3.then hb4 U3.size
      go_wp2_with fail
      refine (implLateness_any _ ys.length c ys _ (J1.below V4)).mono ?_
      rintro e w5 ⟨rfl, hb5⟩
      have V5 := V4.then hb5 V4.size
      have U5 := U4.then hb5 U4.size
      go_wp2_with fail
      refine (specLateness_any _ ys.length c ys _ (J1.below V5)).mono ?_
      rintro e w6 ⟨rfl, hb6⟩
      have V6 := V5.then hb6 V5.size
      have U6 := U5.then hb6 U5.size
      go_wp2_with fail
      refine (implWeighted_any _ ys.length c ys _ (J1.below V6)).mono ?_
      rintro e w7 ⟨rfl, hb7⟩
      have V7 := V6.then hb7 V6.size
      have U7 := U6.then hb7 U6.size
      go_wp2_with fail
      refine (specWeighted_any _ ys.length c ys _ (J1.below V7)).mono ?_
      rintro e w8 ⟨rfl, hb8⟩
      have V8 := V7.then hb8 V7.size
      have U8 := U7.then hb8 U7.size
      go_wp2_with fail
      refine (implTardy_any _ ys.length c ys _ (J1.below V8)).mono ?_
      rintro e w9 ⟨rfl, hb9⟩
      have V9 := V8.then hb9 V8.size
      have U9 := U8.then hb9 U8.size
      go_wp2_with fail
      refine (specTardy_any _ ys.length c ys _ (J1.below V9)).mono ?_
      rintro e w10 ⟨rfl, hb10⟩
      have V10 := V9.then hb10 V9.size
      have U10 := U9.then hb10 U9.size
      go_wp2_with fail
      refine (implWaiting_any _ ys.length c ys _ (J1.below V10)).mono ?_
      rintro e w11 ⟨rfl, hb11⟩
      have V11 := V10.then hb11 V10.size
      have U11 := U10.then hb11 U10.size
      go_wp2_with fail
      refine (specWaiting_any _ ys.length c ys _ (J1.below V11)).mono ?_
      rintro e w12 ⟨rfl, hb12⟩
      have V12 := V11.then hb12 V11.size
      have U12 := U11.then hb12 U11.size
      have X4 := X3.then hb4 X3.size
      have X5 := X4.then hb5 X4.size
      have X6 := X5.then hb6 X5.size
      have X7 := X6.then hb7 X6.size
      have X8 := X7.then hb8 X7.size
      have X9 := X8.then hb9 X8.size
      have X10 := X9.then hb10 X9.size
      have X11 := X10.then hb11 X10.size
      have X12 := X11.then hb12 X11.size
      have IE := I2.below X12
      clear X3 X4 X5 X6 X7 X8 X9 X10 X11 X12 hb4 hb5 hb6 hb7 hb8 hb9 hb10 hb11 hb12 I3 hb3 V2 V3 V4 V5 V6 V7 V8 V9 V10 V11 U2 U3 U4 U5 U6 U7 U8 U9 U10 U11
      by_cases h0 : ys.length = 0
      · have hz0 : ((ys.length : Int) == 0) = true := by rw [beq_iff_eq]; omega
        clear h0
        go_wp2
        go_ret
        exact ⟨rfl, U12⟩
      · have hz0 : ((ys.length : Int) == 0) = false := by rw [beq_eq_false_iff_ne]; omega
        have JL : JobS w12 (some ⟨g, 0, none⟩) ys.length c ys := J1.below V12
        have eW : sumV gWaiting ys = sumG gWaiting ys ys.length := by unfold sumV; rw [if_pos hq]
        have CW : ∀ W, Below w12.heap.size w12 W → Calls Try.prog 45 #[.slice (some ⟨g, 0, none⟩) ys.length c] W fun e w' => e = .returned (.int .i64 (sumG gWaiting ys ys.length)) ∧ Below W.heap.size W w' := fun W hW => by have := implWaiting_any _ ys.length c ys W (JL.below hW); rwa [eW] at this
        have CL : ∀ W, Below w12.heap.size w12 W → Calls Try.prog 39 #[.slice (some ⟨g, 0, none⟩) ys.length c] W fun e w' => e = .returned (.int .i64 (lateV ys)) ∧ Below W.heap.size W w' := fun W hW => implLateness_any _ ys.length c ys W (JL.below hW)
        clear eW
        have hcle := JL.le
        have hmxl := JL.mx
        unfold maxLen at hmxl hce
        have hgl : g < w12.heap.size := by have := O.lt; have := V12.size; omega
        have OL : OwnJ w12 w.heap.size g c ys := O.below V12
        go_wp2
        go_loopw [5, 6, 7] (fun s t i wr => ∃ k : Nat, k ≤ ys.length ∧ i = .int .i64 k ∧ s = .int .i64 (sumTo ys k) ∧ t = .int .i64 (sumG gWaiting ys k) ∧ Below w12.heap.size w12 wr) (fun _ _ i _ => ys.length - (intOf i).toNat)
        case atStart => exact ⟨0, by omega, rfl, rfl, rfl, Below.refl _ _⟩
        case round =>
          obtain ⟨k, hk, rfl, rfl, rfl, hw⟩ := hrel
          by_cases hlt : k < ys.length
          · have hlt' : (k : Int) < (ys.length : Int) := by omega
            have hk0 : (0 : Int) ≤ (k : Int) := by omega
            have b0 := sumTo_bd oky k (by omega)
            have b1 := sumTo_bd oky (k + 1) (by omega)
            have jb := jok_bd (oky k hlt).1
            have b2 := sumG_bd g_bd_Waiting oky hy40 k (by omega)
            have hL := lateV_ge hq hlt
            have KK : ∀ W, Below w12.heap.size w12 W → W.cell? ⟨ge, k, none⟩ = some (.int .i64 (sumTo ys (k + 1))) ∧ W.cell? ⟨g, k * 7 + 2, none⟩ = some (.int .i64 (jg ys k).long) ∧ W.cell? ⟨g, k * 7 + 3, none⟩ = some (.int .i64 (jg ys k).due) := fun W hW =>
              ⟨by have := (IE.below hW).cell hlt; rwa [endsL_g _ hlt] at this, ((OL.below hW).cell (i := k) (f := 2) hlt (by omega)).1, ((OL.below hW).cell (i := k) (f := 3) hlt (by omega)).1⟩
            have hs : sumTo ys k + (jg ys k).long = sumTo ys (k + 1) := rfl
            have HW : Hid (sumG gWaiting ys (k + 1) = sumG gWaiting ys k + sumTo ys (k + 1) - (jg ys k).long) := by unfold Hid; simp only [sumG, gWaiting]; omega
            have HK : Hid _ := KK
            obtain ⟨q0, q1, q2⟩ := KK wr hw
            clear KK
            generalize hzz : sumTo ys (k + 1) = z at *
            have HZ : Hid (sumTo ys (k + 1) = z) := hzz
            clear hzz
            have hd : IntKind.i64.wrap (z - (jg ys k).due) = z - (jg ys k).due := by rw [IntKind.wrap_i64]; omega
            have hL' : ¬ (lateV ys < z - (jg ys k).due) := by omega
            have HD : Hid _ := hd
            clear hd hL
            go_wp2
            go_quiet (fail)
            go_wp2
            obtain ⟨W3, hW3⟩ : ∃ W3, W3 = wr.drewN nq := ⟨_, rfl⟩
            rw [← hW3]
            have B3 : Below w12.heap.size w12 W3 := by rw [hW3]; exact hw.drewNI _
            clear hW3 q0 q1 q2
            have hd := HD.out
            have KB : ∀ {W}, (Below w12.heap.size w12 W ∧ W.cell? ⟨ge, k, none⟩ = some (.int .i64 z) ∧ W.cell? ⟨g, k * 7 + 3, none⟩ = some (.int .i64 (jg ys k).due)) → Below w12.heap.size w12 W := fun h => h.1
            go_region_held3 (fun w' => Below w12.heap.size w12 w' ∧ w'.cell? ⟨ge, k, none⟩ = some (.int .i64 z) ∧ w'.cell? ⟨g, k * 7 + 3, none⟩ = some (.int .i64 (jg ys k).due)) (first | exact ⟨SB, (HK.out _ SB).1, (HK.out _ SB).2.2⟩ | exact ⟨B3.drew, (HK.out _ B3.drew).1, (HK.out _ B3.drew).2.2⟩ | go_keep) (first
              | (go_at_call 39
                 refine (CL _ (KB (by assumption))).mono ?_
                 rintro e w6 ⟨rfl, hb6⟩
                 have SB : Below w12.heap.size w12 w6 := Below.then (KB (by assumption)) hb6 (KB (by assumption)).size))
            clear hd KB
            go_wp2
            go_roundw
            case rel => exact ⟨k + 1, by omega, by go_num, by rw [HZ.out], by rw [HW.out], SB⟩
            case measure => simp [intOf]; omega
          · have e : k = ys.length := by omega
            subst e
            go_wp2_with fail
            refine (CW _ hw).mono ?_
            rintro e wa ⟨rfl, hba⟩
            have Wa : Below w12.heap.size w12 wa := hw.then hba hw.size
            by_cases c2 : ys.length < 2
            · have c2' : (ys.length : Int) < 2 := by omega
              go_wp2_with fail
              refine (CW _ Wa).mono ?_
              rintro e wb ⟨rfl, hbb⟩
              have Wb : Below w12.heap.size w12 wb := Wa.then hbb Wa.size
              go_wp2
              go_ret
              exact ⟨rfl, U12.then Wb U12.size⟩
            · have c2' : ¬ ((ys.length : Int) < 2) := by omega
              have Ua : Below w.heap.size w wa := U12.then Wa U12.size
              go_wp2_with fail
              refine (pick_any a0 n0 cap0 z0 1 ((ys.length : Int) - 1) _ (w0.below Ua) hn (by omega) (by omega) (by omega) (by omega)).mono ?_
              rintro e w' ⟨x, rfl, x0, x1, hq'⟩; have hq2 := hq'.symm; clear hq'; subst hq2
              obtain ⟨k, rfl⟩ := Int.eq_ofNat_of_zero_le x0
              have hk : k + 1 < ys.length := by omega
              obtain ⟨i1, hj, hj0, hj1, hj2⟩ := info_parts infoJ
              have OE := World.ownsRow_made (base := wa.heap.size) (e := 28) (size := 7) wa #[] 0 (Nat.le_refl _) (Nat.zero_le _) rfl
              have O4 : OwnJ wa w.heap.size g c ys := OL.below Wa
              have HC : ∀ j u, (jcells ys)[j]? = some u → (wa.alloc (.cells #[] 28)).cell? ((⟨g, 0, none⟩ : Addr).add j) = some u := by
                intro j u hju
                have := World.ownsRow.cells O4.own (g := g) rfl j u hju
                have hadd : (⟨g, 0, none⟩ : Addr).add j = ⟨g, j, none⟩ := by unfold Addr.add; split <;> simp_all
                rw [hadd] at this ⊢
                rw [World.cell?_alloc_lt _ _ _ O4.lt]
                exact this
              have hjl : (jcells ys).length = ys.length * 7 := jcells_len ys
              go_wp2_with (at_builtin; refine wpList_append_own_at _ rfl (.tmp 126) (.tmp 127) 24 rfl wa.heap.size 28 i1 (.agg #[.int .i64 0, .int .i64 0, .int .i64 0, .int .i64 0, .int .i64 0, .int .i64 0, .int .i64 0]) 7 56 Try.underlying24 hj hj0 hj1 hj2 rfl (by decide) _ _ _ rfl OE ⟨g, 0, none⟩ ys.length c (jcells ys) ?eb hjl HC (jcells_one _) (by unfold maxLen; omega) (by omega) (by simp) ?_)
              case eb => rfl
              intro v5 w5 own5 grow5 nil5 at5
              obtain ⟨g6, c6, rfl, O6⟩ := ownJ_of (ys := ys) own5 (by simp) (by simp) (by first | exact nil5 | exact fun e => nomatch (nil5.1 e).1)
              have B5 : Below wa.heap.size wa w5 := box_below0.grown grow5 (by simp) (fun r e => by simp [Value.ownBlock] at e; omega)
              have O5 := O4.below B5
              have hgg : g < g6 := by have := O4.lt; have := O6.base; omega
              have hne6 : g ≠ g6 := by omega
              have hne7 : g6 ≠ g := by omega
              have hee : ge ≠ g6 := by have := IE.lt; have := Wa.size; have := O6.base; omega
              clear own5 grow5 nil5 at5 OE HC
              have qa0 : w5.cell? ⟨g, k * 7, none⟩ = some (.int .i64 (jg ys k).id) := (O5.cell (i := k) (f := 0) (by omega) (by omega)).1
              have ra0 : w5.cell? ⟨g6, k * 7, none⟩ = some (.int .i64 (jg ys k).id) ∧ w5.frozen? ⟨g6, k * 7, none⟩ = false := O6.cell (i := k) (f := 0) (by omega) (by omega)
              have qa1 : w5.cell? ⟨g, k * 7 + 1, none⟩ = some (.int .i64 (jg ys k).cores) := (O5.cell (i := k) (f := 1) (by omega) (by omega)).1
              have ra1 : w5.cell? ⟨g6, k * 7 + 1, none⟩ = some (.int .i64 (jg ys k).cores) ∧ w5.frozen? ⟨g6, k * 7 + 1, none⟩ = false := O6.cell (i := k) (f := 1) (by omega) (by omega)
              have qa2 : w5.cell? ⟨g, k * 7 + 2, none⟩ = some (.int .i64 (jg ys k).long) := (O5.cell (i := k) (f := 2) (by omega) (by omega)).1
              have ra2 : w5.cell? ⟨g6, k * 7 + 2, none⟩ = some (.int .i64 (jg ys k).long) ∧ w5.frozen? ⟨g6, k * 7 + 2, none⟩ = false := O6.cell (i := k) (f := 2) (by omega) (by omega)
              have qa3 : w5.cell? ⟨g, k * 7 + 3, none⟩ = some (.int .i64 (jg ys k).due) := (O5.cell (i := k) (f := 3) (by omega) (by omega)).1
              have ra3 : w5.cell? ⟨g6, k * 7 + 3, none⟩ = some (.int .i64 (jg ys k).due) ∧ w5.frozen? ⟨g6, k * 7 + 3, none⟩ = false := O6.cell (i := k) (f := 3) (by omega) (by omega)
              have qa4 : w5.cell? ⟨g, k * 7 + 4, none⟩ = some (.int .i64 (jg ys k).wt) := (O5.cell (i := k) (f := 4) (by omega) (by omega)).1
              have ra4 : w5.cell? ⟨g6, k * 7 + 4, none⟩ = some (.int .i64 (jg ys k).wt) ∧ w5.frozen? ⟨g6, k * 7 + 4, none⟩ = false := O6.cell (i := k) (f := 4) (by omega) (by omega)
              have qa5 : w5.cell? ⟨g, k * 7 + 5, none⟩ = some (.int .i64 (jg ys k).rank) := (O5.cell (i := k) (f := 5) (by omega) (by omega)).1
              have ra5 : w5.cell? ⟨g6, k * 7 + 5, none⟩ = some (.int .i64 (jg ys k).rank) ∧ w5.frozen? ⟨g6, k * 7 + 5, none⟩ = false := O6.cell (i := k) (f := 5) (by omega) (by omega)
              have qa6 : w5.cell? ⟨g, k * 7 + 6, none⟩ = some (.int .i64 (jg ys k).at_) := (O5.cell (i := k) (f := 6) (by omega) (by omega)).1
              have ra6 : w5.cell? ⟨g6, k * 7 + 6, none⟩ = some (.int .i64 (jg ys k).at_) ∧ w5.frozen? ⟨g6, k * 7 + 6, none⟩ = false := O6.cell (i := k) (f := 6) (by omega) (by omega)
              have qb0 : w5.cell? ⟨g, (k + 1) * 7, none⟩ = some (.int .i64 (jg ys (k + 1)).id) := (O5.cell (i := (k + 1)) (f := 0) (by omega) (by omega)).1
              have rb0 : w5.cell? ⟨g6, (k + 1) * 7, none⟩ = some (.int .i64 (jg ys (k + 1)).id) ∧ w5.frozen? ⟨g6, (k + 1) * 7, none⟩ = false := O6.cell (i := (k + 1)) (f := 0) (by omega) (by omega)
              have qb1 : w5.cell? ⟨g, (k + 1) * 7 + 1, none⟩ = some (.int .i64 (jg ys (k + 1)).cores) := (O5.cell (i := (k + 1)) (f := 1) (by omega) (by omega)).1
              have rb1 : w5.cell? ⟨g6, (k + 1) * 7 + 1, none⟩ = some (.int .i64 (jg ys (k + 1)).cores) ∧ w5.frozen? ⟨g6, (k + 1) * 7 + 1, none⟩ = false := O6.cell (i := (k + 1)) (f := 1) (by omega) (by omega)
              have qb2 : w5.cell? ⟨g, (k + 1) * 7 + 2, none⟩ = some (.int .i64 (jg ys (k + 1)).long) := (O5.cell (i := (k + 1)) (f := 2) (by omega) (by omega)).1
              have rb2 : w5.cell? ⟨g6, (k + 1) * 7 + 2, none⟩ = some (.int .i64 (jg ys (k + 1)).long) ∧ w5.frozen? ⟨g6, (k + 1) * 7 + 2, none⟩ = false := O6.cell (i := (k + 1)) (f := 2) (by omega) (by omega)
              have qb3 : w5.cell? ⟨g, (k + 1) * 7 + 3, none⟩ = some (.int .i64 (jg ys (k + 1)).due) := (O5.cell (i := (k + 1)) (f := 3) (by omega) (by omega)).1
              have rb3 : w5.cell? ⟨g6, (k + 1) * 7 + 3, none⟩ = some (.int .i64 (jg ys (k + 1)).due) ∧ w5.frozen? ⟨g6, (k + 1) * 7 + 3, none⟩ = false := O6.cell (i := (k + 1)) (f := 3) (by omega) (by omega)
              have qb4 : w5.cell? ⟨g, (k + 1) * 7 + 4, none⟩ = some (.int .i64 (jg ys (k + 1)).wt) := (O5.cell (i := (k + 1)) (f := 4) (by omega) (by omega)).1
              have rb4 : w5.cell? ⟨g6, (k + 1) * 7 + 4, none⟩ = some (.int .i64 (jg ys (k + 1)).wt) ∧ w5.frozen? ⟨g6, (k + 1) * 7 + 4, none⟩ = false := O6.cell (i := (k + 1)) (f := 4) (by omega) (by omega)
              have qb5 : w5.cell? ⟨g, (k + 1) * 7 + 5, none⟩ = some (.int .i64 (jg ys (k + 1)).rank) := (O5.cell (i := (k + 1)) (f := 5) (by omega) (by omega)).1
              have rb5 : w5.cell? ⟨g6, (k + 1) * 7 + 5, none⟩ = some (.int .i64 (jg ys (k + 1)).rank) ∧ w5.frozen? ⟨g6, (k + 1) * 7 + 5, none⟩ = false := O6.cell (i := (k + 1)) (f := 5) (by omega) (by omega)
              have qb6 : w5.cell? ⟨g, (k + 1) * 7 + 6, none⟩ = some (.int .i64 (jg ys (k + 1)).at_) := (O5.cell (i := (k + 1)) (f := 6) (by omega) (by omega)).1
              have rb6 : w5.cell? ⟨g6, (k + 1) * 7 + 6, none⟩ = some (.int .i64 (jg ys (k + 1)).at_) ∧ w5.frozen? ⟨g6, (k + 1) * 7 + 6, none⟩ = false := O6.cell (i := (k + 1)) (f := 6) (by omega) (by omega)
              have n1 : (0 : Int) ≤ (k : Int) := by omega
              have n2 : (k : Int) < (ys.length : Int) := by omega
              have n3 : (k : Int) + 1 < (ys.length : Int) := by omega
              go_wp2_with fail
              have O7 := O6.store7 (i := k) (by omega) (jg ys (k + 1))
              have O8 := O7.store7 (i := k + 1) (by simp; omega) (jg ys k)
              have U5 := Ua.then B5 Ua.size
              have hz6 : w.heap.size ≤ g6 := by have := Ua.size; have := O6.base; omega
              have UB : Below w.heap.size w ((((((((((((((w5.setCell ⟨g6, k * 7, none⟩ (.int .i64 (jg ys (k + 1)).id)).setCell ⟨g6, k * 7 + 1, none⟩ (.int .i64 (jg ys (k + 1)).cores)).setCell ⟨g6, k * 7 + 2, none⟩ (.int .i64 (jg ys (k + 1)).long)).setCell ⟨g6, k * 7 + 3, none⟩ (.int .i64 (jg ys (k + 1)).due)).setCell ⟨g6, k * 7 + 4, none⟩ (.int .i64 (jg ys (k + 1)).wt)).setCell ⟨g6, k * 7 + 5, none⟩ (.int .i64 (jg ys (k + 1)).rank)).setCell ⟨g6, k * 7 + 6, none⟩ (.int .i64 (jg ys (k + 1)).at_)).setCell ⟨g6, (k + 1) * 7, none⟩ (.int .i64 (jg ys k).id)).setCell ⟨g6, (k + 1) * 7 + 1, none⟩ (.int .i64 (jg ys k).cores)).setCell ⟨g6, (k + 1) * 7 + 2, none⟩ (.int .i64 (jg ys k).long)).setCell ⟨g6, (k + 1) * 7 + 3, none⟩ (.int .i64 (jg ys k).due)).setCell ⟨g6, (k + 1) * 7 + 4, none⟩ (.int .i64 (jg ys k).wt)).setCell ⟨g6, (k + 1) * 7 + 5, none⟩ (.int .i64 (jg ys k).rank)).setCell ⟨g6, (k + 1) * 7 + 6, none⟩ (.int .i64 (jg ys k).at_)) := ((((((((((((((U5.setCell hz6 _).setCell hz6 _).setCell hz6 _).setCell hz6 _).setCell hz6 _).setCell hz6 _).setCell hz6 _).setCell hz6 _).setCell hz6 _).setCell hz6 _).setCell hz6 _).setCell hz6 _).setCell hz6 _).setCell hz6 _)
              have hgb : ((((((((((((((w5.setCell ⟨g6, k * 7, none⟩ (.int .i64 (jg ys (k + 1)).id)).setCell ⟨g6, k * 7 + 1, none⟩ (.int .i64 (jg ys (k + 1)).cores)).setCell ⟨g6, k * 7 + 2, none⟩ (.int .i64 (jg ys (k + 1)).long)).setCell ⟨g6, k * 7 + 3, none⟩ (.int .i64 (jg ys (k + 1)).due)).setCell ⟨g6, k * 7 + 4, none⟩ (.int .i64 (jg ys (k + 1)).wt)).setCell ⟨g6, k * 7 + 5, none⟩ (.int .i64 (jg ys (k + 1)).rank)).setCell ⟨g6, k * 7 + 6, none⟩ (.int .i64 (jg ys (k + 1)).at_)).setCell ⟨g6, (k + 1) * 7, none⟩ (.int .i64 (jg ys k).id)).setCell ⟨g6, (k + 1) * 7 + 1, none⟩ (.int .i64 (jg ys k).cores)).setCell ⟨g6, (k + 1) * 7 + 2, none⟩ (.int .i64 (jg ys k).long)).setCell ⟨g6, (k + 1) * 7 + 3, none⟩ (.int .i64 (jg ys k).due)).setCell ⟨g6, (k + 1) * 7 + 4, none⟩ (.int .i64 (jg ys k).wt)).setCell ⟨g6, (k + 1) * 7 + 5, none⟩ (.int .i64 (jg ys k).rank)).setCell ⟨g6, (k + 1) * 7 + 6, none⟩ (.int .i64 (jg ys k).at_)).heap[g]? = w5.heap[g]? := (Below.heap_setCell _ _ _ _ hne6).trans ((Below.heap_setCell _ _ _ _ hne6).trans ((Below.heap_setCell _ _ _ _ hne6).trans ((Below.heap_setCell _ _ _ _ hne6).trans ((Below.heap_setCell _ _ _ _ hne6).trans ((Below.heap_setCell _ _ _ _ hne6).trans ((Below.heap_setCell _ _ _ _ hne6).trans ((Below.heap_setCell _ _ _ _ hne6).trans ((Below.heap_setCell _ _ _ _ hne6).trans ((Below.heap_setCell _ _ _ _ hne6).trans ((Below.heap_setCell _ _ _ _ hne6).trans ((Below.heap_setCell _ _ _ _ hne6).trans ((Below.heap_setCell _ _ _ _ hne6).trans (Below.heap_setCell _ _ _ _ hne6)))))))))))))
              have hgeb : ((((((((((((((w5.setCell ⟨g6, k * 7, none⟩ (.int .i64 (jg ys (k + 1)).id)).setCell ⟨g6, k * 7 + 1, none⟩ (.int .i64 (jg ys (k + 1)).cores)).setCell ⟨g6, k * 7 + 2, none⟩ (.int .i64 (jg ys (k + 1)).long)).setCell ⟨g6, k * 7 + 3, none⟩ (.int .i64 (jg ys (k + 1)).due)).setCell ⟨g6, k * 7 + 4, none⟩ (.int .i64 (jg ys (k + 1)).wt)).setCell ⟨g6, k * 7 + 5, none⟩ (.int .i64 (jg ys (k + 1)).rank)).setCell ⟨g6, k * 7 + 6, none⟩ (.int .i64 (jg ys (k + 1)).at_)).setCell ⟨g6, (k + 1) * 7, none⟩ (.int .i64 (jg ys k).id)).setCell ⟨g6, (k + 1) * 7 + 1, none⟩ (.int .i64 (jg ys k).cores)).setCell ⟨g6, (k + 1) * 7 + 2, none⟩ (.int .i64 (jg ys k).long)).setCell ⟨g6, (k + 1) * 7 + 3, none⟩ (.int .i64 (jg ys k).due)).setCell ⟨g6, (k + 1) * 7 + 4, none⟩ (.int .i64 (jg ys k).wt)).setCell ⟨g6, (k + 1) * 7 + 5, none⟩ (.int .i64 (jg ys k).rank)).setCell ⟨g6, (k + 1) * 7 + 6, none⟩ (.int .i64 (jg ys k).at_)).heap[ge]? = w5.heap[ge]? := (Below.heap_setCell _ _ _ _ hee).trans ((Below.heap_setCell _ _ _ _ hee).trans ((Below.heap_setCell _ _ _ _ hee).trans ((Below.heap_setCell _ _ _ _ hee).trans ((Below.heap_setCell _ _ _ _ hee).trans ((Below.heap_setCell _ _ _ _ hee).trans ((Below.heap_setCell _ _ _ _ hee).trans ((Below.heap_setCell _ _ _ _ hee).trans ((Below.heap_setCell _ _ _ _ hee).trans ((Below.heap_setCell _ _ _ _ hee).trans ((Below.heap_setCell _ _ _ _ hee).trans ((Below.heap_setCell _ _ _ _ hee).trans ((Below.heap_setCell _ _ _ _ hee).trans (Below.heap_setCell _ _ _ _ hee)))))))))))))
              change OwnJ _ _ _ _ (swp ys k) at O8
              generalize ((((((((((((((w5.setCell ⟨g6, k * 7, none⟩ (.int .i64 (jg ys (k + 1)).id)).setCell ⟨g6, k * 7 + 1, none⟩ (.int .i64 (jg ys (k + 1)).cores)).setCell ⟨g6, k * 7 + 2, none⟩ (.int .i64 (jg ys (k + 1)).long)).setCell ⟨g6, k * 7 + 3, none⟩ (.int .i64 (jg ys (k + 1)).due)).setCell ⟨g6, k * 7 + 4, none⟩ (.int .i64 (jg ys (k + 1)).wt)).setCell ⟨g6, k * 7 + 5, none⟩ (.int .i64 (jg ys (k + 1)).rank)).setCell ⟨g6, k * 7 + 6, none⟩ (.int .i64 (jg ys (k + 1)).at_)).setCell ⟨g6, (k + 1) * 7, none⟩ (.int .i64 (jg ys k).id)).setCell ⟨g6, (k + 1) * 7 + 1, none⟩ (.int .i64 (jg ys k).cores)).setCell ⟨g6, (k + 1) * 7 + 2, none⟩ (.int .i64 (jg ys k).long)).setCell ⟨g6, (k + 1) * 7 + 3, none⟩ (.int .i64 (jg ys k).due)).setCell ⟨g6, (k + 1) * 7 + 4, none⟩ (.int .i64 (jg ys k).wt)).setCell ⟨g6, (k + 1) * 7 + 5, none⟩ (.int .i64 (jg ys k).rank)).setCell ⟨g6, (k + 1) * 7 + 6, none⟩ (.int .i64 (jg ys k).at_)) = WB at O8 UB hgb hgeb ⊢
              have OB : OwnJ WB w.heap.size g c ys := O5.blk hgb
              have IB : IntB WB ge ys.length (endsL ys ys.length) := ((IE.below Wa).below B5).keepB hgeb
              have hls := swp_len ys k
              have wfy : ∀ i, i < ys.length → jwf (jg ys i) := fun i hi => J1.wf i hi
              have wfs : ∀ i, i < (swp ys k).length → jwf (jg (swp ys k) i) := fun i hi => by
                rw [swp_g hk]
                split
                · exact wfy _ hk
                · split
                  · exact wfy _ (by omega)
                  · exact wfy _ (by omega)
              have JX0 : JobS WB (some ⟨g6, 0, none⟩) (swp ys k).length c6 (swp ys k) := O8.toS wfs
              have JY : JobS WB (some ⟨g, 0, none⟩) ys.length c ys := OB.toS wfy
              have JX : JobS WB (some ⟨g6, 0, none⟩) ys.length c6 (swp ys k) := by rw [hls] at JX0; exact JX0
              have hqs : jsB (swp ys k) = true := jsB_mk (swp_ok hk (jsB_t hq))
              clear qa0 qa1 qa2 qa3 qa4 qa5 qa6 qb0 qb1 qb2 qb3 qb4 qb5 qb6 ra0 ra1 ra2 ra3 ra4 ra5 ra6 rb0 rb1 rb2 rb3 rb4 rb5 rb6 O7 O8 OB O5 O6 O4 B5 hgb hgeb JX0 wfs wfy hls hj hj0 hj1 hj2 hjl CW CL
              refine (implEnds_yes _ ys.length c6 (swp ys k) _ JX hqs).mono ?_
              rintro e wf ⟨gf, cf, rfl, hgf, hcf, hnf, If, hbf⟩
              unfold maxLen at hcf
              have Uf := UB.then hbf UB.size
              have IBf := IB.below hbf
              have JYf := JY.below hbf
              go_wp2
              go_loopw [11] (fun i wr => ∃ m : Nat, m ≤ ys.length ∧ i = .int .i64 m ∧ Below wf.heap.size wf wr) (fun i _ => ys.length - (intOf i).toNat)
              case atStart => exact ⟨0, by omega, rfl, Below.refl _ _⟩
              case round =>
                obtain ⟨m, hm, rfl, hwm⟩ := hrel
                by_cases hlm : m < ys.length
                · have hlm' : (m : Int) < (ys.length : Int) := by omega
                  have hm0 : (0 : Int) ≤ (m : Int) := by omega
                  by_cases ek : m = k
                  · have hd : ((m : Int) == (k : Int)) = true := by rw [beq_iff_eq]; omega
                    go_wp2
                    go_quiet (fail)
                    go_wp2
                    go_roundw
                    case rel => exact ⟨m + 1, by omega, by go_num, hwm.drewNI _⟩
                    case measure => simp [intOf]; omega
                  · have hd : ((m : Int) == (k : Int)) = false := by rw [beq_eq_false_iff_ne]; omega
                    have hd2 : ((m : Int) != (k : Int)) = true := by rw [bne_iff_ne]; omega
                    have c1 := (If.below hwm).cell hlm
                    have c2 := (IBf.below hwm).cell hlm
                    rw [endsL_g _ hlm] at c1 c2
                    rw [sumTo_swp hk ek] at c1
                    go_wp2
                    go_quiet (fail)
                    go_wp2
                    go_roundw
                    case rel => exact ⟨m + 1, by omega, by go_num, hwm.drewNI _⟩
                    case measure => simp [intOf]; omega
                · have e : m = ys.length := by omega
                  subst e
                  have Um := Uf.then hwm Uf.size
                  by_cases hL : lateV ys ≤ 0
                  · have hT : (sumV gTardy ys == 0) = true := by rw [beq_iff_eq]; exact (tardy_late hq (by omega)).2 hL
                    go_wp2_with fail
                    refine (implTardy_any _ ys.length c ys _ (JYf.below hwm)).mono ?_
                    rintro e wx ⟨rfl, hbx⟩
                    have Vx := hwm.then hbx hwm.size
                    go_wp2_with fail
                    refine (implLateness_any _ ys.length c ys _ (JYf.below Vx)).mono ?_
                    rintro e wy ⟨rfl, hby⟩
                    have Vy := Vx.then hby Vx.size
                    go_wp2
                    go_ret
                    exact ⟨rfl, Uf.then Vy Uf.size⟩
                  · have hT : (sumV gTardy ys == 0) = false := by rw [beq_eq_false_iff_ne]; exact fun h => hL ((tardy_late hq (by omega)).1 h)
                    have hL2 : decide (lateV ys ≤ 0) = false := by simpa using hL
                    go_wp2_with fail
                    refine (implTardy_any _ ys.length c ys _ (JYf.below hwm)).mono ?_
                    rintro e wx ⟨rfl, hbx⟩
                    have Vx := hwm.then hbx hwm.size
                    go_wp2_with fail
                    refine (implLateness_any _ ys.length c ys _ (JYf.below Vx)).mono ?_
                    rintro e wy ⟨rfl, hby⟩
                    have Vy := Vx.then hby Vx.size
                    go_wp2
                    go_ret
                    exact ⟨rfl, Uf.then Vy Uf.size⟩
  · have c0 : decide (4096 < n0) = true := by simpa using hn
    go_enter Try.func7, Try.ntmps7
    go_wp2_with fail
    refine (big_any a0 n0 cap0 _ true c0.symm).mono ?_
    rintro e w' ⟨rfl, hq⟩; have hq' := hq.symm; clear hq; subst hq'
    go_wp2
    go_ret
    exact ⟨rfl, Below.refl _ _⟩

set_option maxRecDepth 100000 in
theorem lifted (os : Os) (started : os.Started) (H : Type) (enc : TypeId × Value → H) :
    ReturnsInHanded {} Try.checked os 7 .any (Rows.fnEndsSpec.pre6 enc Try.prog Try.f7 Rows.fnEndsRow.domain false) (Rows.fnEndsSpec.post enc Try.prog Try.f7 false true false false) := by
  refine returnsInHanded_of_change (C := Try.checked) own started (by kernel_rfl) Try.func7
    (ChangeSpec.witness6 (enc := enc) (C := Try.checked) false ⟨#[], #[.slice none 0 0], []⟩ 8 (by kernel_rfl) (by kernel_rfl) (by kernel_rfl) (by kernel_rfl)) ?_
  intro W base args ds gs before hval0 hW hcnd _
  have hval : ∀ (j : Nat) t v, Try.f7.params[j]? = some t → args[j]? = some v → Value.okWide Try.prog W .any base t v := hval0
  have hW' := hW
  obtain ⟨p, q, hA0, hV, rfl, hfz, hnd⟩ := hW
  have hA : DataW.TrodAll enc Try.prog W 0 (fun _ => true) true Try.f7.params.toList args.toList ds p := hA0
  rw [Try.params7] at hA hval
  obtain ⟨v0, vs0, d0, ds0, p0, q0, hargs, rfl, rfl, h0, r0⟩ := trodAll_cons hA
  obtain ⟨rfl, rfl, rfl⟩ := trodAll_nil r0
  obtain rfl : args = #[v0] := by cases args; simp_all
  obtain ⟨rfl, rfl⟩ := trodVars_none hV
  have k0 := h0
  have lt0 : ∀ x ∈ p0, x.block < W.heap.size := by obtain ⟨m, hm⟩ := k0; exact DataW.trod_lt m _ _ _ hm
  obtain ⟨a0, n0, cap0, z0, rfl, w0⟩ := open_bytes (hval 0 22 v0 rfl rfl) h0
  clear hA0 hval0
  refine (walk a0 n0 cap0 z0 W w0).mono fun e W' ⟨he, bel⟩ => ?_
  subst he
  exact ⟨_, rfl, _, _, _, [], _, [], hW', trodAll_mk1 (shut_bool Try.underlying4 _), (trodAll_cons_mk (Below.trod laidOut (by kernel_rfl) (of_decide_eq_true (by kernel_rfl)) k0 bel lt0) trodAll_mk0), rfl, bel.frame _, fun h => by cases h⟩

theorem over : Rows.fnEndsRow.holds Try.pinned (OpenSpec.ofChange Rows.fnEndsSpec) :=
  OpenClaim.holds_of_wide 7 Try.f7 rfl rfl rfl rfl rfl rfl rfl ⟨rfl, rfl, rfl, rfl, rfl⟩ rfl rfl rfl rfl rfl (by kernel_rfl) Try.func7 (by kernel_rfl)
    (of_decide_eq_true (by kernel_rfl)) (by unfold Func.isWrapper; first | (rw [if_pos (by decide +kernel)]; kernel_rfl) | (rw [if_neg (by decide +kernel)]; exact ⟨rfl, rfl⟩))
    (fun os started H enc _ => lifted os started H enc)

/-- the given statement -/
theorem proved : Rows.FnEndsSaid := over
#print axioms proved
end Go.Proofs.Ytaoimijeaacaiaa.fnEnds
