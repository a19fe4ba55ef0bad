/- For every input that can be read the law FnPicked returns true, and what it was handed reads as before. The frame is the kit's; the opening of the arguments and the walk are ours. -/
import Derived.Test.YtkkbfblgnejonaaRows
import Derived.WalkKit
import Derived.ProofKit
import Derived.OpenShut
import Derived.ChangeOld
import Derived.Below
import Derived.Test.YtkkbfblgnejonaaNodeI
import Derived.Test.YtkkbfblgnejonaaNodeM4
import Derived.Test.YtkkbfblgnejonaaPartLike
import Derived.Test.YtkkbfblgnejonaaBytesOpen
namespace Go.Proofs.Ytkkbfblgnejonaa.fnPicked
open Go.ChangeShapes Go.WideShapes Go.ChangeAt Go.RowKit
open Go.Sort
set_option linter.unusedVariables false

theorem own : ownKnob Try.prog.godebug = none := by kernel_rfl
theorem laidOut : laidOutB Try.prog = true := by kernel_rfl

set_option maxRecDepth 8000 in
set_option maxHeartbeats 16000000 in
theorem walk (a0 : Option Addr) (n0 cap0 : Nat) (z0 : List Int) (w : World) (w0 : IsBytes w a0 n0 cap0 z0) :
    Calls Try.prog 10 #[.slice a0 n0 cap0] w fun e w' => e = .returned (.bool true) ∧ Below w.heap.size w w' := by
  have hmx := w0.mx
  have hle := w0.le
  by_cases hn : n0 ≤ 4096
  · go_enter Try.func10, Try.ntmps10
    go_wp2_with fail
    refine (big_any a0 n0 cap0 _ false (by simpa using hn)).mono ?_
    rintro e w' ⟨rfl, hq⟩; have hq' := hq.symm; clear hq; subst hq'
    go_wp2_with fail
    refine (drawPicked_any a0 n0 cap0 z0 _ w0 hn).mono ?_
    rintro e w1 ⟨g, c, g2, c2, ls, us, x, rfl, N1, x0, x1, U1⟩
    obtain ⟨q, hq⟩ : ∃ q, q = (pkF ls us x).isSome := ⟨_, rfl⟩
    obtain ⟨ps, hps⟩ : ∃ ps, ps = pkl ls us x := ⟨_, rfl⟩
    obtain ⟨R, hR⟩ : ∃ R, R = rdF ls us := ⟨_, rfl⟩
    have HQ : Hid ((pkF ls us x).isSome = q) := hq.symm
    have HPS : Hid (pkl ls us x = ps) := hps.symm
    have HR : Hid (rdF ls us = R) := hR.symm
    have bR := rdF_bd ls us
    rw [← hR] at bR
    have hwf := (pkl_dr ls us x).2.wf
    rw [← hps] at hwf
    have hp8 := (pkl_dr ls us x).1
    rw [← hps] at hp8
    have HWF : Hid (∀ i, i < ps.length → ptwf (ptg ps i)) := hwf
    clear hq hps hR hwf
    have hu9 : us.length ≤ 9 := by have := N1.len; have := N1.n9; omega
    go_wp2_with fail
    refine (implPicked_any _ _ _ _ _ _ ls us x _ N1.toS N1.toI).mono ?_
    rintro e w2 ⟨v2, np2, cp2, b2, rfl, hb2, pk2⟩
    obtain ⟨eb2, en2, L2⟩ := pk2.lst
    clear pk2
    rw [HQ.out] at eb2
    rw [HPS.out] at en2 L2
    subst en2
    have eb2' := eb2.symm
    clear eb2
    subst eb2'
    have U2 := U1.then hb2 U1.size
    go_wp2_with fail
    refine (drawTaken_any a0 n0 cap0 z0 _ (w0.below U2) hn).mono ?_
    rintro e w3 ⟨ga, ca, aa, vb, cb, bp, rfl, LA, ha9, hau, LB, hbd, hb3⟩
    have U3 := U2.then hb3 U2.size
    have hbd9 := hbd.len
    obtain ⟨T, hT⟩ : ∃ T, T = (chF aa bp 1).getD [] := ⟨_, rfl⟩
    have HTT : Hid ((chF aa bp 1).getD [] = T) := hT.symm
    have hT9 : T.length ≤ 9 := by have := chF_len aa bp 1; rw [← hT] at this; omega
    clear hT
    go_wp2_with fail
    refine (implTaken_any _ _ _ _ _ _ aa bp _ LA.toS (LB.toS hbd.wf) (fun e => by cases e) (by omega) (by omega)).mono ?_
    rw [HTT.out]
    rintro e w4 ⟨vt, ct, rfl, LT, hb4⟩
    have U4 := U3.then hb4 U3.size
    go_wp2_with fail
    refine (drawGiven_any a0 n0 cap0 z0 _ (w0.below U4) hn).mono ?_
    rintro e w5 ⟨vc, cc, cs, vd, cd, dp, rfl, LC, hc9, LD, hdd, hb5⟩
    have U5 := U4.then hb5 U4.size
    have hdd9 := hdd.len
    obtain ⟨D, hD⟩ : ∃ D, D = (chF cs dp (-1)).getD [] := ⟨_, rfl⟩
    have HDD : Hid ((chF cs dp (-1)).getD [] = D) := hD.symm
    clear hD
    have N5 := (((N1.below hb2).below hb3).below hb4).below hb5
    have P5 := ((L2.below hb3).below hb4).below hb5
    have A5 := (LA.below hb4).below hb5
    have B5 := (LB.below hb4).below hb5
    have T5 := LT.below hb5
    have HNs : Hid (∀ W, Below w5.heap.size w5 W → NodeS W (some ⟨g, 0, none⟩) ls.length c ls) := fun W hW => (N5.below hW).toS
    have HUs : Hid (∀ W, Below w5.heap.size w5 W → IntS W (some ⟨g2, 0, none⟩) us.length c2 us) := fun W hW => (N5.below hW).toI
    have HPp : Hid (∀ W, Below w5.heap.size w5 W → PartS W v2 ps.length cp2 ps) := fun W hW => (P5.below hW).toS HWF.out
    have HAa : Hid (∀ W, Below w5.heap.size w5 W → IntS W (some ⟨ga, 0, none⟩) aa.length ca aa) := fun W hW => (A5.below hW).toS
    have HBp : Hid (∀ W, Below w5.heap.size w5 W → PartS W vb bp.length cb bp) := fun W hW => (B5.below hW).toS hbd.wf
    have HTt : Hid (∀ W, Below w5.heap.size w5 W → IntS W vt T.length ct T) := fun W hW => (T5.below hW).toS
    have HCc : Hid (∀ W, Below w5.heap.size w5 W → IntS W vc cs.length cc cs) := fun W hW => (LC.below hW).toS
    have HDp : Hid (∀ W, Below w5.heap.size w5 W → PartS W vd dp.length cd dp) := fun W hW => (LD.below hW).toS hdd.wf
    have nilT := LT.nil
    have nilC := LC.nil
    have HnT : Hid (vt = none → ct = 0) := nilT
    have HnC : Hid (vc = none → cc = 0) := nilC
    clear N1 L2 LA LB LT LC LD N5 P5 A5 B5 T5 nilT nilC U1 U2 U3 U4 hb2 hb3 hb4 hb5
    have V5 : Below w5.heap.size w5 w5 := Below.refl _ _
    go_wp2_with fail
    refine (specPicked_any _ _ _ _ _ _ ls us x _ (HNs.out _ V5) (HUs.out _ V5)).mono ?_
    rintro e w6 ⟨v6, np6, cp6, b6, rfl, hb6, pk6⟩
    obtain ⟨eb6, en6, L6⟩ := pk6.lst
    clear pk6
    rw [HQ.out] at eb6
    rw [HPS.out] at en6 L6
    subst en6
    have eb6' := eb6.symm
    clear eb6
    subst eb6'
    have U6 := U5.then hb6 U5.size
    have V6 : Below w5.heap.size w5 w6 := hb6
    have HL6 : Hid (PartS w6 v6 ps.length cp6 ps) := L6.toS HWF.out
    clear L6
    go_wp2_with fail
    refine (likeParts_same _ _ _ cp2 cp6 ps _ (HPp.out _ V6) HL6.out).mono ?_
    rintro e w7 ⟨rfl, hb7⟩
    have U7 := U6.then hb7 U6.size
    have V7 := V6.then hb7 V6.size
    go_wp2_with fail
    refine (implReady_any _ _ _ _ _ _ ls us _ (HNs.out _ V7) (HUs.out _ V7)).mono ?_
    rw [HR.out]
    rintro e w8 ⟨rfl, hb8⟩
    have U8 := U7.then hb8 U7.size
    have V8 := V7.then hb8 V7.size
    go_wp2_with fail
    refine (specReady_any _ _ _ _ _ _ ls us _ (HNs.out _ V8) (HUs.out _ V8)).mono ?_
    rw [HR.out]
    rintro e w9 ⟨rfl, hb9⟩
    have U9 := U8.then hb9 U8.size
    have V9 := V8.then hb9 V8.size
    obtain ⟨NB, hNB⟩ : ∃ NB, NB = nsB ls := ⟨_, rfl⟩
    have HNB : Hid (nsB ls = NB) := hNB.symm
    clear hNB
    go_wp2_with fail
    refine (implNodesOk_any _ _ _ ls _ (HNs.out _ V9)).mono ?_
    rw [HNB.out]
    rintro e w10 ⟨rfl, hb10⟩
    have U10 := U9.then hb10 U9.size
    have V10 := V9.then hb10 V9.size
    go_wp2_with fail
    refine (specNodesOk_b _ _ _ ls _ (HNs.out _ V10)).mono ?_
    rw [HNB.out]
    rintro e w11 ⟨rfl, hb11⟩
    have U11 := U10.then hb11 U10.size
    have V11 := V10.then hb11 V10.size
    obtain ⟨UB, hUB⟩ : ∃ UB, UB = usB ls us := ⟨_, rfl⟩
    have HUB : Hid (usB ls us = UB) := hUB.symm
    clear hUB
    go_wp2_with fail
    refine (implUsedOk_any _ _ _ _ _ _ ls us _ (HNs.out _ V11) (HUs.out _ V11)).mono ?_
    rw [HUB.out]
    rintro e w12 ⟨rfl, hb12⟩
    have U12 := U11.then hb12 U11.size
    have V12 := V11.then hb12 V11.size
    go_wp2_with fail
    refine (specUsedOk_any _ _ _ _ _ _ ls us _ (HNs.out _ V12) (HUs.out _ V12)).mono ?_
    rw [HUB.out]
    rintro e w13 ⟨rfl, hb13⟩
    have U13 := U12.then hb13 U12.size
    have V13 := V12.then hb13 V12.size
    go_wp2_with fail
    refine (specTaken_any _ _ _ _ _ _ aa bp _ (HAa.out _ V13) (HBp.out _ V13) (fun e => by cases e) (by omega) (by omega)).mono ?_
    rw [HTT.out]
    rintro e w14 ⟨v14, c14, rfl, L14, hb14⟩
    have U14 := U13.then hb14 U13.size
    have V14 := V13.then hb14 V13.size
    go_wp2_with fail
    refine (likeInts_same6 _ _ _ ct c14 T _ (HTt.out _ V14) L14.toS).mono ?_
    rintro e w15 ⟨rfl, hb15⟩
    have U15 := U14.then hb15 U14.size
    have V15 := V14.then hb15 V14.size
    clear L14
    go_wp2_with fail
    refine (implGiven_any _ _ _ _ _ _ cs dp _ (HCc.out _ V15) (HDp.out _ V15) HnC.out (by omega) (by omega)).mono ?_
    rw [HDD.out]
    rintro e w16 ⟨v16, c16, rfl, L16, hb16⟩
    have U16 := U15.then hb16 U15.size
    have V16 := V15.then hb16 V15.size
    go_wp2_with fail
    refine (specGiven_any _ _ _ _ _ _ cs dp _ (HCc.out _ V16) (HDp.out _ V16) HnC.out (by omega) (by omega)).mono ?_
    rw [HDD.out]
    rintro e w17 ⟨v17, c17, rfl, L17, hb17⟩
    have U17 := U16.then hb17 U16.size
    have V17 := V16.then hb17 V16.size
    go_wp2_with fail
    refine (likeInts_same6 _ _ _ c16 c17 D _ (L16.below hb17).toS L17.toS).mono ?_
    rintro e w18 ⟨rfl, hb18⟩
    have U18 := U17.then hb18 U17.size
    have V18 := V17.then hb18 V17.size
    clear L16 L17 hb6 hb7 hb8 hb9 hb10 hb11 hb12 hb13 hb14 hb15 hb16 hb17 hb18
    by_cases hT0 : 0 < T.length
    · have hT0' : (0 : Int) < (T.length : Int) := by omega
      have eA : (chF T bp (-1)).getD [] = aa := by
        have := given_back hau hbd (by rw [HTT.out]; exact hT0)
        rw [HTT.out] at this
        exact this
      have HEA : Hid ((chF T bp (-1)).getD [] = aa) := eA
      clear eA
      go_wp2_with fail
      refine (implGiven_any _ _ _ _ _ _ T bp _ (HTt.out _ V18) (HBp.out _ V18) HnT.out (by omega) (by omega)).mono ?_
      rw [HEA.out]
      rintro e w19 ⟨v19, c19, rfl, L19, hb19⟩
      have U19 := U18.then hb19 U18.size
      have V19 := V18.then hb19 V18.size
      go_wp2_with fail
      refine (likeInts_same6 _ _ _ c19 ca aa _ L19.toS (HAa.out _ V19)).mono ?_
      rintro e w20 ⟨rfl, hb20⟩
      have U20 := U19.then hb20 U19.size
      have V20 := V19.then hb20 V19.size
      clear L19 hb19 hb20
      clear HAa HBp HTt HCc HDp HnT HnC HTT HDD HNB HUB HL6 HEA
      cases q with
      | false =>
        obtain ⟨ePs, hx⟩ := pk_none HQ.out
        rw [HPS.out] at ePs
        have eln : ps.length = 0 := by rw [ePs]; rfl
        rw [HR.out] at hx
        clear HPS HPp HWF
        by_cases c1 : x < 1
        · go_wp2
          go_ret
          exact ⟨ret_bool (by first | (simp; done) | simp [eln]), U20⟩
        · have c2 : R < x := by omega
          go_wp2_with fail
          refine (implReady_any _ _ _ _ _ _ ls us _ (HNs.out _ V20) (HUs.out _ V20)).mono ?_
          rw [HR.out]
          rintro e wz ⟨rfl, hbz⟩
          go_wp2
          go_ret
          exact ⟨ret_bool (by first | (simp; done) | simp [eln]), U20.then hbz U20.size⟩
      | true =>
        have G := pkG_of HQ.out
        rw [HPS.out] at G
        obtain ⟨mo, hmo, hmu, hmr⟩ := G.more
        have HG1 := G.st
        have HG2 := G.mono
        have HG3 := G.bd
        have HG4 : Hid (ptSum ps ps.length = x) := G.sum
        have HMR : Hid (rdF ls mo = R - x) := by unfold Hid; rw [hmr, HR.out]
        have HMU : Hid (usB ls mo = true) := hmu
        have HMO : Hid ((chF us ps 1).getD [] = mo) := by unfold Hid; rw [hmo]; rfl
        have HG1' : Hid (∀ m, m < ps.length → ∃ i : Nat, i < ls.length ∧ (ptg ps m).node = (i : Int) ∧ (ndg ls i).state = 1 ∧ 0 < (ptg ps m).cores ∧ (ptg ps m).cores ≤ 101) := HG1
        have HG2' : Hid (∀ m, m + 1 < ps.length → (ptg ps m).node < (ptg ps (m + 1)).node) := HG2
        have HG3' : Hid (∀ m, m ≤ ps.length → 0 ≤ ptSum ps m ∧ ptSum ps m ≤ 101 * (m : Int)) := HG3
        clear G hmo hmu hmr HG1 HG2 HG3
        go_wp2_with fail
        go_loopw [15, 16] (fun s i wr => ∃ m : Nat, m ≤ ps.length ∧ i = .int .i64 m ∧ s = .int .i64 (ptSum ps m) ∧ Below w5.heap.size w5 wr) (fun _ i _ => ps.length - (intOf i).toNat)
        case atStart => exact ⟨0, by omega, rfl, rfl, V20⟩
        case round =>
          obtain ⟨m, hm, rfl, rfl, hw⟩ := hrel
          by_cases hlt : m < ps.length
          · obtain ⟨i, j1, j2, j3, j4, j5⟩ := HG1'.out m hlt
            have bd0 := HG3'.out m (by omega)
            have hsum : ptSum ps (m + 1) = ptSum ps m + (ptg ps m).cores := rfl
            have ws : IntKind.i64.wrap (ptSum ps m + (ptg ps m).cores) = ptSum ps m + (ptg ps m).cores := by rw [IntKind.wrap_i64]; omega
            obtain ⟨bb, off, ev, hbw, hat⟩ := (HPp.out _ hw).at_ (by omega)
            obtain ⟨bn, offn, en, hbn, nat⟩ := (HNs.out _ hw).at_ (by omega)
            injection en with en; injection en with en1 en2
            subst en1 en2
            obtain ⟨d0, d1⟩ := nat.row (i := i) j1
            have hlt' : (m : Int) < (ps.length : Int) := by omega
            have hil : (i : Int) < (ls.length : Int) := by omega
            have hi0 : (0 : Int) ≤ (i : Int) := by omega
            rw [j3] at d1
            rw [Nat.zero_add] at d0 d1
            have hst : ¬ ((ptg ps m).cores < 1) := by omega
            rcases m with _ | m
            · obtain ⟨p0, p1⟩ := hat.row (i := 0) hlt
              rw [j2] at p0
              simp only [Nat.zero_mul, Nat.add_zero] at p0 p1
              have HSM : Hid (ptSum ps (0 + 1) = ptSum ps 0 + (ptg ps 0).cores) := hsum
              clear hsum nat hat d0
              subst ev
              go_wp2_with fail
              go_region
              go_wp2
              go_roundw
              case rel => exact ⟨0 + 1, by omega, by go_num, by rw [HSM.out], hw.drewN _⟩
              case measure => simp [intOf]; omega
            · obtain ⟨i', k1, k2, k3, k4, k5⟩ := HG1'.out m (by omega)
              have hmono := HG2'.out m hlt
              rw [j2, k2] at hmono
              obtain ⟨p0, p1⟩ := hat.row (i := m + 1) hlt
              obtain ⟨r0, r1⟩ := hat.row (i := m) (by omega)
              rw [j2] at p0
              rw [k2] at r0
              have hnl : ¬ ((i : Int) ≤ (i' : Int)) := by omega
              have wk : IntKind.i64.wrap ((m : Int) + 1 - 1) = (m : Int) := by rw [IntKind.wrap_i64]; omega
              have hm1 : (m : Int) < (ps.length : Int) := by omega
              have hm2 : (m : Int) + 1 < (ps.length : Int) := by omega
              have hm3 : (0 : Int) < (m : Int) + 1 := by omega
              have hm4 : (0 : Int) ≤ (m : Int) + 1 := by omega
              have hnn : ¬ (i ≤ i') := by omega
              have hnd : decide ((i : Int) ≤ (i' : Int)) = false := by simpa using hnl
              have hnd2 : decide (i ≤ i') = false := by simpa using hnn
              have HSM : Hid (ptSum ps (m + 1 + 1) = ptSum ps (m + 1) + (ptg ps (m + 1)).cores) := hsum
              clear hsum nat hat d0 hmono k3 k4 k5
              subst ev
              go_wp2_with fail
              go_region
              go_wp2
              go_roundw
              case rel => exact ⟨m + 1 + 1, by omega, by go_num, by rw [HSM.out], hw.drewN _⟩
              case measure => simp [intOf]; omega
          · obtain rfl : m = ps.length := by omega
            have U9x : Below w.heap.size w wr := U5.then hw U5.size
            rw [HG4.out]
            go_wp2_with fail
            refine (implTaken_any _ _ _ _ _ _ us ps _ (HUs.out _ hw) (HPp.out _ hw) (fun e => by cases e) (by omega) (by omega)).mono ?_
            rw [HMO.out]
            rintro e y1 ⟨vm, cm, rfl, LM, gb1⟩
            have Y1 := hw.then gb1 hw.size
            have UY1 := U9x.then gb1 U9x.size
            have HM : Hid (∀ W, Below y1.heap.size y1 W → IntS W vm mo.length cm mo) := fun W hW => (LM.below hW).toS
            clear LM
            go_wp2_with fail
            refine (implUsedOk_any _ _ _ _ _ _ ls mo _ (HNs.out _ Y1) (HM.out _ (Below.refl _ _))).mono ?_
            rw [HMU.out]
            rintro e y2 ⟨rfl, gb2⟩
            have Y2 := Y1.then gb2 Y1.size
            have UY2 := UY1.then gb2 UY1.size
            go_wp2_with fail
            refine (implReady_any _ _ _ _ _ _ ls mo _ (HNs.out _ Y2) (HM.out _ gb2)).mono ?_
            rw [HMR.out]
            rintro e y3 ⟨rfl, gb3⟩
            have Y3 := Y2.then gb3 Y2.size
            have UY3 := UY2.then gb3 UY2.size
            go_wp2_with fail
            refine (implReady_any _ _ _ _ _ _ ls us _ (HNs.out _ Y3) (HUs.out _ Y3)).mono ?_
            rw [HR.out]
            rintro e y4 ⟨rfl, gb4⟩
            have UY4 := UY3.then gb4 UY3.size
            have wr1 : IntKind.i64.wrap (R - x) = R - x := by rw [IntKind.wrap_i64]; omega
            go_wp2
            go_ret
            exact ⟨ret_bool (by first | rfl | (simp; done) | simp [wr1]), UY4⟩
    · have hT0' : ¬ ((0 : Int) < (T.length : Int)) := by omega
      clear HAa HBp HTt HCc HDp HnT HnC HTT HDD HNB HUB HL6
      cases q with
      | false =>
        obtain ⟨ePs, hx⟩ := pk_none HQ.out
        rw [HPS.out] at ePs
        have eln : ps.length = 0 := by rw [ePs]; rfl
        rw [HR.out] at hx
        clear HPS HPp HWF
        by_cases c1 : x < 1
        · go_wp2
          go_ret
          exact ⟨ret_bool (by first | (simp; done) | simp [eln]), U18⟩
        · have c2 : R < x := by omega
          go_wp2_with fail
          refine (implReady_any _ _ _ _ _ _ ls us _ (HNs.out _ V18) (HUs.out _ V18)).mono ?_
          rw [HR.out]
          rintro e wz ⟨rfl, hbz⟩
          go_wp2
          go_ret
          exact ⟨ret_bool (by first | (simp; done) | simp [eln]), U18.then hbz U18.size⟩
      | true =>
        have G := pkG_of HQ.out
        rw [HPS.out] at G
        obtain ⟨mo, hmo, hmu, hmr⟩ := G.more
        have HG1 := G.st
        have HG2 := G.mono
        have HG3 := G.bd
        have HG4 : Hid (ptSum ps ps.length = x) := G.sum
        have HMR : Hid (rdF ls mo = R - x) := by unfold Hid; rw [hmr, HR.out]
        have HMU : Hid (usB ls mo = true) := hmu
        have HMO : Hid ((chF us ps 1).getD [] = mo) := by unfold Hid; rw [hmo]; rfl
        have HG1' : Hid (∀ m, m < ps.length → ∃ i : Nat, i < ls.length ∧ (ptg ps m).node = (i : Int) ∧ (ndg ls i).state = 1 ∧ 0 < (ptg ps m).cores ∧ (ptg ps m).cores ≤ 101) := HG1
        have HG2' : Hid (∀ m, m + 1 < ps.length → (ptg ps m).node < (ptg ps (m + 1)).node) := HG2
        have HG3' : Hid (∀ m, m ≤ ps.length → 0 ≤ ptSum ps m ∧ ptSum ps m ≤ 101 * (m : Int)) := HG3
        clear G hmo hmu hmr HG1 HG2 HG3
        go_wp2_with fail
        go_loopw [15, 16] (fun s i wr => ∃ m : Nat, m ≤ ps.length ∧ i = .int .i64 m ∧ s = .int .i64 (ptSum ps m) ∧ Below w5.heap.size w5 wr) (fun _ i _ => ps.length - (intOf i).toNat)
        case atStart => exact ⟨0, by omega, rfl, rfl, V18⟩
        case round =>
          obtain ⟨m, hm, rfl, rfl, hw⟩ := hrel
          by_cases hlt : m < ps.length
          · obtain ⟨i, j1, j2, j3, j4, j5⟩ := HG1'.out m hlt
            have bd0 := HG3'.out m (by omega)
            have hsum : ptSum ps (m + 1) = ptSum ps m + (ptg ps m).cores := rfl
            have ws : IntKind.i64.wrap (ptSum ps m + (ptg ps m).cores) = ptSum ps m + (ptg ps m).cores := by rw [IntKind.wrap_i64]; omega
            obtain ⟨bb, off, ev, hbw, hat⟩ := (HPp.out _ hw).at_ (by omega)
            obtain ⟨bn, offn, en, hbn, nat⟩ := (HNs.out _ hw).at_ (by omega)
            injection en with en; injection en with en1 en2
            subst en1 en2
            obtain ⟨d0, d1⟩ := nat.row (i := i) j1
            have hlt' : (m : Int) < (ps.length : Int) := by omega
            have hil : (i : Int) < (ls.length : Int) := by omega
            have hi0 : (0 : Int) ≤ (i : Int) := by omega
            rw [j3] at d1
            rw [Nat.zero_add] at d0 d1
            have hst : ¬ ((ptg ps m).cores < 1) := by omega
            rcases m with _ | m
            · obtain ⟨p0, p1⟩ := hat.row (i := 0) hlt
              rw [j2] at p0
              simp only [Nat.zero_mul, Nat.add_zero] at p0 p1
              have HSM : Hid (ptSum ps (0 + 1) = ptSum ps 0 + (ptg ps 0).cores) := hsum
              clear hsum nat hat d0
              subst ev
              go_wp2_with fail
              go_region
              go_wp2
              go_roundw
              case rel => exact ⟨0 + 1, by omega, by go_num, by rw [HSM.out], hw.drewN _⟩
              case measure => simp [intOf]; omega
            · obtain ⟨i', k1, k2, k3, k4, k5⟩ := HG1'.out m (by omega)
              have hmono := HG2'.out m hlt
              rw [j2, k2] at hmono
              obtain ⟨p0, p1⟩ := hat.row (i := m + 1) hlt
              obtain ⟨r0, r1⟩ := hat.row (i := m) (by omega)
              rw [j2] at p0
              rw [k2] at r0
              have hnl : ¬ ((i : Int) ≤ (i' : Int)) := by omega
              have wk : IntKind.i64.wrap ((m : Int) + 1 - 1) = (m : Int) := by rw [IntKind.wrap_i64]; omega
              have hm1 : (m : Int) < (ps.length : Int) := by omega
              have hm2 : (m : Int) + 1 < (ps.length : Int) := by omega
              have hm3 : (0 : Int) < (m : Int) + 1 := by omega
              have hm4 : (0 : Int) ≤ (m : Int) + 1 := by omega
              have hnn : ¬ (i ≤ i') := by omega
              have hnd : decide ((i : Int) ≤ (i' : Int)) = false := by simpa using hnl
              have hnd2 : decide (i ≤ i') = false := by simpa using hnn
              have HSM : Hid (ptSum ps (m + 1 + 1) = ptSum ps (m + 1) + (ptg ps (m + 1)).cores) := hsum
              clear hsum nat hat d0 hmono k3 k4 k5
              subst ev
              go_wp2_with fail
              go_region
              go_wp2
              go_roundw
              case rel => exact ⟨m + 1 + 1, by omega, by go_num, by rw [HSM.out], hw.drewN _⟩
              case measure => simp [intOf]; omega
          · obtain rfl : m = ps.length := by omega
            have U9x : Below w.heap.size w wr := U5.then hw U5.size
            rw [HG4.out]
            go_wp2_with fail
            refine (implTaken_any _ _ _ _ _ _ us ps _ (HUs.out _ hw) (HPp.out _ hw) (fun e => by cases e) (by omega) (by omega)).mono ?_
            rw [HMO.out]
            rintro e y1 ⟨vm, cm, rfl, LM, gb1⟩
            have Y1 := hw.then gb1 hw.size
            have UY1 := U9x.then gb1 U9x.size
            have HM : Hid (∀ W, Below y1.heap.size y1 W → IntS W vm mo.length cm mo) := fun W hW => (LM.below hW).toS
            clear LM
            go_wp2_with fail
            refine (implUsedOk_any _ _ _ _ _ _ ls mo _ (HNs.out _ Y1) (HM.out _ (Below.refl _ _))).mono ?_
            rw [HMU.out]
            rintro e y2 ⟨rfl, gb2⟩
            have Y2 := Y1.then gb2 Y1.size
            have UY2 := UY1.then gb2 UY1.size
            go_wp2_with fail
            refine (implReady_any _ _ _ _ _ _ ls mo _ (HNs.out _ Y2) (HM.out _ gb2)).mono ?_
            rw [HMR.out]
            rintro e y3 ⟨rfl, gb3⟩
            have Y3 := Y2.then gb3 Y2.size
            have UY3 := UY2.then gb3 UY2.size
            go_wp2_with fail
            refine (implReady_any _ _ _ _ _ _ ls us _ (HNs.out _ Y3) (HUs.out _ Y3)).mono ?_
            rw [HR.out]
            rintro e y4 ⟨rfl, gb4⟩
            have UY4 := UY3.then gb4 UY3.size
            have wr1 : IntKind.i64.wrap (R - x) = R - x := by rw [IntKind.wrap_i64]; omega
            go_wp2
            go_ret
            exact ⟨ret_bool (by first | rfl | (simp; done) | simp [wr1]), UY4⟩
  · have c0 : decide (4096 < n0) = true := by simpa using hn
    go_enter Try.func10, Try.ntmps10
    go_wp2_with fail
    refine (big_any a0 n0 cap0 _ true c0.symm).mono ?_
    rintro e w' ⟨rfl, hq⟩; have hq' := hq.symm; clear hq; subst hq'
    go_wp2
    go_ret
    exact ⟨rfl, Below.refl _ _⟩

set_option maxRecDepth 100000 in
theorem lifted (os : Os) (started : os.Started) (H : Type) (enc : TypeId × Value → H) :
    ReturnsInHanded {} Try.checked os 10 .any (Rows.fnPickedSpec.pre6 enc Try.prog Try.f10 Rows.fnPickedRow.domain false) (Rows.fnPickedSpec.post enc Try.prog Try.f10 false true false false) := by
  refine returnsInHanded_of_change (C := Try.checked) own started (by kernel_rfl) Try.func10
    (ChangeSpec.witness6 (enc := enc) (C := Try.checked) false ⟨#[], #[.slice none 0 0], []⟩ 8 (by kernel_rfl) (by kernel_rfl) (by kernel_rfl) (by kernel_rfl)) ?_
  intro W base args ds gs before hval0 hW hcnd _
  have hval : ∀ (j : Nat) t v, Try.f10.params[j]? = some t → args[j]? = some v → Value.okWide Try.prog W .any base t v := hval0
  have hW' := hW
  obtain ⟨p, q, hA0, hV, rfl, hfz, hnd⟩ := hW
  have hA : DataW.TrodAll enc Try.prog W 0 (fun _ => true) true Try.f10.params.toList args.toList ds p := hA0
  rw [Try.params10] at hA hval
  obtain ⟨v0, vs0, d0, ds0, p0, q0, hargs, rfl, rfl, h0, r0⟩ := trodAll_cons hA
  obtain ⟨rfl, rfl, rfl⟩ := trodAll_nil r0
  obtain rfl : args = #[v0] := by cases args; simp_all
  obtain ⟨rfl, rfl⟩ := trodVars_none hV
  have k0 := h0
  have lt0 : ∀ x ∈ p0, x.block < W.heap.size := by obtain ⟨m, hm⟩ := k0; exact DataW.trod_lt m _ _ _ hm
  obtain ⟨a0, n0, cap0, z0, rfl, w0⟩ := open_bytes (hval 0 22 v0 rfl rfl) h0
  clear hA0 hval0
  refine (walk a0 n0 cap0 z0 W w0).mono fun e W' ⟨he, bel⟩ => ?_
  subst he
  exact ⟨_, rfl, _, _, _, [], _, [], hW', trodAll_mk1 (shut_bool Try.underlying4 _), (trodAll_cons_mk (Below.trod laidOut (by kernel_rfl) (of_decide_eq_true (by kernel_rfl)) k0 bel lt0) trodAll_mk0), rfl, bel.frame _, fun h => by cases h⟩

theorem over : Rows.fnPickedRow.holds Try.pinned (OpenSpec.ofChange Rows.fnPickedSpec) :=
  OpenClaim.holds_of_wide 10 Try.f10 rfl rfl rfl rfl rfl rfl rfl ⟨rfl, rfl, rfl, rfl, rfl⟩ rfl rfl rfl rfl rfl (by kernel_rfl) Try.func10 (by kernel_rfl)
    (of_decide_eq_true (by kernel_rfl)) (by unfold Func.isWrapper; first | (rw [if_pos (by decide +kernel)]; kernel_rfl) | (rw [if_neg (by decide +kernel)]; exact ⟨rfl, rfl⟩))
    (fun os started H enc _ => lifted os started H enc)

/-- the given statement -/
theorem proved : Rows.FnPickedSaid := over
#print axioms proved
end Go.Proofs.Ytkkbfblgnejonaa.fnPicked
