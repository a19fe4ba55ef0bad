/- For every input that can be read the law FnPlans returns true, and what it was handed reads as before. The frame is the kit's; the opening of the arguments and the walk are ours. -/
import Derived.Test.YtfepkchopndpeaaRows
import Derived.WalkKit
import Derived.ProofKit
import Derived.OpenShut
import Derived.ChangeOld
import Derived.Below
import Derived.Test.YtfepkchopndpeaaPlanI
import Derived.Test.YtfepkchopndpeaaPlanP
import Derived.Test.YtfepkchopndpeaaPlanDr2
import Derived.Test.YtfepkchopndpeaaProfDraw5
import Derived.Test.YtfepkchopndpeaaPkB
import Derived.Test.YtfepkchopndpeaaFit2
import Derived.Test.YtfepkchopndpeaaBytesOpen
import Derived.Deep.RegionHeld3
import Derived.Deep.Cut
import Derived.Deep.CutRange
namespace Go.Proofs.Ytfepkchopndpeaa.fnPlans
open Go.ChangeShapes Go.WideShapes Go.ChangeAt Go.RowKit
open Go.Sort
set_option linter.unusedVariables false

theorem own : ownKnob Try.prog.godebug = none := by kernel_rfl
theorem laidOut : laidOutB Try.prog = true := by kernel_rfl

set_option maxRecDepth 8000 in
set_option maxHeartbeats 16000000 in
theorem walk (a0 : Option Addr) (n0 cap0 : Nat) (z0 : List Int) (w : World) (w0 : IsBytes w a0 n0 cap0 z0) :
    Calls Try.prog 3 #[.slice a0 n0 cap0] w fun e w' => e = .returned (.bool true) ∧ Below w.heap.size w w' := by
  have hmx := w0.mx
  have hle := w0.le
  by_cases hn : n0 ≤ 4096
  · go_enter Try.func3, Try.ntmps3
    go_wp2_with fail
    refine (big_any a0 n0 cap0 _ false (by simpa using hn)).mono ?_
    rintro e w' ⟨rfl, hq⟩; have hq' := hq.symm; clear hq; subst hq'
    go_wp2_with fail
    refine (drawPlanned_any a0 n0 cap0 z0 _ w0 hn).mono ?_
    rintro e w1 ⟨T, v, m, c', ls, g, c, ys, x, rfl, L1, tb, mb, J1, hy, xb, U1⟩
    obtain ⟨W1, hW1⟩ : ∃ W1, W1 = w1.alloc (.cells #[.int .i64 T, .slice v m c'] 26) := ⟨_, rfl⟩
    have b1 : Below w1.heap.size w1 W1 := by rw [hW1]; exact box_below
    have K1 : W1.heap[w1.heap.size]? = some (.cells #[.int .i64 T, .slice v m c'] 26 (0, 0)) := by rw [hW1]; exact heap_alloc_new _ _
    have lK1 : w1.heap.size < W1.heap.size := lt_of_block K1
    have HP : Hid (∀ X, Below W1.heap.size W1 X → X.cell? ⟨w1.heap.size, 0, none⟩ = some (.int .i64 T) ∧ X.cell? ⟨w1.heap.size, 1, none⟩ = some (.slice v m c')) := fun X hX => by
      obtain ⟨x0, x1, _, _⟩ := boxed ((hX.block w1.heap.size lK1).trans K1)
      exact ⟨x0, x1⟩
    have HL : Hid (∀ X, Below W1.heap.size W1 X → LevS X v m c' ls) := fun X hX => (L1.below b1).below hX
    have HJ : Hid (∀ X, Below W1.heap.size W1 X → JobS X (some ⟨g, 0, none⟩) ys.length c ys) := fun X hX => (J1.below b1).below hX
    have UW1 := U1.then b1 U1.size
    have HE : Hid (∀ X, Below W1.heap.size W1 X → Below w.heap.size w X) := fun X hX => UW1.then hX UW1.size
    have hcj := J1.le
    have hcj2 := J1.mx
    clear K1 L1 J1
    obtain ⟨p0, p1⟩ := HP.out _ (Below.refl _ _)
    rw [hW1] at p0 p1
    go_wp2_with fail
    rw [← hW1]
    clear hW1
    clear p0 p1
    generalize hP1 : w1.heap.size = P at HP lK1 ⊢
    clear hP1 b1 U1
    obtain ⟨zs, hzs⟩ : ∃ zs, zs = plF T false ls ys x := ⟨_, rfl⟩
    have HZ : Hid _ := hzs
    refine (implPlanned_any T x v _ m c' ys.length c ls ys _ (HL.out _ (Below.refl _ _)) (HJ.out _ (Below.refl _ _))).mono ?_
    rw [← hzs]
    clear hzs
    rintro e w2 ⟨v2, c2, rfl, hL2, hb2⟩
    have I2 := hL2.toS
    clear hL2
    obtain ⟨p0, p1⟩ := HP.out _ hb2
    go_wp2_with fail
    obtain ⟨ts, hts⟩ : ∃ ts, ts = plF T true ls ys x := ⟨_, rfl⟩
    have HT : Hid _ := hts
    refine (implStrict_any T x v _ m c' ys.length c ls ys _ (HL.out _ hb2) (HJ.out _ hb2)).mono ?_
    rw [← hts]
    clear hts
    rintro e w3 ⟨v3, c3, rfl, hL3, hb3⟩
    have I3 := hL3.toS
    clear hL3 p0 p1
    have V3 := hb2.then hb3 hb2.size
    have I23 := I2.below hb3
    go_wp2_with fail
    refine (drawPlanOk_any a0 n0 cap0 z0 _ (w0.below (HE.out _ V3)) hn).mono ?_
    rintro e w4 ⟨Tb, vb, mb1, cb1, lb, gb, cb, yb, ab, csb, sb, rfl, L4, tb4, mb4, J4, hyb, I4, hsb, hb4⟩
    have V4 := V3.then hb4 V3.size
    have I24 := I23.below hb4
    have I34 := I3.below hb4
    obtain ⟨W4, hW4⟩ : ∃ W4, W4 = w4.alloc (.cells #[.int .i64 Tb, .slice vb mb1 cb1] 26) := ⟨_, rfl⟩
    have b4 : Below w4.heap.size w4 W4 := by rw [hW4]; exact box_below
    have K4 : W4.heap[w4.heap.size]? = some (.cells #[.int .i64 Tb, .slice vb mb1 cb1] 26 (0, 0)) := by rw [hW4]; exact heap_alloc_new _ _
    have lK4 : w4.heap.size < W4.heap.size := lt_of_block K4
    have VW4 := V4.then b4 V4.size
    have HB : Hid (∀ X, Below W4.heap.size W4 X → X.cell? ⟨w4.heap.size, 0, none⟩ = some (.int .i64 Tb) ∧ X.cell? ⟨w4.heap.size, 1, none⟩ = some (.slice vb mb1 cb1)) := fun X hX => by
      obtain ⟨x0, x1, _, _⟩ := boxed ((hX.block w4.heap.size lK4).trans K4)
      exact ⟨x0, x1⟩
    have HLb : Hid (∀ X, Below W4.heap.size W4 X → LevS X vb mb1 cb1 lb) := fun X hX => (L4.below b4).below hX
    have HJb : Hid (∀ X, Below W4.heap.size W4 X → JobS X (some ⟨gb, 0, none⟩) yb.length cb yb) := fun X hX => (J4.below b4).below hX
    have HIb : Hid (∀ X, Below W4.heap.size W4 X → IntS X ab sb.length csb sb) := fun X hX => (I4.below b4).below hX
    have HI2 : Hid (∀ X, Below W4.heap.size W4 X → IntS X v2 zs.length c2 zs) := fun X hX => (I24.below b4).below hX
    have HI3 : Hid (∀ X, Below W4.heap.size W4 X → IntS X v3 ts.length c3 ts) := fun X hX => (I34.below b4).below hX
    clear K4 L4 J4 I4 I24 I34 I2 I3 I23
    obtain ⟨p0, p1⟩ := HB.out _ (Below.refl _ _)
    rw [hW4] at p0 p1
    go_wp2_with fail
    rw [← hW4]
    clear hW4
    clear p0 p1 b4 hb4 hb3 hb2 V3 V4
    generalize hB4 : w4.heap.size = B at HB lK4 ⊢
    clear hB4
    obtain ⟨an, han⟩ : ∃ an, an = lfF Tb lb yb sb := ⟨_, rfl⟩
    have HAN : Hid _ := han
    refine (implLeft_any Tb vb _ ab mb1 cb1 yb.length cb sb.length csb lb yb sb _ (HLb.out _ (Below.refl _ _)) (HJb.out _ (Below.refl _ _)) (HIb.out _ (Below.refl _ _))).mono ?_
    rw [← han]
    clear han
    rintro e w5 ⟨Tx, vx, nx, cx, bx, rfl, hb5, hA5⟩
    obtain ⟨W5, hW5⟩ : ∃ W5, W5 = w5.alloc (.cells #[.int .i64 Tx, .slice vx nx cx] 26) := ⟨_, rfl⟩
    have b5 : Below w5.heap.size w5 W5 := by rw [hW5]; exact box_below
    have K5 : W5.heap[w5.heap.size]? = some (.cells #[.int .i64 Tx, .slice vx nx cx] 26 (0, 0)) := by rw [hW5]; exact heap_alloc_new _ _
    have lK5 : w5.heap.size < W5.heap.size := lt_of_block K5
    have V5 := hb5.then b5 hb5.size
    have VW5 := VW4.then V5 VW4.size
    go_wp2_with fail
    rw [← hW5]
    clear hW5
    refine (drawMakespan_any a0 n0 cap0 z0 _ (w0.below (HE.out _ VW5)) hn).mono ?_
    rintro e w6 ⟨gd, cd, yd, ad, csd, sd, rfl, J6, hyd, I6, hsd, hb6⟩
    have V56 := V5.then hb6 V5.size
    have V6 := VW5.then hb6 VW5.size
    have hXE : Hid (an.isSome = bx) := by
      cases an with
      | none => rw [hA5.1]; rfl
      | some l => rw [hA5.1]; rfl
    have RP : Hid (∀ X, Below w6.heap.size w6 X → X.cell? ⟨P, 0, none⟩ = some (.int .i64 T) ∧ X.cell? ⟨P, 1, none⟩ = some (.slice v m c')) := fun X hX => HP.out X (V6.then hX V6.size)
    have RL : Hid (∀ X, Below w6.heap.size w6 X → LevS X v m c' ls) := fun X hX => HL.out X (V6.then hX V6.size)
    have RJ : Hid (∀ X, Below w6.heap.size w6 X → JobS X (some ⟨g, 0, none⟩) ys.length c ys) := fun X hX => HJ.out X (V6.then hX V6.size)
    have RE : Hid (∀ X, Below w6.heap.size w6 X → Below w.heap.size w X) := fun X hX => HE.out X (V6.then hX V6.size)
    have RB : Hid (∀ X, Below w6.heap.size w6 X → X.cell? ⟨B, 0, none⟩ = some (.int .i64 Tb) ∧ X.cell? ⟨B, 1, none⟩ = some (.slice vb mb1 cb1)) := fun X hX => HB.out X (V56.then hX V56.size)
    have RLb : Hid (∀ X, Below w6.heap.size w6 X → LevS X vb mb1 cb1 lb) := fun X hX => HLb.out X (V56.then hX V56.size)
    have RJb : Hid (∀ X, Below w6.heap.size w6 X → JobS X (some ⟨gb, 0, none⟩) yb.length cb yb) := fun X hX => HJb.out X (V56.then hX V56.size)
    have RIb : Hid (∀ X, Below w6.heap.size w6 X → IntS X ab sb.length csb sb) := fun X hX => HIb.out X (V56.then hX V56.size)
    have R2 : Hid (∀ X, Below w6.heap.size w6 X → IntS X v2 zs.length c2 zs) := fun X hX => HI2.out X (V56.then hX V56.size)
    have R3 : Hid (∀ X, Below w6.heap.size w6 X → IntS X v3 ts.length c3 ts) := fun X hX => HI3.out X (V56.then hX V56.size)
    have RJd : Hid (∀ X, Below w6.heap.size w6 X → JobS X (some ⟨gd, 0, none⟩) yd.length cd yd) := fun X hX => J6.below hX
    have RId : Hid (∀ X, Below w6.heap.size w6 X → IntS X ad sd.length csd sd) := fun X hX => I6.below hX
    have RX : Hid (∀ X, Below w6.heap.size w6 X → X.cell? ⟨w5.heap.size, 0, none⟩ = some (.int .i64 Tx) ∧ X.cell? ⟨w5.heap.size, 1, none⟩ = some (.slice vx nx cx)) := fun X hX => by
      obtain ⟨x0, x1, _, _⟩ := boxed ((hX.block w5.heap.size (Nat.lt_of_lt_of_le lK5 hb6.size)).trans ((hb6.block w5.heap.size lK5).trans K5))
      exact ⟨x0, x1⟩
    have RXL : Hid (∀ X, Below w6.heap.size w6 X → XAns X Tb Tx vx nx cx bx an) := fun X hX => xans hA5 HAN.out ((b5.then hb6 b5.size).then hX (b5.then hb6 b5.size).size)
    generalize hX5 : w5.heap.size = XB at RX ⊢
    clear hX5 hA5 HP HL HJ HE HB HLb HJb HIb HI2 HI3 J6 I6 K5 lK5 V5 VW5 V56 V6 hb5 hb6 b5 VW4 UW1
    have S0 : Below w6.heap.size w6 w6 := Below.refl _ _
    have HKK : Hid (∀ X, Below w6.heap.size w6 X → (Below w6.heap.size w6 X ∧ X.cell? ⟨P, 0, none⟩ = some (.int .i64 T) ∧ X.cell? ⟨P, 1, none⟩ = some (.slice v m c') ∧ X.cell? ⟨B, 0, none⟩ = some (.int .i64 Tb) ∧ X.cell? ⟨B, 1, none⟩ = some (.slice vb mb1 cb1))) := fun X hX => by
      obtain ⟨x0, x1⟩ := RP.out X hX
      obtain ⟨y0, y1⟩ := RB.out X hX
      exact ⟨hX, x0, x1, y0, y1⟩
    have KB : ∀ X, (Below w6.heap.size w6 X ∧ X.cell? ⟨P, 0, none⟩ = some (.int .i64 T) ∧ X.cell? ⟨P, 1, none⟩ = some (.slice v m c') ∧ X.cell? ⟨B, 0, none⟩ = some (.int .i64 Tb) ∧ X.cell? ⟨B, 1, none⟩ = some (.slice vb mb1 cb1)) → Below w6.heap.size w6 X := fun _ h => h.1
    obtain ⟨bs, hbs⟩ : ∃ bs, bs = an.isSome := ⟨_, rfl⟩
    have HBS : Hid (bs = an.isSome) := hbs
    clear hbs
    obtain ⟨mk, hmk⟩ : ∃ mk, mk = mkF yd sd := ⟨_, rfl⟩
    have HMK : Hid (mk = mkF yd sd) := hmk
    clear hmk
    have CP : Hid (∀ X, Below w6.heap.size w6 X → Calls Try.prog 12 #[.agg #[.int .i64 T, .slice v m c'], .slice (some ⟨g, 0, none⟩) ys.length c, .int .i64 x] X fun e w' => ∃ (a : Option Addr) (k : Nat), e = .returned (.slice a zs.length k) ∧ IntS w' a zs.length k zs ∧ Below X.heap.size X w') := fun X hX => by
      refine (specPlanned_any T x v _ m c' ys.length c ls ys _ (RL.out _ hX) (RJ.out _ hX)).mono ?_
      rw [← HZ.out]
      rintro e w' ⟨u, rfl, hO, hb⟩
      obtain ⟨a, k, rfl, hL⟩ := hO.toL
      exact ⟨a, k, rfl, hL.toS, hb⟩
    have CS : Hid (∀ X, Below w6.heap.size w6 X → Calls Try.prog 13 #[.agg #[.int .i64 T, .slice v m c'], .slice (some ⟨g, 0, none⟩) ys.length c, .int .i64 x] X fun e w' => ∃ (a : Option Addr) (k : Nat), e = .returned (.slice a ts.length k) ∧ IntS w' a ts.length k ts ∧ Below X.heap.size X w') := fun X hX => by
      refine (specStrict_any T x v _ m c' ys.length c ls ys _ (RL.out _ hX) (RJ.out _ hX)).mono ?_
      rw [← HT.out]
      rintro e w' ⟨u, rfl, hO, hb⟩
      obtain ⟨a, k, rfl, hL⟩ := hO.toL
      exact ⟨a, k, rfl, hL.toS, hb⟩
    have CO1 : Hid (∀ X, Below w6.heap.size w6 X → Calls Try.prog 14 #[.agg #[.int .i64 Tb, .slice vb mb1 cb1], .slice (some ⟨gb, 0, none⟩) yb.length cb, .slice ab sb.length csb] X fun e w' => e = .returned (.bool bs) ∧ Below X.heap.size X w') := fun X hX => by
      have := implPlanOk_any Tb vb _ ab mb1 cb1 yb.length cb sb.length csb lb yb sb _ (RLb.out _ hX) (RJb.out _ hX) (RIb.out _ hX)
      rwa [← HAN.out, ← HBS.out] at this
    have CO2 : Hid (∀ X, Below w6.heap.size w6 X → Calls Try.prog 15 #[.agg #[.int .i64 Tb, .slice vb mb1 cb1], .slice (some ⟨gb, 0, none⟩) yb.length cb, .slice ab sb.length csb] X fun e w' => e = .returned (.bool bs) ∧ Below X.heap.size X w') := fun X hX => by
      have := specPlanOk_any Tb vb _ ab mb1 cb1 yb.length cb sb.length csb lb yb sb _ (RLb.out _ hX) (RJb.out _ hX) (RIb.out _ hX)
      rwa [← HAN.out, ← HBS.out] at this
    have CM1 : Hid (∀ X, Below w6.heap.size w6 X → Calls Try.prog 16 #[.slice (some ⟨gd, 0, none⟩) yd.length cd, .slice ad sd.length csd] X fun e w' => e = .returned (.int .i64 mk) ∧ Below X.heap.size X w') := fun X hX => by
      have := implMakespan_any _ ad yd.length cd sd.length csd yd sd _ (RJd.out _ hX) (RId.out _ hX)
      rwa [← HMK.out] at this
    have CM2 : Hid (∀ X, Below w6.heap.size w6 X → Calls Try.prog 17 #[.slice (some ⟨gd, 0, none⟩) yd.length cd, .slice ad sd.length csd] X fun e w' => e = .returned (.int .i64 mk) ∧ Below X.heap.size X w') := fun X hX => by
      have := specMakespan_any _ ad yd.length cd sd.length csd yd sd _ (RJd.out _ hX) (RId.out _ hX)
      rwa [← HMK.out] at this
    go_upto_region 9 with fail
    go_cut [95] from 60 to 95 (fun s95 wx => s95 = .bool false ∧ Below w6.heap.size w6 wx)
    case first =>
      obtain ⟨_, k0, k1, k2, k3⟩ := HKK.out _ S0
      go_region_held3 (fun X => Below w6.heap.size w6 X ∧ X.cell? ⟨P, 0, none⟩ = some (.int .i64 T) ∧ X.cell? ⟨P, 1, none⟩ = some (.slice v m c') ∧ X.cell? ⟨B, 0, none⟩ = some (.int .i64 Tb) ∧ X.cell? ⟨B, 1, none⟩ = some (.slice vb mb1 cb1)) ((refine HKK.out _ ?_; first | with_reducible exact S8 | with_reducible exact S7 | with_reducible exact S6 | with_reducible exact S5 | with_reducible exact S4 | with_reducible exact S3 | with_reducible exact S2 | with_reducible exact S1 | with_reducible exact S0.drew | with_reducible exact S0)) (first
        | (go_at_call 12; refine (CP.out _ (KB _ (by assumption))).mono ?_; rintro e wa ⟨qa, qk, rfl, QI, hba⟩; have S1 : Below w6.heap.size w6 wa := (KB _ (by assumption)).then hba (KB _ (by assumption)).size; clear hba)
        | (go_at_call 11; (with_reducible change Calls _ _ #[.slice v2 zs.length c2, .slice qa zs.length qk] _ _); refine (likeInts_same6 v2 qa zs.length c2 qk zs _ (R2.out _ S1) QI).mono ?_; rintro e wb ⟨rfl, hbb⟩; have S2 : Below w6.heap.size w6 wb := S1.then hbb S1.size; clear hbb QI)
        | (go_at_call 13; refine (CS.out _ (KB _ (by assumption))).mono ?_; rintro e wc9 ⟨ra, rk, rfl, RI, hbc⟩; have S3 : Below w6.heap.size w6 wc9 := (KB _ (by assumption)).then hbc (KB _ (by assumption)).size; clear hbc)
        | (go_at_call 11; (with_reducible change Calls _ _ #[.slice v3 ts.length c3, .slice ra ts.length rk] _ _); refine (likeInts_same6 v3 ra ts.length c3 rk ts _ (R3.out _ S3) RI).mono ?_; rintro e wd ⟨rfl, hbd⟩; have S4 : Below w6.heap.size w6 wd := S3.then hbd S3.size; clear hbd RI)
        | (go_at_call 14; refine (CO1.out _ (KB _ (by assumption))).mono ?_; rintro e we ⟨rfl, hbe⟩; have S5 : Below w6.heap.size w6 we := (KB _ (by assumption)).then hbe (KB _ (by assumption)).size; clear hbe)
        | (go_at_call 15; refine (CO2.out _ (KB _ (by assumption))).mono ?_; rintro e wf ⟨rfl, hbf⟩; have S6 : Below w6.heap.size w6 wf := (KB _ (by assumption)).then hbf (KB _ (by assumption)).size; clear hbf)
        | (go_at_call 16; refine (CM1.out _ (KB _ (by assumption))).mono ?_; rintro e wg ⟨rfl, hbg⟩; have S7 : Below w6.heap.size w6 wg := (KB _ (by assumption)).then hbg (KB _ (by assumption)).size; clear hbg)
        | (go_at_call 17; refine (CM2.out _ (KB _ (by assumption))).mono ?_; rintro e wh ⟨rfl, hbh⟩; have S8 : Below w6.heap.size w6 wh := (KB _ (by assumption)).then hbh (KB _ (by assumption)).size; clear hbh))
      all_goals
        go_wp2_with fail
        go_meet
        first | exact ⟨rfl, S8⟩ | exact ⟨_, ⟨rfl, S8⟩, rfl⟩ | ((repeat apply Exists.intro); exact ⟨⟨rfl, S8⟩, rfl⟩)
    case rest =>
      obtain ⟨rfl, B7⟩ := hcut
      clear CP CS CO1 CO2 CM1 CM2 HKK KB S0
      have z7 := B7.size
      obtain ⟨p0, p1⟩ := RB.out _ B7
      have hsp := specLeft_any Tb vb _ ab mb1 cb1 yb.length cb sb.length csb lb yb sb _ (RLb.out _ B7) (RJb.out _ B7) (RIb.out _ B7)
      rw [← HAN.out] at hsp
      have HSP : Hid (Calls Try.prog 18 #[.agg #[.int .i64 Tb, .slice vb mb1 cb1], .slice (some ⟨gb, 0, none⟩) yb.length cb, .slice ab sb.length csb] wc fun e w' => ∃ (T' : Int) (v : Option Addr) (n' c' : Nat) (b : Bool), e = .returned (.tuple #[.agg #[.int .i64 T', .slice v n' c'], .bool b]) ∧ Below wc.heap.size wc w' ∧ LfAns wc w' Tb T' v n' c' b an) := hsp
      clear hsp
      go_wp2_with fail
      refine HSP.out.mono ?_
      rintro e w8 ⟨Ty, vy, ny, cy, byy, rfl, hb8, hA8⟩
      have B8 := B7.then hb8 B7.size
      obtain ⟨W8, hW8⟩ : ∃ W8, W8 = w8.alloc (.cells #[.int .i64 Ty, .slice vy ny cy] 26) := ⟨_, rfl⟩
      have b8 : Below w8.heap.size w8 W8 := by rw [hW8]; exact box_below
      have K8 : W8.heap[w8.heap.size]? = some (.cells #[.int .i64 Ty, .slice vy ny cy] 26 (0, 0)) := by rw [hW8]; exact heap_alloc_new _ _
      have BW8 := B8.then b8 B8.size
      have hXY : XAns W8 Tb Ty vy ny cy byy an := xans hA8 HAN.out b8
      have hXX : XAns W8 Tb Tx vx nx cx bx an := RXL.out _ BW8
      have HLK : Hid (Calls Try.prog 19 #[.agg #[.int .i64 Tx, .slice vx nx cx], .agg #[.int .i64 Ty, .slice vy ny cy]] W8 fun e w' => e = .returned (.bool true) ∧ Below W8.heap.size W8 w') := by
        cases an with
        | none =>
          obtain ⟨_, rfl, rfl, rfl, rfl⟩ := hXX
          obtain ⟨_, rfl, rfl, rfl, rfl⟩ := hXY
          exact likeProfile_same 0 none none 0 0 0 [] _ (LevS.nil_ _) (LevS.nil_ _)
        | some l =>
          obtain ⟨_, rfl, rfl, q1⟩ := hXX
          obtain ⟨_, rfl, rfl, q2⟩ := hXY
          exact likeProfile_same _ _ _ _ _ _ l _ q1 q2
      have hbb : byy = bx := by
        cases an with
        | none => rw [hXX.1, hXY.1]
        | some l => rw [hXX.1, hXY.1]
      clear hXX hXY hA8 hb8
      subst hbb
      have HC3 : Hid (∀ X, Below w6.heap.size w6 X → Calls Try.prog 14 #[.agg #[.int .i64 Tb, .slice vb mb1 cb1], .slice (some ⟨gb, 0, none⟩) yb.length cb, .slice ab sb.length csb] X fun e w' => e = .returned (.bool byy) ∧ Below X.heap.size X w') := fun X hX => by
        have := implPlanOk_any Tb vb _ ab mb1 cb1 yb.length cb sb.length csb lb yb sb _ (RLb.out _ hX) (RJb.out _ hX) (RIb.out _ hX)
        rwa [← HAN.out, hXE.out] at this
      obtain ⟨x0, x1⟩ := RX.out _ BW8
      obtain ⟨y0, y1, _, _⟩ := boxed K8
      rw [hW8] at x0 x1 y0 y1
      clear p0 p1
      go_wp2_with fail
      rw [← hW8]
      clear hW8
      clear x0 x1 y0 y1
      refine HLK.out.mono ?_
      rintro e w9 ⟨rfl, hb9⟩
      have B9 := BW8.then hb9 BW8.size
      obtain ⟨p0, p1⟩ := RB.out _ B9
      go_wp2_with fail
      refine (HC3.out _ B9).mono ?_
      rintro e w10 ⟨rfl, hb10⟩
      have B10 := B9.then hb10 B9.size
      clear p0 p1 HLK HC3 hb9 hb10 K8 b8 BW8 B8 B9 B7 z7 HSP RB RLb RJb RIb RX RXL hXE HAN HBS HMK RJd RId
      by_cases hz0 : zs.length = 0
      · have ht0 : ts.length = 0 := by rw [HT.out, plF_len T ls ys x true false, ← HZ.out]; exact hz0
        have hz0' : ((zs.length : Int) == 0) = true := by rw [hz0]; rfl
        have ht0' : ((ts.length : Int) == 0) = true := by rw [ht0]; rfl
        have HZ0 : Hid (zs.length = 0) := hz0
        clear hz0 ht0
        go_wp2
        go_ret
        exact ⟨rfl, RE.out _ B10⟩
      · have hz0' : ((zs.length : Int) == 0) = false := by
          rw [Bool.eq_false_iff]; intro h9; have := eq_of_beq h9; omega
        have PF : PlF T false ls ys x zs := by
          have := plF_all (T := T) (st := false) (ls := ls) (js := ys) (now := x) (by rw [← HZ.out]; omega)
          rwa [← HZ.out] at this
        have PT : PlF T true ls ys x ts := by
          have := plF_all (T := T) (st := true) (ls := ls) (js := ys) (now := x) (by rw [plF_len T ls ys x true false, ← HZ.out]; omega)
          rwa [← HT.out] at this
        have hzl : Hid (zs.length = ys.length) := PF.len
        have htl : Hid (ts.length = ys.length) := PT.len
        have hn40 := PF.js_.n
        have hne : ((zs.length : Int) != (ys.length : Int)) = false := by rw [hzl.out]; simp
        have HPF : Hid _ := PF
        have HPT : Hid _ := PT
        obtain ⟨x0, x1⟩ : 0 ≤ x ∧ x ≤ 1000000000 := ⟨PF.ok.n0, PF.ok.n1⟩
        clear PF PT
        have hy0 : 0 < ys.length := by have := hzl.out; omega
        obtain ⟨b2, off2, rfl, _, _⟩ := (R2.out _ B10).at_ (by omega)
        obtain ⟨b3, off3, rfl, _, _⟩ := (R3.out _ B10).at_ (by rw [htl.out]; exact hy0)
        clear hz0
        obtain ⟨p0, p1⟩ := RP.out _ B10
        go_wp2_with fail
        refine (implPlanOk_any T v _ _ m c' ys.length c zs.length c2 ls ys zs _ (RL.out _ B10) (RJ.out _ B10) (R2.out _ B10)).mono ?_
        rw [HPF.out.lf, Option.isSome_some]
        rintro e w11 ⟨rfl, hb11⟩
        have B11 := B10.then hb11 B10.size
        clear p0 p1
        obtain ⟨p0, p1⟩ := RP.out _ B11
        go_wp2_with fail
        refine (implPlanOk_any T v _ _ m c' ys.length c ts.length c3 ls ys ts _ (RL.out _ B11) (RJ.out _ B11) (R3.out _ B11)).mono ?_
        rw [HPT.out.lf, Option.isSome_some]
        rintro e w12 ⟨rfl, hb12⟩
        have B12 := B11.then hb12 B11.size
        clear p0 p1
        have hw1 : IntKind.i64.wrap ((ys.length : Int) + 1) = (ys.length : Int) + 1 := by rw [IntKind.wrap_i64]; omega
        go_wp2_with fail
        refine (pick_any a0 n0 cap0 z0 1 ((ys.length : Int) + 1) _ (w0.below (RE.out _ B12)) hn (by omega) (by omega) (by omega) (by omega)).mono ?_
        rintro e w' ⟨nn, rfl, hn1, hn2, hq⟩
        have hq' := hq.symm
        clear hq
        subst hq'
        obtain ⟨k, rfl⟩ : ∃ k : Nat, nn = k := ⟨nn.toNat, by omega⟩
        have hk : k ≤ ys.length := by omega
        have hkc : (k : Int) ≤ (c : Int) := by omega
        have hk0 : (0 : Int) ≤ (k : Int) := by omega
        have hc2 := (R2.out _ B10).le
        have hkc2 : (k : Int) ≤ (c2 : Int) := by have := hzl.out; omega
        have hkl : (zs.take k).length = k := by rw [List.length_take]; have := hzl.out; omega
        have CP : Hid (∀ X, Below w6.heap.size w6 X → Calls Try.prog 6 #[.agg #[.int .i64 T, .slice v m c'], .slice (some ⟨g, 0, none⟩) k c, .int .i64 x] X fun e w' => ∃ (a : Option Addr) (q : Nat), e = .returned (.slice a k q) ∧ IntS w' a k q (zs.take k) ∧ Below X.heap.size X w') := fun X hX => by
          refine (implPlanned_any T x v _ m c' k c ls (ys.take k) _ (RL.out _ hX) ((RJ.out _ hX).pre hk)).mono ?_
          rw [HPF.out.take hk]
          rintro e w' ⟨a, q, rfl, hL, hb⟩
          have h9 := hL.toS
          rw [hkl] at h9 ⊢
          exact ⟨a, q, rfl, h9, hb⟩
        have R2k : Hid (∀ X, Below w6.heap.size w6 X → IntS X (some ⟨b2, off2, none⟩) k c2 (zs.take k)) := fun X hX => (R2.out X hX).pre (by have := hzl.out; omega)
        clear hkl
        have S0 := B12
        have HKK : Hid (∀ X, Below w6.heap.size w6 X → (Below w6.heap.size w6 X ∧ X.cell? ⟨P, 0, none⟩ = some (.int .i64 T) ∧ X.cell? ⟨P, 1, none⟩ = some (.slice v m c'))) := fun X hX => by
          obtain ⟨x0, x1⟩ := RP.out X hX
          exact ⟨hX, x0, x1⟩
        have KB : ∀ X, (Below w6.heap.size w6 X ∧ X.cell? ⟨P, 0, none⟩ = some (.int .i64 T) ∧ X.cell? ⟨P, 1, none⟩ = some (.slice v m c')) → Below w6.heap.size w6 X := fun _ h => h.1
        go_upto_region 19 with fail
        go_cut [160] from 150 to 160 (fun s wx => s = .bool false ∧ Below w6.heap.size w6 wx)
        case first =>
          obtain ⟨p0, p1⟩ := RP.out _ B12
          go_region_held3 (fun X => Below w6.heap.size w6 X ∧ X.cell? ⟨P, 0, none⟩ = some (.int .i64 T) ∧ X.cell? ⟨P, 1, none⟩ = some (.slice v m c')) ((refine HKK.out _ ?_; first | with_reducible exact S2 | with_reducible exact S1 | with_reducible exact S0.drew | with_reducible exact S0)) (first
            | (go_at_call 6; refine (CP.out _ (KB _ (by assumption))).mono ?_; rintro e wa ⟨qa, qk, rfl, QI, hba⟩; have S1 : Below w6.heap.size w6 wa := (KB _ (by assumption)).then hba (KB _ (by assumption)).size; clear hba)
            | (go_at_call 11; refine (likeInts_same6 qa _ k qk c2 (zs.take k) _ QI (R2k.out _ S1)).mono ?_; rintro e wb ⟨rfl, hbb⟩; have S2 : Below w6.heap.size w6 wb := S1.then hbb S1.size; clear hbb QI))
          all_goals
            go_wp2_with fail
            go_meet
            first | exact ⟨rfl, S2⟩ | exact ⟨_, ⟨rfl, S2⟩, rfl⟩ | ((repeat apply Exists.intro); exact ⟨⟨rfl, S2⟩, rfl⟩)
        case rest =>
          obtain ⟨rfl, B13⟩ := hcut
          clear CP R2k HKK KB S0 hkc hk0 hc2 hkc2 hk hn1 hn2 hw1 hne
          go_wp2
          go_loopw [18, 19] (fun la i wr => ∃ k1 : Nat, k1 ≤ ts.length ∧ i = .int .i64 k1 ∧ la = .int .i64 (nowK T true ls x ys k1) ∧ Hid (Below w6.heap.size w6 wr)) (fun _ i _ => ts.length - (intOf i).toNat)
          case atStart => exact ⟨0, by omega, rfl, rfl, B13⟩
          case round =>
            obtain ⟨k1, hk1, rfl, rfl, HW⟩ := hrel
            rename World => wr
            by_cases hlt : k1 < ts.length
            · have hlt' : (k1 : Int) < (ts.length : Int) := by omega
              have hly : k1 < ys.length := by rw [← htl.out]; exact hlt
              obtain ⟨b, off, hb', hbw, hat⟩ := (R3.out _ HW.out).at_ (by omega)
              injection hb' with hb'; injection hb' with hb' ho' _; subst hb' ho'
              have s0 := hat k1 hlt
              clear hat hbw
              obtain ⟨s, hs⟩ : ∃ s, s = zg ts k1 := ⟨_, rfl⟩
              rw [← hs] at s0
              have E : Hid (s = at10 T true ls x ys k1) := hs.trans (HPT.out.at_ k1 hly)
              clear hs
              by_cases c1 : 0 ≤ s
              · by_cases c2' : s < 1000000000
                · obtain ⟨h1, h2⟩ := strict_now HPT.out.ok k1 (by rw [← E.out]; exact c1) (by rw [← E.out]; exact c2')
                  rw [← E.out] at h1 h2
                  obtain ⟨la, hla⟩ : ∃ la, la = nowK T true ls x ys k1 := ⟨_, rfl⟩
                  rw [← hla] at h1 ⊢
                  clear hla
                  have hN : Hid (nowK T true ls x ys (k1 + 1) = s) := h2
                  have hge : ¬ s < la := by omega
                  clear h2
                  go_wp2
                  go_roundw
                  case rel => exact ⟨k1 + 1, by omega, by go_num, by rw [hN.out], HW.out⟩
                  case measure => simp [intOf]; omega
                · have hN : Hid (nowK T true ls x ys (k1 + 1) = nowK T true ls x ys k1) := strict_stay k1 (by rw [← E.out]; omega)
                  go_wp2
                  go_roundw
                  case rel => exact ⟨k1 + 1, by omega, by go_num, by rw [hN.out], HW.out⟩
                  case measure => simp [intOf]; omega
              · have hN : Hid (nowK T true ls x ys (k1 + 1) = nowK T true ls x ys k1) := strict_stay k1 (by rw [← E.out]; omega)
                go_wp2
                go_roundw
                case rel => exact ⟨k1 + 1, by omega, by go_num, by rw [hN.out], HW.out⟩
                case measure => simp [intOf]; omega
            · obtain ⟨p0, p1⟩ := RP.out _ HW.out
              obtain ⟨W14, hW14⟩ : ∃ W14, W14 = wr.alloc (.cells #[.int .i64 T, .slice v m c'] 26) := ⟨_, rfl⟩
              have H14 : LbW w6 W14 wr.heap.size T v m c' ls := by
                rw [hW14]
                refine ⟨HW.out.alloc HW.out.size _, heap_alloc_new _ _, RL.out _ (HW.out.alloc HW.out.size _), fun b off e => ?_, HW.out.size⟩
                have hl := RL.out _ HW.out
                obtain ⟨b9, off9, e9, h9, _⟩ := hl.at_ (by have := HPF.out.po.n1; have := hl.len; omega)
                rw [e9] at e; cases e
                omega
              have HH14 : Hid _ := H14
              clear H14
              have hlt' : ¬ (k1 : Int) < (ts.length : Int) := by omega
              clear hlt hk1
              go_wp2
              rw [← hW14]
              clear hW14 p0 p1
              generalize hLb : wr.heap.size = Lb at HH14 ⊢
              clear hLb
              go_loopw [21] (fun i wq => ∃ (k2 : Nat) (u : Option Addr) (n' c9 : Nat), k2 ≤ ys.length ∧ i = .int .i64 k2 ∧ Hid (LbW w6 wq Lb T u n' c9 (lefK T false ls x ys k2))) (fun i _ => ys.length - (intOf i).toNat)
              case atStart => exact ⟨0, v, m, c', by omega, rfl, HH14.out⟩
              case round =>
                obtain ⟨k2, u, n', c9, hk2, rfl, HW2⟩ := hrel
                rename World => wq
                clear HH14 HW
                by_cases hlt2 : k2 < ys.length
                · have hlt2' : (k2 : Int) < (ys.length : Int) := by omega
                  have hltz : (k2 : Int) < (zs.length : Int) := by rw [hzl.out]; omega
                  have HBq : Hid (Below w6.heap.size w6 wq) := HW2.out.bel
                  obtain ⟨b, off, hb', hbw2, hat2⟩ := (R2.out _ HBq.out).at_ (by rw [hzl.out]; omega)
                  injection hb' with hb'; injection hb' with hb' ho' _; subst hb' ho'
                  have s0 := hat2 k2 (by rw [hzl.out]; exact hlt2)
                  obtain ⟨b, off, hb', hbw, hat⟩ := (RJ.out _ HBq.out).at_ (by omega)
                  injection hb' with hb'; injection hb' with hb' ho' _; subst hb' ho'
                  obtain ⟨hc0, hc1, hc2, hc3, hc4, hc5, hc6'⟩ := hat.job (i := k2) hlt2
                  simp only [Nat.zero_add] at hc0 hc1 hc2 hc3 hc4 hc5 hc6'
                  clear hat hat2 hc0 hc3 hc4 hc5 hc6'
                  obtain ⟨p0, p1⟩ := RP.out _ HBq.out
                  obtain ⟨q0, q1, _, _⟩ := boxed HW2.out.box
                  obtain ⟨s, hs⟩ : ∃ s, s = zg zs k2 := ⟨_, rfl⟩
                  have HS : Hid (s = zg zs k2) := hs
                  rw [← hs] at s0
                  clear hs
                  by_cases c1 : s < 0
                  · obtain ⟨hT, hN⟩ := plan_none HPF.out hlt2 (by rw [← HS.out]; exact c1)
                    have HN : Hid (lefK T false ls x ys (k2 + 1) = lefK T false ls x ys k2) := hN
                    have hd : ¬ (jg ys k2).cores ≤ T := by omega
                    clear hN q0 q1
                    go_upto_region 34 with fail
                    go_quiet (fail)
                    go_wp2
                    go_roundw
                    case rel => exact ⟨k2 + 1, u, n', c9, by omega, by go_num, by unfold Hid; rw [HN.out]; exact HW2.out.below ((Below.refl _ _).drewN _)⟩
                    case measure => simp [intOf]; omega
                  · by_cases c2' : s < 1000000000
                    · obtain ⟨f1, f2, f3, f4⟩ := plan_fits HPF.out hlt2 (by rw [← HS.out]; omega) (by rw [← HS.out]; exact c2')
                      rw [← HS.out] at f1 f2 f3 f4
                      obtain ⟨L', hL'⟩ : ∃ L', L' = lefK T false ls x ys k2 := ⟨_, rfl⟩
                      have HPL : Hid (PO T L') := by unfold Hid; rw [hL']; exact (HPF.out.ok.all (st := false) (js := ys) k2).po
                      rw [← hL'] at f2 f3 f4 HW2
                      clear hL'
                      have HF2 : Hid _ := f2
                      have HF3 : Hid _ := f3
                      have HF4 : Hid _ := f4
                      clear f2 f3 f4
                      have hge : ¬ s < x := by omega
                      have CF : Hid (∀ X, Below wq.heap.size wq X → Calls Try.prog 21 #[.agg #[.int .i64 T, .slice u n' c9], .int .i64 x, .int .i64 (jg ys k2).long, .int .i64 (jg ys k2).cores] X fun e w' => e = .returned (.int .i64 s) ∧ Below X.heap.size X w') := fun X hX => by
                        have := specFit_any T x (jg ys k2).long (jg ys k2).cores u n' c9 L' X (HW2.out.below hX).lev
                        rwa [HF2.out] at this
                      have S0 : Below wq.heap.size wq wq := Below.refl _ _
                      have HKK : Hid (∀ X, Below wq.heap.size wq X → (Below wq.heap.size wq X ∧ X.cell? ⟨Lb, 0, none⟩ = some (.int .i64 T) ∧ X.cell? ⟨Lb, 1, none⟩ = some (.slice u n' c9) ∧ X.cell? ⟨b2, off2 + k2, none⟩ = some (.int .i64 s) ∧ X.cell? ⟨g, k2 * 7 + 1, none⟩ = some (.int .i64 (jg ys k2).cores) ∧ X.cell? ⟨g, k2 * 7 + 2, none⟩ = some (.int .i64 (jg ys k2).long))) := fun X hX => by
                        obtain ⟨x0, x1, _, _⟩ := boxed (HW2.out.below hX).box
                        exact ⟨hX, x0, x1, (hX.cell (p := ⟨b2, off2 + k2, none⟩) hbw2).trans s0, (hX.cell (p := ⟨g, k2 * 7 + 1, none⟩) hbw).trans hc1, (hX.cell (p := ⟨g, k2 * 7 + 2, none⟩) hbw).trans hc2⟩
                      have KB : ∀ X, (Below wq.heap.size wq X ∧ X.cell? ⟨Lb, 0, none⟩ = some (.int .i64 T) ∧ X.cell? ⟨Lb, 1, none⟩ = some (.slice u n' c9) ∧ X.cell? ⟨b2, off2 + k2, none⟩ = some (.int .i64 s) ∧ X.cell? ⟨g, k2 * 7 + 1, none⟩ = some (.int .i64 (jg ys k2).cores) ∧ X.cell? ⟨g, k2 * 7 + 2, none⟩ = some (.int .i64 (jg ys k2).long)) → Below wq.heap.size wq X := fun _ h => h.1
                      clear p0 p1
                      go_upto_region 36 with fail
                      go_cut [242] from 210 to 242 (fun sv wx => sv = .bool false ∧ Below wq.heap.size wq wx)
                      case first =>
                        go_region_held3 (fun X => Below wq.heap.size wq X ∧ X.cell? ⟨Lb, 0, none⟩ = some (.int .i64 T) ∧ X.cell? ⟨Lb, 1, none⟩ = some (.slice u n' c9) ∧ X.cell? ⟨b2, off2 + k2, none⟩ = some (.int .i64 s) ∧ X.cell? ⟨g, k2 * 7 + 1, none⟩ = some (.int .i64 (jg ys k2).cores) ∧ X.cell? ⟨g, k2 * 7 + 2, none⟩ = some (.int .i64 (jg ys k2).long)) ((refine HKK.out _ ?_; first | with_reducible exact S1 | with_reducible exact S0.drew | with_reducible exact S0)) (first
                          | (go_at_call 21; refine (CF.out _ (KB _ (by assumption))).mono ?_; rintro e wa ⟨rfl, hba⟩; have S1 : Below wq.heap.size wq wa := (KB _ (by assumption)).then hba (KB _ (by assumption)).size; clear hba))
                        all_goals
                          go_wp2_with fail
                          go_meet
                          first | exact ⟨rfl, S1⟩ | exact ⟨congrArg Value.bool (decide_eq_false hge), S1⟩ | exact ⟨congrArg Value.bool (decide_eq_false (by omega)), S1⟩ | (refine ⟨?_, S1⟩; simp; omega) | exact ⟨_, ⟨rfl, S1⟩, rfl⟩ | ((repeat apply Exists.intro); exact ⟨⟨rfl, S1⟩, rfl⟩)
                      case rest =>
                        obtain ⟨rfl, Bq⟩ := hcut
                        have HW3 : Hid (LbW w6 wc Lb T u n' c9 L') := HW2.out.below Bq
                        have zq := Bq.size
                        have HKK2 : Hid (∀ X, Below wc.heap.size wc X → (Below wc.heap.size wc X ∧ X.cell? ⟨Lb, 0, none⟩ = some (.int .i64 T) ∧ X.cell? ⟨Lb, 1, none⟩ = some (.slice u n' c9) ∧ X.cell? ⟨b2, off2 + k2, none⟩ = some (.int .i64 s) ∧ X.cell? ⟨g, k2 * 7 + 1, none⟩ = some (.int .i64 (jg ys k2).cores) ∧ X.cell? ⟨g, k2 * 7 + 2, none⟩ = some (.int .i64 (jg ys k2).long))) := fun X hX => by
                          obtain ⟨_, h1, h2, h3, h4, h5⟩ := HKK.out X (Bq.then hX Bq.size)
                          exact ⟨hX, h1, h2, h3, h4, h5⟩
                        clear q0 q1 s0 hc1 hc2 CF KB HKK S0 HBq hbw hbw2 HW2 HF2
                        obtain ⟨_, q0, q1, s0, hc1, hc2⟩ := HKK2.out wc (Below.refl _ _)
                        have hs0 : 0 ≤ s := by omega
                        have hcl := jok_cl (HPF.out.js_.ok k2 hlt2).1
                        obtain ⟨lt, hlt9⟩ : ∃ lt, lt = laterI s (jg ys k2).long := ⟨_, rfl⟩
                        have CL : ∀ W, Calls Try.prog 23 #[.int .i64 s, .int .i64 (jg ys k2).long] W fun e w' => e = .returned (.int .i64 lt) ∧ w' = W := fun W => by
                          have := specLater_any s (jg ys k2).long W
                          rwa [face_tt (inB_mk ⟨by omega, by omega⟩) (inB_mk ⟨by omega, by omega⟩), ← hlt9] at this
                        rw [← hlt9] at HF3 HF4
                        clear hlt9
                        obtain ⟨L2, hL2⟩ : ∃ L2, L2 = chgL L' s lt (-(jg ys k2).cores) := ⟨_, rfl⟩
                        have HP2 : Hid (PO T L2) := by
                          unfold Hid; rw [hL2]
                          exact resB_po HF3.out
                        rw [← hL2] at HF4
                        have CR : Hid (∀ X, Below wc.heap.size wc X → Calls Try.prog 22 #[.agg #[.int .i64 T, .slice u n' c9], .int .i64 s, .int .i64 lt, .int .i64 (jg ys k2).cores] X fun e w' => ∃ g9 c10 : Nat, e = .returned (.tuple #[.agg #[.int .i64 T, .slice (some ⟨g9, 0, none⟩) L2.length c10], .bool true]) ∧ Below X.heap.size X w' ∧ X.heap.size ≤ g9 ∧ L2.length ≤ c10 ∧ c10 ≤ maxLen ∧ LevD w' g9 L2.length c10 L2) := fun X hX => by
                          refine (specReserve_any T s lt (jg ys k2).cores u n' c9 L' X (HW3.out.below hX).lev).mono ?_
                          rw [← hL2]
                          rintro e w' ⟨h1, ⟨_, g9, c10, h2, h3, h4, h5, h6⟩ | ⟨h2, _⟩⟩
                          · exact ⟨g9, c10, h2, h1, h3, h4, h5, h6⟩
                          · rw [HF3.out] at h2; cases h2
                        have KB2 : ∀ X, (Below wc.heap.size wc X ∧ X.cell? ⟨Lb, 0, none⟩ = some (.int .i64 T) ∧ X.cell? ⟨Lb, 1, none⟩ = some (.slice u n' c9) ∧ X.cell? ⟨b2, off2 + k2, none⟩ = some (.int .i64 s) ∧ X.cell? ⟨g, k2 * 7 + 1, none⟩ = some (.int .i64 (jg ys k2).cores) ∧ X.cell? ⟨g, k2 * 7 + 2, none⟩ = some (.int .i64 (jg ys k2).long)) → Below wc.heap.size wc X := fun _ h => h.1
                        have HG0 : Hid (Below wc.heap.size wc wc) := Below.refl _ _
                        have HG1 : Hid (Below wc.heap.size wc wc.drew) := (Below.refl _ _).drew
                        have HG2 : Hid (Below wc.heap.size wc (wc.alloc (.cells #[.int .i64 0, .slice none 0 0] 26)).drew) := box_below0.drew
                        have HG3 : Hid (Below wc.heap.size wc (wc.alloc (.cells #[.int .i64 0, .slice none 0 0] 26))) := box_below0
                        clear hL2 hcl
                        go_upto_region 39 with fail
                        go_cut [22, 23] from 248 to 271 (fun sb sf wx => ∃ (bx g9 c10 : Nat), sb = .pointer (some ⟨bx, 0, none⟩) ∧ sf = .bool true ∧ wx.heap[bx]? = some (.cells #[.int .i64 T, .slice (some ⟨g9, 0, none⟩) L2.length c10] 26 (0, 0)) ∧ L2.length ≤ c10 ∧ c10 ≤ maxLen ∧ LevD wx g9 L2.length c10 L2 ∧ wc.heap.size ≤ g9 ∧ wc.heap.size ≤ bx ∧ Below wc.heap.size wc wx)
                        case first =>
                          go_region_held3 (fun X => Below wc.heap.size wc X ∧ X.cell? ⟨Lb, 0, none⟩ = some (.int .i64 T) ∧ X.cell? ⟨Lb, 1, none⟩ = some (.slice u n' c9) ∧ X.cell? ⟨b2, off2 + k2, none⟩ = some (.int .i64 s) ∧ X.cell? ⟨g, k2 * 7 + 1, none⟩ = some (.int .i64 (jg ys k2).cores) ∧ X.cell? ⟨g, k2 * 7 + 2, none⟩ = some (.int .i64 (jg ys k2).long)) ((refine HKK2.out _ ?_; first | with_reducible exact HG1.out | with_reducible exact HG2.out | with_reducible exact HG0.out | with_reducible exact HG3.out | with_reducible exact SB | with_reducible exact SB.alloc (by omega) _ | exact (SB.setCell (by first | exact Nat.le_refl _ | (dsimp only; omega) | omega) _).setCell (by first | exact Nat.le_refl _ | (dsimp only; omega) | omega) _)) (first
                            | (go_at_call 23
                               refine (CL _).mono ?_
                               rintro e w5 ⟨rfl, rfl⟩)
                            | (go_at_call 22
                               refine (CR.out _ (KB2 _ (by assumption))).mono ?_
                               rintro e w7 ⟨g9, c10, rfl, hb7, hg9, hgc9, hgm9, hld9⟩
                               have SB : Below wc.heap.size wc w7 := (KB2 _ (by assumption)).then hb7 (KB2 _ (by assumption)).size
                               have z7 : wc.heap.size ≤ w7.heap.size := SB.size
                               have zc := (KB2 _ (by assumption)).size
                               first | (have NB := newblk hb7; have NC := boxed NB; have NL : wc.heap.size ≤ wc.heap.size := Nat.le_refl _) | (have NB := newblkd hb7; have NC := boxed NB; have NL : wc.heap.size ≤ wc.heap.size := Nat.le_refl _) | skip
                               clear hb7))
                          all_goals
                            go_wp2_with fail
                            go_meet
                            first
                              | (refine ⟨_, g9, c10, rfl, rfl, heap_alloc_new _ _, hgc9, hgm9, hld9.below box_below, ?_, ?_, SB.alloc z7 _⟩
                                 · exact Nat.le_trans zc hg9
                                 · exact z7)
                              | (have hS := NL
                                 have h4' : (wc.alloc (.cells #[.int .i64 0, .slice none 0 0] 26)).heap.size ≤ g9 := hg9
                                 simp only [World.size_alloc] at h4'
                                 refine ⟨_, g9, c10, rfl, rfl, (Proofs.Ytfepkchopndpeaa.set2 NB _ _).1, hgc9, hgm9, hld9.blk ((Proofs.Ytfepkchopndpeaa.set2 NB _ _).2 g9 ?_), ?_, hS, (SB.setCell hS _).setCell hS _⟩
                                 · omega
                                 · omega)
                        case rest =>
                          obtain ⟨bx, g9, c10, rfl, rfl, hbx, hgc9, hgm9, hld9, hg9, hbx9, B6⟩ := hcut
                          have zLb := lt_of_block HW3.out.box
                          have HW4 := HW3.out.below B6
                          have hbL : bx ≠ Lb := by omega
                          have hgL : g9 ≠ Lb := by omega
                          clear q0 q1
                          obtain ⟨t0, t1, _, _⟩ := boxed hbx
                          obtain ⟨q0, q1, e0, e1⟩ := boxed HW4.box
                          have LS : LevS wc (some ⟨g9, 0, none⟩) L2.length c10 L2 := hld9.toS rfl hgc9 hgm9 (wf_of_bd fun i hi => by have := HP2.out.el i hi; have := HP2.out.pos hi; have := HP2.out.t1; omega)
                          have HN : Hid _ := HW4.put LS hgL
                          clear HKK2 KB2 HG0 HG1 HG2 HG3 CL CR HW3 HW4 hbx hld9 LS s0 hc1 hc2 B6
                          go_wp2
                          go_roundw
                          case rel => exact ⟨k2 + 1, _, _, _, by omega, by go_num, by unfold Hid; rw [HF4.out]; exact HN.out⟩
                          case measure => simp [intOf]; omega
                    · have HN : Hid (lefK T false ls x ys (k2 + 1) = lefK T false ls x ys k2) := plan_never HPF.out hlt2 (by rw [← HS.out]; exact c2')
                      clear p0 p1 q0 q1 hc1 hc2
                      go_upto_region 36 with fail
                      go_quiet (fail)
                      go_wp2
                      go_roundw
                      case rel => exact ⟨k2 + 1, u, n', c9, by omega, by go_num, by unfold Hid; rw [HN.out]; exact HW2.out.below ((Below.refl _ _).drewN _)⟩
                      case measure => simp [intOf]; omega
                · obtain rfl : k2 = ys.length := by omega
                  have hlt2' : ¬ (ys.length : Int) < (ys.length : Int) := by omega
                  obtain ⟨L9, hL9⟩ : ∃ L9, L9 = lefK T false ls x ys ys.length := ⟨_, rfl⟩
                  rw [← hL9] at HW2
                  have hnn := HW2.out.lev.len
                  subst hnn
                  have hlf := HPF.out.lf
                  rw [← hL9] at hlf
                  have HLF : Hid _ := hlf
                  have po9 : PO T L9 := by rw [hL9]; exact (HPF.out.ok.all (st := false) (js := ys) ys.length).po
                  clear hL9 hlf hlt2
                  have Bq := HW2.out.bel
                  obtain ⟨p0, p1⟩ := RP.out _ Bq
                  go_wp2_with fail
                  refine (implLeft_any T v _ _ m c' ys.length c zs.length c2 ls ys zs _ (RL.out _ Bq) (RJ.out _ Bq) (R2.out _ Bq)).mono ?_
                  rw [HLF.out]
                  rintro e w20 ⟨T9, v9, n9, c20, r9, rfl, hb20, h1, h2, g20, h3, h4, hg20, hgc20, hgm20, hld20⟩
                  obtain rfl := h1
                  obtain rfl := h2.symm
                  obtain rfl := h3
                  obtain rfl := h4
                  clear p0 p1
                  have HW5 := HW2.out.below hb20
                  have LZ : LevS w20 (some ⟨g20, 0, none⟩) L9.length c20 L9 := hld20.toS rfl hgc20 hgm20 (wf_of_bd fun i hi => by have := po9.el i hi; have := po9.pos hi; have := po9.t1; omega)
                  obtain ⟨W20, hW20⟩ : ∃ W20, W20 = w20.alloc (.cells #[.int .i64 T, .slice (some ⟨g20, 0, none⟩) L9.length c20] 26) := ⟨_, rfl⟩
                  have b20 : Below w20.heap.size w20 W20 := by rw [hW20]; exact box_below
                  have K20 : W20.heap[w20.heap.size]? = some (.cells #[.int .i64 T, .slice (some ⟨g20, 0, none⟩) L9.length c20] 26 (0, 0)) := by rw [hW20]; exact heap_alloc_new _ _
                  have HW6 := HW5.below b20
                  have LZ6 := LZ.below b20
                  obtain ⟨q0, q1, _, _⟩ := boxed HW6.box
                  obtain ⟨z0', z1', _, _⟩ := boxed K20
                  rw [hW20] at q0 q1 z0' z1'
                  clear po9 HW5 LZ hld20 K20 b20
                  have HH6 : Hid _ := HW6
                  clear HW6
                  go_wp2_with fail
                  rw [← hW20]
                  clear hW20 q0 q1 z0' z1'
                  refine (likeProfile_same T _ _ L9.length c20 _ L9 _ LZ6 HH6.out.lev).mono ?_
                  rintro e w21 ⟨rfl, hb21⟩
                  go_wp2
                  go_ret
                  exact ⟨rfl, RE.out _ (HH6.out.bel.then hb21 HH6.out.bel.size)⟩
  · have c0 : decide (4096 < n0) = true := by simpa using hn
    go_enter Try.func3, Try.ntmps3
    go_wp2_with fail
    refine (big_any a0 n0 cap0 _ true c0.symm).mono ?_
    rintro e w' ⟨rfl, hq⟩; have hq' := hq.symm; clear hq; subst hq'
    go_wp2
    go_ret
    exact ⟨rfl, Below.refl _ _⟩

set_option maxRecDepth 100000 in
theorem lifted (os : Os) (started : os.Started) (H : Type) (enc : TypeId × Value → H) :
    ReturnsInHanded {} Try.checked os 3 .any (Rows.fnPlansSpec.pre6 enc Try.prog Try.f3 Rows.fnPlansRow.domain false) (Rows.fnPlansSpec.post enc Try.prog Try.f3 false true false false) := by
  refine returnsInHanded_of_change (C := Try.checked) own started (by kernel_rfl) Try.func3
    (ChangeSpec.witness6 (enc := enc) (C := Try.checked) false ⟨#[], #[.slice none 0 0], []⟩ 8 (by kernel_rfl) (by kernel_rfl) (by kernel_rfl) (by kernel_rfl)) ?_
  intro W base args ds gs before hval0 hW hcnd _
  have hval : ∀ (j : Nat) t v, Try.f3.params[j]? = some t → args[j]? = some v → Value.okWide Try.prog W .any base t v := hval0
  have hW' := hW
  obtain ⟨p, q, hA0, hV, rfl, hfz, hnd⟩ := hW
  have hA : DataW.TrodAll enc Try.prog W 0 (fun _ => true) true Try.f3.params.toList args.toList ds p := hA0
  rw [Try.params3] at hA hval
  obtain ⟨v0, vs0, d0, ds0, p0, q0, hargs, rfl, rfl, h0, r0⟩ := trodAll_cons hA
  obtain ⟨rfl, rfl, rfl⟩ := trodAll_nil r0
  obtain rfl : args = #[v0] := by cases args; simp_all
  obtain ⟨rfl, rfl⟩ := trodVars_none hV
  have k0 := h0
  have lt0 : ∀ x ∈ p0, x.block < W.heap.size := by obtain ⟨m, hm⟩ := k0; exact DataW.trod_lt m _ _ _ hm
  obtain ⟨a0, n0, cap0, z0, rfl, w0⟩ := open_bytes (hval 0 22 v0 rfl rfl) h0
  clear hA0 hval0
  refine (walk a0 n0 cap0 z0 W w0).mono fun e W' ⟨he, bel⟩ => ?_
  subst he
  exact ⟨_, rfl, _, _, _, [], _, [], hW', trodAll_mk1 (shut_bool Try.underlying4 _), (trodAll_cons_mk (Below.trod laidOut (by kernel_rfl) (of_decide_eq_true (by kernel_rfl)) k0 bel lt0) trodAll_mk0), rfl, bel.frame _, fun h => by cases h⟩

theorem over : Rows.fnPlansRow.holds Try.pinned (OpenSpec.ofChange Rows.fnPlansSpec) :=
  OpenClaim.holds_of_wide 3 Try.f3 rfl rfl rfl rfl rfl rfl rfl ⟨rfl, rfl, rfl, rfl, rfl⟩ rfl rfl rfl rfl rfl (by kernel_rfl) Try.func3 (by kernel_rfl)
    (of_decide_eq_true (by kernel_rfl)) (by unfold Func.isWrapper; first | (rw [if_pos (by decide +kernel)]; kernel_rfl) | (rw [if_neg (by decide +kernel)]; exact ⟨rfl, rfl⟩))
    (fun os started H enc _ => lifted os started H enc)

/-- the given statement -/
theorem proved : Rows.FnPlansSaid := over
#print axioms proved
end Go.Proofs.Ytfepkchopndpeaa.fnPlans
