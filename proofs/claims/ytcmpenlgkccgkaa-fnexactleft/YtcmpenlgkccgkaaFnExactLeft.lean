/- For every input that can be read the law FnExactLeft returns true, and what it was handed reads as before. The frame is the kit's; the opening of the arguments and the walk are ours. -/
import Derived.Test.YtcmpenlgkccgkaaRows
import Derived.WalkKit
import Derived.ProofKit
import Derived.OpenShut
import Derived.ChangeOld
import Derived.Below
import Derived.Test.YtcmpenlgkccgkaaPlanI
import Derived.Test.YtcmpenlgkccgkaaPlanT
import Derived.Test.YtcmpenlgkccgkaaIntArg
import Derived.Test.YtcmpenlgkccgkaaPkC
import Derived.Test.YtcmpenlgkccgkaaJobOpen
import Derived.Deep.RegionHeld3
namespace Go.Proofs.Ytcmpenlgkccgkaa.fnExactLeft
open Go.ChangeShapes Go.WideShapes Go.ChangeAt Go.RowKit
open Go.Sort
set_option linter.unusedVariables false

theorem own : ownKnob Try.prog.godebug = none := by kernel_rfl
theorem laidOut : laidOutB Try.prog = true := by kernel_rfl

set_option maxRecDepth 8000 in
set_option maxHeartbeats 16000000 in
theorem walk (t0 : Int) (a0 : Option Addr) (n0 cap0 : Nat) (l0 : List Lev) (a1 : Option Addr) (n1 cap1 : Nat) (l1 : List Jb) (a2 : Option Addr) (n2 cap2 : Nat) (z2 : List Int) (w : World) (w0 : (Lit.int .i64 t0).wf = true) (L0 : LevS w a0 n0 cap0 l0) (L1 : JobS w a1 n1 cap1 l1) (L2 : IntS w a2 n2 cap2 z2) :
    Calls Try.prog 4 #[.agg #[.int .i64 t0, .slice a0 n0 cap0], .slice a1 n1 cap1, .slice a2 n2 cap2] w fun e w' => e = .returned (.bool true) ∧ Below w.heap.size w w' := by
  have hmx := L0.mx
  have hle := L0.le
  have hmx1 := L1.mx
  have hle1 := L1.le
  obtain ⟨W0, hW0⟩ : ∃ W0, W0 = w.alloc (.cells #[.int .i64 t0, .slice a0 n0 cap0] 34) := ⟨_, rfl⟩
  have BW : Below w.heap.size w W0 := by rw [hW0]; exact box_below
  have K0 : W0.heap[w.heap.size]? = some (.cells #[.int .i64 t0, .slice a0 n0 cap0] 34 (0, 0)) := by rw [hW0]; exact heap_alloc_new _ _
  have lK : w.heap.size < W0.heap.size := lt_of_block K0
  have HWE : Hid (W0 = w.alloc (.cells #[.int .i64 t0, .slice a0 n0 cap0] 34)) := hW0
  have HP : Hid (∀ X, Below W0.heap.size W0 X → X.cell? ⟨w.heap.size, 0, none⟩ = some (.int .i64 t0) ∧ X.cell? ⟨w.heap.size, 1, none⟩ = some (.slice a0 n0 cap0)) := fun X hX => by
    obtain ⟨x0, x1, _, _⟩ := boxed ((hX.block w.heap.size lK).trans K0)
    exact ⟨x0, x1⟩
  have HL0 : Hid (∀ X, Below W0.heap.size W0 X → LevS X a0 n0 cap0 l0) := fun X hX => L0.below (BW.trans (hX.mono (Nat.le_of_lt lK)))
  have HL1 : Hid (∀ X, Below W0.heap.size W0 X → JobS X a1 n1 cap1 l1) := fun X hX => L1.below (BW.trans (hX.mono (Nat.le_of_lt lK)))
  have HE : Hid (∀ X, Below W0.heap.size W0 X → Below w.heap.size w X) := fun X hX => BW.trans (hX.mono (Nat.le_of_lt lK))
  have hmx2 := L2.mx
  have hle2 := L2.le
  have HL2 : Hid (∀ X, Below W0.heap.size W0 X → IntS X a2 n2 cap2 z2) := fun X hX => L2.below (BW.trans (hX.mono (Nat.le_of_lt lK)))
  clear hW0 K0
  by_cases hm2 : n2 ≤ 1048576
  · by_cases hn : n0 ≤ 1048576
    · by_cases hn1 : n1 ≤ 1048576 - n0
      · go_enter Try.func4, Try.ntmps4
        go_wp2_with fail
        rw [← HWE.out]
        refine (szProfile_any t0 a0 n0 cap0 _ _ (by omega) (by omega) (by omega)).mono ?_
        rw [if_neg (by omega)]
        rintro e w1 ⟨rfl, U1⟩
        go_wp2_with fail
        refine (szJobS_any a1 n1 cap1 _ _ (by omega) (by omega) (by omega)).mono ?_
        rw [if_neg (by omega)]
        rintro e w1b ⟨rfl, hq1⟩
        have hq1' := hq1.symm
        clear hq1
        subst hq1'
        obtain ⟨p0, p1⟩ := HP.out _ U1
        go_wp2_with fail
        refine (toProfile_any t0 a0 n0 cap0 l0 _ (HL0.out _ U1) hn).mono ?_
        rintro e w2 ⟨B1, rfl, hB1, hl1, hb2⟩
        clear p0 p1
        have U2 := U1.then hb2 U1.size
        go_wp2_with fail
        refine (toJobS_any a1 n1 cap1 l1 _ (HL1.out _ U2) (by omega)).mono ?_
        rintro e w3 ⟨C1, rfl, hC1, hj1, hb3⟩
        have U3 := U2.then hb3 U2.size
        go_wp2_with fail
        refine (toInt64S_any a2 n2 cap2 z2 _ (HL2.out _ U3) hm2).mono ?_
        rintro e w4z ⟨Z1, rfl, hZ1, hz1, hb4z⟩
        have U4z := U3.then hb4z U3.size
        have IZ1 : IntS w4z (some ⟨Z1, 0, none⟩) n2 n2 z2 := (by have := hz1.toB; rw [L2.len] at this; exact this.toS L2.len (Nat.le_refl _) (by unfold maxLen; omega))
        go_wp2_with fail
        refine (specLeft_any t0 _ _ _ n0 n0 n1 n1 n2 n2 l0 l1 z2 _ (((hl1.below hb3).below hb4z).toS L0.len hn L0.wf) ((hj1.below hb4z).toS L1.len (by omega) L1.wf) IZ1).mono ?_
        rintro e w4 ⟨T4, v4, n4, c4, r4, rfl, hb4, hA4⟩
        have U4 := U4z.then hb4 U4z.size
        rcases hR : lfF t0 l0 l1 z2 with _ | lr
        · rw [hR] at hA4
          obtain ⟨rfl, rfl, rfl, rfl, rfl⟩ := hA4
          obtain ⟨W4, hW4⟩ : ∃ W4, W4 = w4.alloc (.cells #[.int .i64 0, .slice none 0 0] 38) := ⟨_, rfl⟩
          have b4 : Below w4.heap.size w4 W4 := by rw [hW4]; exact box_below
          have K4 : W4.heap[w4.heap.size]? = some (.cells #[.int .i64 0, .slice none 0 0] 38 (0, 0)) := by rw [hW4]; exact heap_alloc_new _ _
          have lK4 : w4.heap.size < W4.heap.size := lt_of_block K4
          have HY : Hid (∀ X, Below W4.heap.size W4 X → X.cell? ⟨w4.heap.size, 0, none⟩ = some (.int .i64 0) ∧ X.cell? ⟨w4.heap.size, 1, none⟩ = some (.slice none 0 0)) := fun X hX => by
            obtain ⟨x0, x1, _, _⟩ := boxed ((hX.block w4.heap.size lK4).trans K4)
            exact ⟨x0, x1⟩
          have UW4 := U4.then b4 U4.size
          have HR0 : Hid _ := hR
          clear hR
          obtain ⟨p0, p1⟩ := HP.out _ UW4
          rw [hW4] at p0 p1
          go_wp2_with fail
          rw [← hW4]
          clear hW4 K4
          refine (toProfile_any t0 a0 n0 cap0 l0 _ (HL0.out _ UW4) hn).mono ?_
          rintro e w5 ⟨B2, rfl, hB2, hl2, hb5⟩
          clear p0 p1
          have U5 := UW4.then hb5 UW4.size
          obtain ⟨W5, hW5⟩ : ∃ W5, W5 = w5.alloc (.cells #[.int .i64 t0, .slice (some ⟨B2, 0, none⟩) n0 n0] 38) := ⟨_, rfl⟩
          have b5 : Below w5.heap.size w5 W5 := by rw [hW5]; exact box_below
          have K5 : W5.heap[w5.heap.size]? = some (.cells #[.int .i64 t0, .slice (some ⟨B2, 0, none⟩) n0 n0] 38 (0, 0)) := by rw [hW5]; exact heap_alloc_new _ _
          have lK5 : w5.heap.size < W5.heap.size := lt_of_block K5
          have HX : Hid (∀ X, Below W5.heap.size W5 X → X.cell? ⟨w5.heap.size, 0, none⟩ = some (.int .i64 t0) ∧ X.cell? ⟨w5.heap.size, 1, none⟩ = some (.slice (some ⟨B2, 0, none⟩) n0 n0)) := fun X hX => by
            obtain ⟨x0, x1, _, _⟩ := boxed ((hX.block w5.heap.size lK5).trans K5)
            exact ⟨x0, x1⟩
          have UW5 := U5.then b5 U5.size
          have EY5 := hb5.then b5 hb5.size
          have hl2W := hl2.below b5
          have zB2 := hl2.lt
          go_wp2_with fail
          rw [← hW5]
          clear hW5 K5
          refine (toJobS_any a1 n1 cap1 l1 _ (HL1.out _ UW5) (by omega)).mono ?_
          rintro e w6 ⟨C2, rfl, hC2, hj2, hb6⟩
          have U6 := UW5.then hb6 UW5.size
          have zC2 := hj2.lt
          go_wp2_with fail
          refine (toInt64S_any a2 n2 cap2 z2 _ (HL2.out _ U6) hm2).mono ?_
          rintro e w6z ⟨Z2, rfl, hZ2, hz2, hb6z⟩
          have U6z := U6.then hb6z U6.size
          have E6 := hb6.then hb6z hb6.size
          have IB2 : IntB w6z Z2 n2 z2 := by have := hz2.toB; rw [L2.len] at this; exact this
          have zZ2 := IB2.lt
          have IZ2 : IntS w6z (some ⟨Z2, 0, none⟩) n2 n2 z2 := IB2.toS L2.len (Nat.le_refl _) (by unfold maxLen; omega)
          obtain ⟨p0, p1⟩ := HX.out _ E6
          have hl6 := (hl2W.below hb6).below hb6z
          have hj6 := hj2.below hb6z
          go_wp2_with fail
          refine (implLeft_any t0 _ _ _ n0 n0 n1 n1 n2 n2 l0 l1 z2 _ (hl6.toS L0.len hn L0.wf) (hj6.toS L1.len (by omega) L1.wf) IZ2).mono ?_
          rintro e w7 ⟨T7, v7, n7, c7, r7, rfl, hb7, hA7⟩
          rw [HR0.out] at hA7
          obtain ⟨rfl, rfl, rfl, rfl, rfl⟩ := hA7
          clear p0 p1
          have U7 := U6z.then hb7 U6z.size
          have E7 := E6.then hb7 E6.size
          have z66 := hb6z.size
          have z67 := hb7.size
          obtain ⟨W7, hW7⟩ : ∃ W7, W7 = w7.alloc (.cells #[.int .i64 0, .slice none 0 0] 38) := ⟨_, rfl⟩
          have b7 : Below w7.heap.size w7 W7 := by rw [hW7]; exact box_below
          have K7 : W7.heap[w7.heap.size]? = some (.cells #[.int .i64 0, .slice none 0 0] 38 (0, 0)) := by rw [hW7]; exact heap_alloc_new _ _
          have lK7 : w7.heap.size < W7.heap.size := lt_of_block K7
          have HG : Hid (∀ X, Below W7.heap.size W7 X → X.cell? ⟨w7.heap.size, 0, none⟩ = some (.int .i64 0) ∧ X.cell? ⟨w7.heap.size, 1, none⟩ = some (.slice none 0 0)) := fun X hX => by
            obtain ⟨x0, x1, _, _⟩ := boxed ((hX.block w7.heap.size lK7).trans K7)
            exact ⟨x0, x1⟩
          have UW7 := U7.then b7 U7.size
          have EW7 := E7.then b7 E7.size
          have EY7 := EY5.then EW7 EY5.size
          have hlW7 := (hl6.below hb7).below b7
          have hjW7 := (hj6.below hb7).below b7
          have IBW7 := (IB2.below hb7).below b7
          obtain ⟨p0, p1⟩ := HG.out _ (Below.refl _ _)
          obtain ⟨q0, q1⟩ := HY.out _ EY7
          rw [hW7] at p0 p1 q0 q1
          go_wp2_with fail
          rw [← hW7]
          clear hW7 K7
          refine (eqProfile_same 0 none none 0 0 0 [] _ (LevS.nil_ _) (LevS.nil_ _)).mono ?_
          rintro e w8 ⟨rfl, hb8⟩
          clear p0 p1 q0 q1
          have U8 := UW7.then hb8 UW7.size
          have E8 := EW7.then hb8 EW7.size
          have EY8 := EY7.then hb8 EY7.size
          have hl8 := hlW7.below hb8
          have hj8 := hjW7.below hb8
          have IB8 := IBW7.below hb8
          have G8 := hb8
          have HT : Hid (∀ X, Below w8.heap.size w8 X → X.cell? ⟨w.heap.size, 0, none⟩ = some (.int .i64 t0) ∧ X.cell? ⟨w.heap.size, 1, none⟩ = some (.slice a0 n0 cap0) ∧ X.cell? ⟨w5.heap.size, 0, none⟩ = some (.int .i64 t0) ∧ X.cell? ⟨w5.heap.size, 1, none⟩ = some (.slice (some ⟨B2, 0, none⟩) n0 n0)) := fun X hX => by
            obtain ⟨x0, x1⟩ := HP.out X (U8.then hX U8.size)
            obtain ⟨y0, y1⟩ := HX.out X (E8.then hX E8.size)
            exact ⟨x0, x1, y0, y1⟩
          obtain ⟨p0, p1, q0, q1⟩ := HT.out _ (Below.refl _ _)
          go_wp2_with fail
          go_region_held3 (fun w' => w'.cell? ⟨w.heap.size, 0, none⟩ = some (.int .i64 t0) ∧ w'.cell? ⟨w.heap.size, 1, none⟩ = some (.slice a0 n0 cap0) ∧ w'.cell? ⟨w5.heap.size, 0, none⟩ = some (.int .i64 t0) ∧ w'.cell? ⟨w5.heap.size, 1, none⟩ = some (.slice (some ⟨B2, 0, none⟩) n0 n0)) (first | exact HT.out _ (Below.refl _ _).drew | exact HT.out _ Da | exact HT.out _ Db | exact HT.out _ Da.drew | exact HT.out _ Db.drew) (first
            | (go_at_call 16; refine (toProfile_any t0 a0 n0 cap0 l0 _ (HL0.out _ (U8.then (Below.refl w8.heap.size w8).drew U8.size)) hn).mono ?_; rintro e wa ⟨B3, rfl, hB3, hl3, hba⟩; have Da := (Below.refl w8.heap.size w8).drew.trans hba)
            | (go_at_call 18; refine (eqProfile_same t0 _ _ n0 n0 n0 l0 _ ((hl8.below Da).toS L0.len hn L0.wf) (hl3.toS L0.len hn L0.wf)).mono ?_; rintro e wb ⟨rfl, hbb⟩; have Db := Da.then hbb Da.size))
          all_goals
            clear p0 p1 q0 q1 HT
            have UD := U8.then Db U8.size
            have ED := E8.then Db E8.size
            have EYD := EY8.then Db EY8.size
            have GD := G8.then Db G8.size
            have hlD := hl8.below Db
            have hjD := hj8.below Db
            have IBD := IB8.below Db
            go_wp2_with fail
            refine (toJobS_any a1 n1 cap1 l1 _ (HL1.out _ UD) (by omega)).mono ?_
            rintro e w9 ⟨C3, rfl, hC3, hj3, hb9⟩
            have U9 := UD.then hb9 UD.size
            go_wp2_with fail
            refine (eqJobS_same _ _ n1 n1 n1 l1 _ ((hjD.below hb9).toS L1.len (by omega) L1.wf) (hj3.toS L1.len (by omega) L1.wf)).mono ?_
            rintro e w10 ⟨rfl, hb10⟩
            have U10 := U9.then hb10 U9.size
            go_wp2_with fail
            refine (toInt64S_any a2 n2 cap2 z2 _ (HL2.out _ U10) hm2).mono ?_
            rintro e w11 ⟨Z3, rfl, hZ3, hz3, hb11⟩
            have U11 := U10.then hb11 U10.size
            go_wp2_with fail
            refine (eqInt64S_same _ _ n2 n2 n2 z2 _ ((((IBD.below hb9).below hb10).below hb11).toS L2.len (Nat.le_refl _) (by unfold maxLen; omega)) (by have := hz3.toB; rw [L2.len] at this; exact this.toS L2.len (Nat.le_refl _) (by unfold maxLen; omega))).mono ?_
            rintro e w12 ⟨rfl, hb12⟩
            have D12 := ((hb9.then hb10 hb9.size).then hb11 (hb9.then hb10 hb9.size).size).then hb12 ((hb9.then hb10 hb9.size).then hb11 (hb9.then hb10 hb9.size).size).size
            have U12 := UD.then D12 UD.size
            have E12 := ED.then D12 ED.size
            have EY12 := EYD.then D12 EYD.size
            have G12 := GD.then D12 GD.size
            have hl12 := hlD.below D12
            have hj12 := hjD.below D12
            have IB12 := IBD.below D12
            obtain ⟨p0, p1⟩ := HX.out _ E12
            go_wp2_with fail
            refine (markProfile_any t0 B2 n0 1 l0 _ hl12 hn (by omega) (by omega)).mono ?_
            rintro e w13 ⟨rfl, hm13, ho13⟩
            clear p0 p1
            have bx12 : Below w12.heap.size w12 (w12.alloc (.cells #[.int .i64 t0, .slice (some ⟨B2, 0, none⟩) n0 n0] 38)) := box_below
            have zUW4 := UW4.size
            have z45 := hb5.size
            have z5W := b5.size
            have zE12 := E12.size
            have zEY12 := EY12.size
            have zG12 := G12.size
            have U13 : Below W0.heap.size W0 w13 := (U12.then bx12 U12.size).trans (ho13.below (by omega))
            have EY13 : Below W4.heap.size W4 w13 := (EY12.then bx12 EY12.size).trans (ho13.below (by omega))
            have hj13 := (hj12.below bx12).only ho13 (by omega)
            have IB13 := (IB12.below bx12).only ho13 (by omega)
            have hk1 : ¬ ((1 : Int) + 2 * (n0 : Int) < 0) := by omega
            go_wp2_with fail
            refine (markJobS_any C2 n1 (1 + 2 * (n0 : Int)) l1 _ hj13 (by omega) (by omega) (by omega)).mono ?_
            rintro e w14 ⟨rfl, hm14, ho14⟩
            have U14 : Below W0.heap.size W0 w14 := U13.trans (ho14.below (by omega))
            have EY14 : Below W4.heap.size W4 w14 := EY13.trans (ho14.below (by omega))
            have IB14 := IB13.only ho14 (by omega)
            go_wp2_with fail
            refine (markInt64S_any Z2 n2 n2 (1 + 2 * (n0 : Int) + 7 * (n1 : Int)) z2 _ IB14 (by omega) (by omega) (by omega)).mono ?_
            rintro e w15 ⟨rfl, hm15, ho15⟩
            have U15 : Below W0.heap.size W0 w15 := U14.trans (ho15.below (by omega))
            have EY15 : Below W4.heap.size W4 w15 := EY14.trans (ho15.below (by omega))
            have hk3 : ¬ ((1 : Int) + 2 * (n0 : Int) + 7 * (n1 : Int) + (n2 : Int) < 0) := by omega
            have HG15 : Hid (∀ X, Below w15.heap.size w15 X → X.cell? ⟨w7.heap.size, 0, none⟩ = some (.int .i64 0) ∧ X.cell? ⟨w7.heap.size, 1, none⟩ = some (.slice none 0 0)) := fun X hX => by
              have e1 : X.heap[w7.heap.size]? = w12.heap[w7.heap.size]? := (hX.block w7.heap.size (by have := ho15.size; have := ho14.size; have := ho13.size; have := bx12.size; omega)).trans ((ho15.block w7.heap.size (by omega)).trans ((ho14.block w7.heap.size (by omega)).trans ((ho13.block w7.heap.size (by omega)).trans (bx12.block w7.heap.size (by omega)))))
              obtain ⟨x0, x1⟩ := HG.out w12 G12
              exact ⟨(World.cell?_of_block (a := ⟨w7.heap.size, 0, none⟩) e1).trans x0, (World.cell?_of_block (a := ⟨w7.heap.size, 1, none⟩) e1).trans x1⟩
            obtain ⟨p0, p1⟩ := HG15.out _ (Below.refl _ _)
            obtain ⟨q0, q1⟩ := HY.out _ EY15
            go_wp2_with fail
            refine (eqProfile_same 0 none none 0 0 0 [] _ (LevS.nil_ _) (LevS.nil_ _)).mono ?_
            rintro e w16 ⟨rfl, hb16⟩
            clear p0 p1 q0 q1
            have U16 := U15.then hb16 U15.size
            have EY16 := EY15.then hb16 EY15.size
            obtain ⟨p0, p1⟩ := HG15.out _ hb16
            go_wp2_with fail
            refine (markNilP_any 0 1 _ (by omega)).mono ?_
            rintro e w17 ⟨rfl, hb17m⟩
            clear p0 p1
            have U17 := U16.then hb17m U16.size
            have EY17 := EY16.then hb17m EY16.size
            have HG17 : Hid (∀ X, Below w17.heap.size w17 X → X.cell? ⟨w7.heap.size, 0, none⟩ = some (.int .i64 0) ∧ X.cell? ⟨w7.heap.size, 1, none⟩ = some (.slice none 0 0)) := fun X hX => HG15.out X ((hb16.then hb17m hb16.size).then hX (hb16.then hb17m hb16.size).size)
            obtain ⟨p0, p1⟩ := HG17.out _ (Below.refl _ _)
            go_wp2_with fail
            refine (heldNilP_any 0 1 _ (by omega)).mono ?_
            rintro e w18h ⟨rfl, hb17⟩
            clear p0 p1
            have U18 := U17.then hb17 U17.size
            have EY18 := EY17.then hb17 EY17.size
            obtain ⟨p0, p1⟩ := HP.out _ U18
            go_wp2_with fail
            refine (toProfile_any t0 a0 n0 cap0 l0 _ (HL0.out _ U18) hn).mono ?_
            rintro e w19 ⟨B4, rfl, hB4, hl4, hb19⟩
            clear p0 p1
            have U19 := U18.then hb19 U18.size
            go_wp2_with fail
            refine (toJobS_any a1 n1 cap1 l1 _ (HL1.out _ U19) (by omega)).mono ?_
            rintro e w20 ⟨C4, rfl, hC4, hj4, hb20⟩
            have U20 := U19.then hb20 U19.size
            go_wp2_with fail
            refine (toInt64S_any a2 n2 cap2 z2 _ (HL2.out _ U20) hm2).mono ?_
            rintro e w21 ⟨Z4, rfl, hZ4, hz4, hb21⟩
            have U21 := U20.then hb21 U20.size
            go_wp2_with fail
            refine (implLeft_any t0 _ _ _ n0 n0 n1 n1 n2 n2 l0 l1 z2 _ (((hl4.below hb20).below hb21).toS L0.len hn L0.wf) ((hj4.below hb21).toS L1.len (by omega) L1.wf) (by have := hz4.toB; rw [L2.len] at this; exact this.toS L2.len (Nat.le_refl _) (by unfold maxLen; omega))).mono ?_
            rintro e w22 ⟨T18, v18, n18, c18, r18, rfl, hb22, hA18⟩
            rw [HR0.out] at hA18
            obtain ⟨rfl, rfl, rfl, rfl, rfl⟩ := hA18
            have S22 := ((hb19.then hb20 hb19.size).then hb21 (hb19.then hb20 hb19.size).size).then hb22 ((hb19.then hb20 hb19.size).then hb21 (hb19.then hb20 hb19.size).size).size
            have U22 := U18.then S22 U18.size
            have EY22 := EY18.then S22 EY18.size
            have H22 := hb17.then S22 hb17.size
            obtain ⟨W22, hW22⟩ : ∃ W22, W22 = w22.alloc (.cells #[.int .i64 0, .slice none 0 0] 38) := ⟨_, rfl⟩
            have b22 : Below w22.heap.size w22 W22 := by rw [hW22]; exact box_below
            have K22 : W22.heap[w22.heap.size]? = some (.cells #[.int .i64 0, .slice none 0 0] 38 (0, 0)) := by rw [hW22]; exact heap_alloc_new _ _
            have lK22 : w22.heap.size < W22.heap.size := lt_of_block K22
            have HH : Hid (∀ X, Below W22.heap.size W22 X → X.cell? ⟨w22.heap.size, 0, none⟩ = some (.int .i64 0) ∧ X.cell? ⟨w22.heap.size, 1, none⟩ = some (.slice none 0 0)) := fun X hX => by
              obtain ⟨x0, x1, _, _⟩ := boxed ((hX.block w22.heap.size lK22).trans K22)
              exact ⟨x0, x1⟩
            have UW22 := U22.then b22 U22.size
            have EY23 := EY22.then b22 EY22.size
            have H23 := H22.then b22 H22.size
            obtain ⟨p0, p1⟩ := HH.out _ (Below.refl _ _)
            obtain ⟨q0, q1⟩ := HY.out _ EY23
            rw [hW22] at p0 p1 q0 q1
            go_wp2_with fail
            rw [← hW22]
            clear hW22 K22
            refine (eqProfile_same 0 none none 0 0 0 [] _ (LevS.nil_ _) (LevS.nil_ _)).mono ?_
            rintro e w23 ⟨rfl, hb23⟩
            clear p0 p1 q0 q1
            have U23 := UW22.then hb23 UW22.size
            have H24 := H23.then hb23 H23.size
            obtain ⟨p0, p1⟩ := HG17.out _ H24
            go_wp2_with fail
            refine (heldNilP_any 0 1 _ (by omega)).mono ?_
            rintro e w25 ⟨rfl, hb25⟩
            go_wp2
            go_ret
            exact ⟨rfl, HE.out _ (U23.then hb25 U23.size)⟩
        · rw [hR] at hA4
          obtain ⟨rfl, hT4, g4, rfl, rfl, hg4, hc4, hm4, D4⟩ := hA4
          replace hT4 := hT4.symm
          subst hT4
          have po := lfF_po hR
          have wfl : ∀ i, i < lr.length → (-9223372036854775808 ≤ fr lr i ∧ fr lr i ≤ 9223372036854775807) ∧ (-9223372036854775808 ≤ fe lr i ∧ fe lr i ≤ 9223372036854775807) := wf_of_bd fun i hi => by have := po.el i hi; have := po.pos hi; have := po.t1; omega
          have hl200 := po.n2
          have gl4 := D4.lt
          obtain ⟨W4, hW4⟩ : ∃ W4, W4 = w4.alloc (.cells #[.int .i64 t0, .slice (some ⟨g4, 0, none⟩) lr.length c4] 38) := ⟨_, rfl⟩
          have b4 : Below w4.heap.size w4 W4 := by rw [hW4]; exact box_below
          have K4 : W4.heap[w4.heap.size]? = some (.cells #[.int .i64 t0, .slice (some ⟨g4, 0, none⟩) lr.length c4] 38 (0, 0)) := by rw [hW4]; exact heap_alloc_new _ _
          have lK4 : w4.heap.size < W4.heap.size := lt_of_block K4
          have HY : Hid (∀ X, Below W4.heap.size W4 X → X.cell? ⟨w4.heap.size, 0, none⟩ = some (.int .i64 t0) ∧ X.cell? ⟨w4.heap.size, 1, none⟩ = some (.slice (some ⟨g4, 0, none⟩) lr.length c4)) := fun X hX => by
            obtain ⟨x0, x1, _, _⟩ := boxed ((hX.block w4.heap.size lK4).trans K4)
            exact ⟨x0, x1⟩
          have UW4 := U4.then b4 U4.size
          have HR0 : Hid _ := hR
          clear hR
          have D4W := D4.below b4
          obtain ⟨p0, p1⟩ := HP.out _ UW4
          rw [hW4] at p0 p1
          go_wp2_with fail
          rw [← hW4]
          clear hW4 K4
          refine (toProfile_any t0 a0 n0 cap0 l0 _ (HL0.out _ UW4) hn).mono ?_
          rintro e w5 ⟨B2, rfl, hB2, hl2, hb5⟩
          clear p0 p1
          have U5 := UW4.then hb5 UW4.size
          obtain ⟨W5, hW5⟩ : ∃ W5, W5 = w5.alloc (.cells #[.int .i64 t0, .slice (some ⟨B2, 0, none⟩) n0 n0] 38) := ⟨_, rfl⟩
          have b5 : Below w5.heap.size w5 W5 := by rw [hW5]; exact box_below
          have K5 : W5.heap[w5.heap.size]? = some (.cells #[.int .i64 t0, .slice (some ⟨B2, 0, none⟩) n0 n0] 38 (0, 0)) := by rw [hW5]; exact heap_alloc_new _ _
          have lK5 : w5.heap.size < W5.heap.size := lt_of_block K5
          have HX : Hid (∀ X, Below W5.heap.size W5 X → X.cell? ⟨w5.heap.size, 0, none⟩ = some (.int .i64 t0) ∧ X.cell? ⟨w5.heap.size, 1, none⟩ = some (.slice (some ⟨B2, 0, none⟩) n0 n0)) := fun X hX => by
            obtain ⟨x0, x1, _, _⟩ := boxed ((hX.block w5.heap.size lK5).trans K5)
            exact ⟨x0, x1⟩
          have UW5 := U5.then b5 U5.size
          have EY5 := hb5.then b5 hb5.size
          have hl2W := hl2.below b5
          have zB2 := hl2.lt
          go_wp2_with fail
          rw [← hW5]
          clear hW5 K5
          refine (toJobS_any a1 n1 cap1 l1 _ (HL1.out _ UW5) (by omega)).mono ?_
          rintro e w6 ⟨C2, rfl, hC2, hj2, hb6⟩
          have U6 := UW5.then hb6 UW5.size
          have zC2 := hj2.lt
          go_wp2_with fail
          refine (toInt64S_any a2 n2 cap2 z2 _ (HL2.out _ U6) hm2).mono ?_
          rintro e w6z ⟨Z2, rfl, hZ2, hz2, hb6z⟩
          have U6z := U6.then hb6z U6.size
          have E6 := hb6.then hb6z hb6.size
          have IB2 : IntB w6z Z2 n2 z2 := by have := hz2.toB; rw [L2.len] at this; exact this
          have zZ2 := IB2.lt
          have IZ2 : IntS w6z (some ⟨Z2, 0, none⟩) n2 n2 z2 := IB2.toS L2.len (Nat.le_refl _) (by unfold maxLen; omega)
          obtain ⟨p0, p1⟩ := HX.out _ E6
          have hl6 := (hl2W.below hb6).below hb6z
          have hj6 := hj2.below hb6z
          go_wp2_with fail
          refine (implLeft_any t0 _ _ _ n0 n0 n1 n1 n2 n2 l0 l1 z2 _ (hl6.toS L0.len hn L0.wf) (hj6.toS L1.len (by omega) L1.wf) IZ2).mono ?_
          rintro e w7 ⟨T7, v7, n7, c7, r7, rfl, hb7, hA7⟩
          rw [HR0.out] at hA7
          obtain ⟨rfl, hT7, g7, rfl, rfl, hg7, hc7, hm7, D7⟩ := hA7
          replace hT7 := hT7.symm
          subst hT7
          clear p0 p1
          have U7 := U6z.then hb7 U6z.size
          have E7 := E6.then hb7 E6.size
          have z66 := hb6z.size
          have z67 := hb7.size
          have gl7 := D7.lt
          obtain ⟨W7, hW7⟩ : ∃ W7, W7 = w7.alloc (.cells #[.int .i64 t0, .slice (some ⟨g7, 0, none⟩) lr.length c7] 38) := ⟨_, rfl⟩
          have b7 : Below w7.heap.size w7 W7 := by rw [hW7]; exact box_below
          have K7 : W7.heap[w7.heap.size]? = some (.cells #[.int .i64 t0, .slice (some ⟨g7, 0, none⟩) lr.length c7] 38 (0, 0)) := by rw [hW7]; exact heap_alloc_new _ _
          have lK7 : w7.heap.size < W7.heap.size := lt_of_block K7
          have HG : Hid (∀ X, Below W7.heap.size W7 X → X.cell? ⟨w7.heap.size, 0, none⟩ = some (.int .i64 t0) ∧ X.cell? ⟨w7.heap.size, 1, none⟩ = some (.slice (some ⟨g7, 0, none⟩) lr.length c7)) := fun X hX => by
            obtain ⟨x0, x1, _, _⟩ := boxed ((hX.block w7.heap.size lK7).trans K7)
            exact ⟨x0, x1⟩
          have UW7 := U7.then b7 U7.size
          have EW7 := E7.then b7 E7.size
          have EY7 := EY5.then EW7 EY5.size
          have hlW7 := (hl6.below hb7).below b7
          have hjW7 := (hj6.below hb7).below b7
          have IBW7 := (IB2.below hb7).below b7
          obtain ⟨p0, p1⟩ := HG.out _ (Below.refl _ _)
          obtain ⟨q0, q1⟩ := HY.out _ EY7
          have D7W := D7.below b7
          have D4W7 := D4W.below EY7
          rw [hW7] at p0 p1 q0 q1
          go_wp2_with fail
          rw [← hW7]
          clear hW7 K7
          refine (eqProfile_same t0 _ _ lr.length c7 c4 lr _ (D7W.toS rfl hc7 hm7 wfl) (D4W7.toS rfl hc4 hm4 wfl)).mono ?_
          rintro e w8 ⟨rfl, hb8⟩
          clear p0 p1 q0 q1
          have U8 := UW7.then hb8 UW7.size
          have E8 := EW7.then hb8 EW7.size
          have EY8 := EY7.then hb8 EY7.size
          have hl8 := hlW7.below hb8
          have hj8 := hjW7.below hb8
          have IB8 := IBW7.below hb8
          have G8 := hb8
          have D7_8 := D7W.below hb8
          have D4_8 := D4W7.below hb8
          have HT : Hid (∀ X, Below w8.heap.size w8 X → X.cell? ⟨w.heap.size, 0, none⟩ = some (.int .i64 t0) ∧ X.cell? ⟨w.heap.size, 1, none⟩ = some (.slice a0 n0 cap0) ∧ X.cell? ⟨w5.heap.size, 0, none⟩ = some (.int .i64 t0) ∧ X.cell? ⟨w5.heap.size, 1, none⟩ = some (.slice (some ⟨B2, 0, none⟩) n0 n0)) := fun X hX => by
            obtain ⟨x0, x1⟩ := HP.out X (U8.then hX U8.size)
            obtain ⟨y0, y1⟩ := HX.out X (E8.then hX E8.size)
            exact ⟨x0, x1, y0, y1⟩
          obtain ⟨p0, p1, q0, q1⟩ := HT.out _ (Below.refl _ _)
          go_wp2_with fail
          go_region_held3 (fun w' => w'.cell? ⟨w.heap.size, 0, none⟩ = some (.int .i64 t0) ∧ w'.cell? ⟨w.heap.size, 1, none⟩ = some (.slice a0 n0 cap0) ∧ w'.cell? ⟨w5.heap.size, 0, none⟩ = some (.int .i64 t0) ∧ w'.cell? ⟨w5.heap.size, 1, none⟩ = some (.slice (some ⟨B2, 0, none⟩) n0 n0)) (first | exact HT.out _ (Below.refl _ _).drew | exact HT.out _ Da | exact HT.out _ Db | exact HT.out _ Da.drew | exact HT.out _ Db.drew) (first
            | (go_at_call 16; refine (toProfile_any t0 a0 n0 cap0 l0 _ (HL0.out _ (U8.then (Below.refl w8.heap.size w8).drew U8.size)) hn).mono ?_; rintro e wa ⟨B3, rfl, hB3, hl3, hba⟩; have Da := (Below.refl w8.heap.size w8).drew.trans hba)
            | (go_at_call 18; refine (eqProfile_same t0 _ _ n0 n0 n0 l0 _ ((hl8.below Da).toS L0.len hn L0.wf) (hl3.toS L0.len hn L0.wf)).mono ?_; rintro e wb ⟨rfl, hbb⟩; have Db := Da.then hbb Da.size))
          all_goals
            clear p0 p1 q0 q1 HT
            have UD := U8.then Db U8.size
            have ED := E8.then Db E8.size
            have EYD := EY8.then Db EY8.size
            have GD := G8.then Db G8.size
            have hlD := hl8.below Db
            have hjD := hj8.below Db
            have IBD := IB8.below Db
            go_wp2_with fail
            refine (toJobS_any a1 n1 cap1 l1 _ (HL1.out _ UD) (by omega)).mono ?_
            rintro e w9 ⟨C3, rfl, hC3, hj3, hb9⟩
            have U9 := UD.then hb9 UD.size
            go_wp2_with fail
            refine (eqJobS_same _ _ n1 n1 n1 l1 _ ((hjD.below hb9).toS L1.len (by omega) L1.wf) (hj3.toS L1.len (by omega) L1.wf)).mono ?_
            rintro e w10 ⟨rfl, hb10⟩
            have U10 := U9.then hb10 U9.size
            go_wp2_with fail
            refine (toInt64S_any a2 n2 cap2 z2 _ (HL2.out _ U10) hm2).mono ?_
            rintro e w11 ⟨Z3, rfl, hZ3, hz3, hb11⟩
            have U11 := U10.then hb11 U10.size
            go_wp2_with fail
            refine (eqInt64S_same _ _ n2 n2 n2 z2 _ ((((IBD.below hb9).below hb10).below hb11).toS L2.len (Nat.le_refl _) (by unfold maxLen; omega)) (by have := hz3.toB; rw [L2.len] at this; exact this.toS L2.len (Nat.le_refl _) (by unfold maxLen; omega))).mono ?_
            rintro e w12 ⟨rfl, hb12⟩
            have D12 := ((hb9.then hb10 hb9.size).then hb11 (hb9.then hb10 hb9.size).size).then hb12 ((hb9.then hb10 hb9.size).then hb11 (hb9.then hb10 hb9.size).size).size
            have U12 := UD.then D12 UD.size
            have E12 := ED.then D12 ED.size
            have EY12 := EYD.then D12 EYD.size
            have G12 := GD.then D12 GD.size
            have hl12 := hlD.below D12
            have hj12 := hjD.below D12
            have IB12 := IBD.below D12
            obtain ⟨p0, p1⟩ := HX.out _ E12
            go_wp2_with fail
            refine (markProfile_any t0 B2 n0 1 l0 _ hl12 hn (by omega) (by omega)).mono ?_
            rintro e w13 ⟨rfl, hm13, ho13⟩
            clear p0 p1
            have bx12 : Below w12.heap.size w12 (w12.alloc (.cells #[.int .i64 t0, .slice (some ⟨B2, 0, none⟩) n0 n0] 38)) := box_below
            have zUW4 := UW4.size
            have z45 := hb5.size
            have z5W := b5.size
            have zE12 := E12.size
            have zEY12 := EY12.size
            have zG12 := G12.size
            have U13 : Below W0.heap.size W0 w13 := (U12.then bx12 U12.size).trans (ho13.below (by omega))
            have EY13 : Below W4.heap.size W4 w13 := (EY12.then bx12 EY12.size).trans (ho13.below (by omega))
            have hj13 := (hj12.below bx12).only ho13 (by omega)
            have IB13 := (IB12.below bx12).only ho13 (by omega)
            have hk1 : ¬ ((1 : Int) + 2 * (n0 : Int) < 0) := by omega
            go_wp2_with fail
            refine (markJobS_any C2 n1 (1 + 2 * (n0 : Int)) l1 _ hj13 (by omega) (by omega) (by omega)).mono ?_
            rintro e w14 ⟨rfl, hm14, ho14⟩
            have U14 : Below W0.heap.size W0 w14 := U13.trans (ho14.below (by omega))
            have EY14 : Below W4.heap.size W4 w14 := EY13.trans (ho14.below (by omega))
            have IB14 := IB13.only ho14 (by omega)
            go_wp2_with fail
            refine (markInt64S_any Z2 n2 n2 (1 + 2 * (n0 : Int) + 7 * (n1 : Int)) z2 _ IB14 (by omega) (by omega) (by omega)).mono ?_
            rintro e w15 ⟨rfl, hm15, ho15⟩
            have U15 : Below W0.heap.size W0 w15 := U14.trans (ho15.below (by omega))
            have EY15 : Below W4.heap.size W4 w15 := EY14.trans (ho15.below (by omega))
            have hk3 : ¬ ((1 : Int) + 2 * (n0 : Int) + 7 * (n1 : Int) + (n2 : Int) < 0) := by omega
            have HG15 : Hid (∀ X, Below w15.heap.size w15 X → X.cell? ⟨w7.heap.size, 0, none⟩ = some (.int .i64 t0) ∧ X.cell? ⟨w7.heap.size, 1, none⟩ = some (.slice (some ⟨g7, 0, none⟩) lr.length c7)) := fun X hX => by
              have e1 : X.heap[w7.heap.size]? = w12.heap[w7.heap.size]? := (hX.block w7.heap.size (by have := ho15.size; have := ho14.size; have := ho13.size; have := bx12.size; omega)).trans ((ho15.block w7.heap.size (by omega)).trans ((ho14.block w7.heap.size (by omega)).trans ((ho13.block w7.heap.size (by omega)).trans (bx12.block w7.heap.size (by omega)))))
              obtain ⟨x0, x1⟩ := HG.out w12 G12
              exact ⟨(World.cell?_of_block (a := ⟨w7.heap.size, 0, none⟩) e1).trans x0, (World.cell?_of_block (a := ⟨w7.heap.size, 1, none⟩) e1).trans x1⟩
            have D7_15 := (((((D7_8.below Db).below D12).below bx12).blk (ho13.block g7 (by omega))).blk (ho14.block g7 (by omega))).blk (ho15.block g7 (by omega))
            have D4_15 := (((((D4_8.below Db).below D12).below bx12).blk (ho13.block g4 (by omega))).blk (ho14.block g4 (by omega))).blk (ho15.block g4 (by omega))
            obtain ⟨p0, p1⟩ := HG15.out _ (Below.refl _ _)
            obtain ⟨q0, q1⟩ := HY.out _ EY15
            go_wp2_with fail
            refine (eqProfile_same t0 _ _ lr.length c7 c4 lr _ (D7_15.toS rfl hc7 hm7 wfl) (D4_15.toS rfl hc4 hm4 wfl)).mono ?_
            rintro e w16 ⟨rfl, hb16⟩
            clear p0 p1 q0 q1
            have U16 := U15.then hb16 U15.size
            have EY16 := EY15.then hb16 EY15.size
            obtain ⟨p0, p1⟩ := HG15.out _ hb16
            have D7_16 := D7_15.below hb16
            have D4_16 := D4_15.below hb16
            have zU7 := U6z.size
            go_wp2_with fail
            refine (markProfileC_any t0 g7 lr.length c7 1 lr _ D7_16.toC (by omega) (by omega) (by omega)).mono ?_
            rintro e w17 ⟨rfl, hm17, ho17⟩
            clear p0 p1
            have bx16 : Below w16.heap.size w16 (w16.alloc (.cells #[.int .i64 t0, .slice (some ⟨g7, 0, none⟩) lr.length c7] 38)) := box_below
            have U17 : Below W0.heap.size W0 w17 := (U16.then bx16 U16.size).trans (ho17.below (by omega))
            have EY17 : Below W4.heap.size W4 w17 := (EY16.then bx16 EY16.size).trans (ho17.below (by omega))
            have D4_17 := (D4_16.below bx16).blk (ho17.block g4 (by omega))
            have hkl : ¬ ((1 : Int) + 2 * (lr.length : Int) < 0) := by omega
            have z16 := bx16.size
            have z1516 := hb16.size
            have zo17 := ho17.size
            have zo15 := ho15.size
            have zo14 := ho14.size
            have zo13 := ho13.size
            have zb12 := bx12.size
            have HG17 : Hid (∀ X, Below w17.heap.size w17 X → X.cell? ⟨w7.heap.size, 0, none⟩ = some (.int .i64 t0) ∧ X.cell? ⟨w7.heap.size, 1, none⟩ = some (.slice (some ⟨g7, 0, none⟩) lr.length c7)) := fun X hX => by
              have e1 : X.heap[w7.heap.size]? = w16.heap[w7.heap.size]? := (hX.block w7.heap.size (by omega)).trans ((ho17.block w7.heap.size (by omega)).trans (bx16.block w7.heap.size (by omega)))
              obtain ⟨x0, x1⟩ := HG15.out w16 hb16
              exact ⟨(World.cell?_of_block (a := ⟨w7.heap.size, 0, none⟩) e1).trans x0, (World.cell?_of_block (a := ⟨w7.heap.size, 1, none⟩) e1).trans x1⟩
            obtain ⟨p0, p1⟩ := HG17.out _ (Below.refl _ _)
            go_wp2_with fail
            refine (heldProfileC_any t0 g7 lr.length c7 1 _ hm17 (by omega) (by omega) (by omega)).mono ?_
            rintro e w18h ⟨rfl, hb17⟩
            clear p0 p1
            have U18 := U17.then hb17 U17.size
            have EY18 := EY17.then hb17 EY17.size
            obtain ⟨p0, p1⟩ := HP.out _ U18
            go_wp2_with fail
            refine (toProfile_any t0 a0 n0 cap0 l0 _ (HL0.out _ U18) hn).mono ?_
            rintro e w19 ⟨B4, rfl, hB4, hl4, hb19⟩
            clear p0 p1
            have U19 := U18.then hb19 U18.size
            go_wp2_with fail
            refine (toJobS_any a1 n1 cap1 l1 _ (HL1.out _ U19) (by omega)).mono ?_
            rintro e w20 ⟨C4, rfl, hC4, hj4, hb20⟩
            have U20 := U19.then hb20 U19.size
            go_wp2_with fail
            refine (toInt64S_any a2 n2 cap2 z2 _ (HL2.out _ U20) hm2).mono ?_
            rintro e w21 ⟨Z4, rfl, hZ4, hz4, hb21⟩
            have U21 := U20.then hb21 U20.size
            go_wp2_with fail
            refine (implLeft_any t0 _ _ _ n0 n0 n1 n1 n2 n2 l0 l1 z2 _ (((hl4.below hb20).below hb21).toS L0.len hn L0.wf) ((hj4.below hb21).toS L1.len (by omega) L1.wf) (by have := hz4.toB; rw [L2.len] at this; exact this.toS L2.len (Nat.le_refl _) (by unfold maxLen; omega))).mono ?_
            rintro e w22 ⟨T18, v18, n18, c18, r18, rfl, hb22, hA18⟩
            rw [HR0.out] at hA18
            obtain ⟨rfl, hT18, g18, rfl, rfl, hg18, hc18, hm18, D18⟩ := hA18
            replace hT18 := hT18.symm
            subst hT18
            have S22 := ((hb19.then hb20 hb19.size).then hb21 (hb19.then hb20 hb19.size).size).then hb22 ((hb19.then hb20 hb19.size).then hb21 (hb19.then hb20 hb19.size).size).size
            have U22 := U18.then S22 U18.size
            have EY22 := EY18.then S22 EY18.size
            have H22 := hb17.then S22 hb17.size
            obtain ⟨W22, hW22⟩ : ∃ W22, W22 = w22.alloc (.cells #[.int .i64 t0, .slice (some ⟨g18, 0, none⟩) lr.length c18] 38) := ⟨_, rfl⟩
            have b22 : Below w22.heap.size w22 W22 := by rw [hW22]; exact box_below
            have K22 : W22.heap[w22.heap.size]? = some (.cells #[.int .i64 t0, .slice (some ⟨g18, 0, none⟩) lr.length c18] 38 (0, 0)) := by rw [hW22]; exact heap_alloc_new _ _
            have lK22 : w22.heap.size < W22.heap.size := lt_of_block K22
            have HH : Hid (∀ X, Below W22.heap.size W22 X → X.cell? ⟨w22.heap.size, 0, none⟩ = some (.int .i64 t0) ∧ X.cell? ⟨w22.heap.size, 1, none⟩ = some (.slice (some ⟨g18, 0, none⟩) lr.length c18)) := fun X hX => by
              obtain ⟨x0, x1, _, _⟩ := boxed ((hX.block w22.heap.size lK22).trans K22)
              exact ⟨x0, x1⟩
            have UW22 := U22.then b22 U22.size
            have EY23 := EY22.then b22 EY22.size
            have H23 := H22.then b22 H22.size
            have D18W := D18.below b22
            have D4_23 := D4_17.below H23
            obtain ⟨p0, p1⟩ := HH.out _ (Below.refl _ _)
            obtain ⟨q0, q1⟩ := HY.out _ EY23
            rw [hW22] at p0 p1 q0 q1
            go_wp2_with fail
            rw [← hW22]
            clear hW22 K22
            refine (eqProfile_same t0 _ _ lr.length c18 c4 lr _ (D18W.toS rfl hc18 hm18 wfl) (D4_23.toS rfl hc4 hm4 wfl)).mono ?_
            rintro e w23 ⟨rfl, hb23⟩
            clear p0 p1 q0 q1
            have U23 := UW22.then hb23 UW22.size
            have H24 := H23.then hb23 H23.size
            obtain ⟨p0, p1⟩ := HG17.out _ H24
            go_wp2_with fail
            refine (heldProfileC_any t0 g7 lr.length c7 1 _ (hm17.below H24) (by omega) (by omega) (by omega)).mono ?_
            rintro e w25 ⟨rfl, hb25⟩
            go_wp2
            go_ret
            exact ⟨rfl, HE.out _ (U23.then hb25 U23.size)⟩
      · go_enter Try.func4, Try.ntmps4
        go_wp2_with fail
        rw [← HWE.out]
        refine (szProfile_any t0 a0 n0 cap0 _ _ (by omega) (by omega) (by omega)).mono ?_
        rw [if_neg (by omega)]
        rintro e w1 ⟨rfl, U1⟩
        go_wp2_with fail
        refine (szJobS_any a1 n1 cap1 _ _ (by omega) (by omega) (by omega)).mono ?_
        rw [if_pos (by omega)]
        rintro e w1b ⟨rfl, hq1⟩
        have hq1' := hq1.symm
        clear hq1
        subst hq1'
        go_wp2
        go_ret
        exact ⟨rfl, HE.out _ U1⟩
    · go_enter Try.func4, Try.ntmps4
      go_wp2_with fail
      rw [← HWE.out]
      refine (szProfile_any t0 a0 n0 cap0 _ _ (by omega) (by omega) (by omega)).mono ?_
      rw [if_pos (by omega)]
      rintro e w1 ⟨rfl, U1⟩
      go_wp2
      go_ret
      exact ⟨rfl, HE.out _ U1⟩
  · go_enter Try.func4, Try.ntmps4
    go_wp2
    go_ret
    exact ⟨rfl, by first | exact BW | (rw [HWE.out] at BW; exact BW)⟩

set_option maxRecDepth 100000 in
theorem lifted (os : Os) (started : os.Started) (H : Type) (enc : TypeId × Value → H) :
    ReturnsInHanded {} Try.checked os 4 .any (Rows.fnExactLeftSpec.pre6 enc Try.prog Try.f4 Rows.fnExactLeftRow.domain false) (Rows.fnExactLeftSpec.post enc Try.prog Try.f4 false true false false) := by
  refine returnsInHanded_of_change (C := Try.checked) own started (by kernel_rfl) Try.func4
    (ChangeSpec.witness6 (enc := enc) (C := Try.checked) false ⟨#[], #[.agg #[.int .i64 0, .slice none 0 0], .slice none 0 0, .slice none 0 0], []⟩ 8 (by kernel_rfl) (by kernel_rfl) (by kernel_rfl) (by kernel_rfl)) ?_
  intro W base args ds gs before hval0 hW hcnd _
  have hval : ∀ (j : Nat) t v, Try.f4.params[j]? = some t → args[j]? = some v → Value.okWide Try.prog W .any base t v := hval0
  have hW' := hW
  obtain ⟨p, q, hA0, hV, rfl, hfz, hnd⟩ := hW
  have hA : DataW.TrodAll enc Try.prog W 0 (fun _ => true) true Try.f4.params.toList args.toList ds p := hA0
  rw [Try.params4] at hA hval
  obtain ⟨v0, vs0, d0, ds0, p0, q0, hargs, rfl, rfl, h0, r0⟩ := trodAll_cons hA
  obtain ⟨v1, vs1, d1, ds1, p1, q1, rfl, rfl, rfl, h1, r1⟩ := trodAll_cons r0
  obtain ⟨v2, vs2, d2, ds2, p2, q2, rfl, rfl, rfl, h2, r2⟩ := trodAll_cons r1
  obtain ⟨rfl, rfl, rfl⟩ := trodAll_nil r2
  obtain rfl : args = #[v0, v1, v2] := by cases args; simp_all
  obtain ⟨rfl, rfl⟩ := trodVars_none hV
  have k0 := h0
  have lt0 : ∀ x ∈ p0, x.block < W.heap.size := by obtain ⟨m, hm⟩ := k0; exact DataW.trod_lt m _ _ _ hm
  obtain ⟨t0, a0, n0, cap0, l0, rfl, w0, L0⟩ := open_profile (hval 0 34 v0 rfl rfl) h0
  have k1 := h1
  have lt1 : ∀ x ∈ p1, x.block < W.heap.size := by obtain ⟨m, hm⟩ := k1; exact DataW.trod_lt m _ _ _ hm
  obtain ⟨a1, n1, cap1, l1, rfl, L1⟩ := open_jobs (hval 1 22 v1 rfl rfl) h1
  have k2 := h2
  have lt2 : ∀ x ∈ p2, x.block < W.heap.size := by obtain ⟨m, hm⟩ := k2; exact DataW.trod_lt m _ _ _ hm
  obtain ⟨a2, n2, cap2, z2, rfl, L2⟩ := open_intS (hval 2 23 v2 rfl rfl) h2
  clear hA0 hval0
  refine (walk t0 a0 n0 cap0 l0 a1 n1 cap1 l1 a2 n2 cap2 z2 W w0 L0 L1 L2).mono fun e W' ⟨he, bel⟩ => ?_
  subst he
  exact ⟨_, rfl, _, _, _, [], _, [], hW', trodAll_mk1 (shut_bool Try.underlying4 _), (trodAll_cons_mk (Below.trod laidOut (by kernel_rfl) (of_decide_eq_true (by kernel_rfl)) k0 bel lt0) (trodAll_cons_mk (Below.trod laidOut (by kernel_rfl) (of_decide_eq_true (by kernel_rfl)) k1 bel lt1) (trodAll_cons_mk (Below.trod laidOut (by kernel_rfl) (of_decide_eq_true (by kernel_rfl)) k2 bel lt2) trodAll_mk0))), rfl, bel.frame _, fun h => by cases h⟩

theorem over : Rows.fnExactLeftRow.holds Try.pinned (OpenSpec.ofChange Rows.fnExactLeftSpec) :=
  OpenClaim.holds_of_wide 4 Try.f4 rfl rfl rfl rfl rfl rfl rfl ⟨rfl, rfl, rfl, rfl, rfl⟩ rfl rfl rfl rfl rfl (by kernel_rfl) Try.func4 (by kernel_rfl)
    (of_decide_eq_true (by kernel_rfl)) (by unfold Func.isWrapper; first | (rw [if_pos (by decide +kernel)]; kernel_rfl) | (rw [if_neg (by decide +kernel)]; exact ⟨rfl, rfl⟩))
    (fun os started H enc _ => lifted os started H enc)

/-- the given statement -/
theorem proved : Rows.FnExactLeftSaid := over
#print axioms proved
end Go.Proofs.Ytcmpenlgkccgkaa.fnExactLeft
