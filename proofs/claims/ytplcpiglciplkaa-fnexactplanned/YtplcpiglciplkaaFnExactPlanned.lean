/- For every input that can be read the law FnExactPlanned returns true, and what it was handed reads as before. The frame is the kit's; the opening of the arguments and the walk are ours. -/
import Derived.Test.YtplcpiglciplkaaRows
import Derived.WalkKit
import Derived.ProofKit
import Derived.OpenShut
import Derived.ChangeOld
import Derived.Below
import Derived.Test.YtplcpiglciplkaaPlanI
import Derived.Test.YtplcpiglciplkaaPlanW
import Derived.Test.YtplcpiglciplkaaLInt
import Derived.Test.YtplcpiglciplkaaPkC
import Derived.Test.YtplcpiglciplkaaJobOpen
import Derived.Deep.RegionHeld3
namespace Go.Proofs.Ytplcpiglciplkaa.fnExactPlanned
open Go.ChangeShapes Go.WideShapes Go.ChangeAt Go.RowKit
open Go.Sort
set_option linter.unusedVariables false

theorem own : ownKnob Try.prog.godebug = none := by kernel_rfl
theorem laidOut : laidOutB Try.prog = true := by kernel_rfl

set_option maxRecDepth 8000 in
set_option maxHeartbeats 8000000 in
theorem walk (t0 : Int) (a0 : Option Addr) (n0 cap0 : Nat) (l0 : List Lev) (a1 : Option Addr) (n1 cap1 : Nat) (l1 : List Jb) (a2 : Int) (w : World) (w0 : (Lit.int .i64 t0).wf = true) (L0 : LevS w a0 n0 cap0 l0) (L1 : JobS w a1 n1 cap1 l1) (w2 : (Lit.int .i64 a2).wf = true) :
    Calls Try.prog 5 #[.agg #[.int .i64 t0, .slice a0 n0 cap0], .slice a1 n1 cap1, .int .i64 a2] w fun e w' => e = .returned (.bool true) ∧ Below w.heap.size w w' := by
  have hmx := L0.mx
  have hle := L0.le
  have hmx1 := L1.mx
  have hle1 := L1.le
  obtain ⟨W0, hW0⟩ : ∃ W0, W0 = w.alloc (.cells #[.int .i64 t0, .slice a0 n0 cap0] 51) := ⟨_, rfl⟩
  have BW : Below w.heap.size w W0 := by rw [hW0]; exact box_below
  have K0 : W0.heap[w.heap.size]? = some (.cells #[.int .i64 t0, .slice a0 n0 cap0] 51 (0, 0)) := by rw [hW0]; exact heap_alloc_new _ _
  have lK : w.heap.size < W0.heap.size := lt_of_block K0
  have HWE : Hid (W0 = w.alloc (.cells #[.int .i64 t0, .slice a0 n0 cap0] 51)) := hW0
  have HP : Hid (∀ X, Below W0.heap.size W0 X → X.cell? ⟨w.heap.size, 0, none⟩ = some (.int .i64 t0) ∧ X.cell? ⟨w.heap.size, 1, none⟩ = some (.slice a0 n0 cap0)) := fun X hX => by
    obtain ⟨x0, x1, _, _⟩ := boxed ((hX.block w.heap.size lK).trans K0)
    exact ⟨x0, x1⟩
  have HL0 : Hid (∀ X, Below W0.heap.size W0 X → LevS X a0 n0 cap0 l0) := fun X hX => L0.below (BW.trans (hX.mono (Nat.le_of_lt lK)))
  have HL1 : Hid (∀ X, Below W0.heap.size W0 X → JobS X a1 n1 cap1 l1) := fun X hX => L1.below (BW.trans (hX.mono (Nat.le_of_lt lK)))
  have HE : Hid (∀ X, Below W0.heap.size W0 X → Below w.heap.size w X) := fun X hX => BW.trans (hX.mono (Nat.le_of_lt lK))
  clear hW0 K0
  by_cases hn : n0 ≤ 1048576
  · by_cases hn1 : n1 ≤ 1048576 - n0
    · go_enter Try.func5, Try.ntmps5
      go_wp2_with fail
      rw [← HWE.out]
      refine (szProfile_any t0 a0 n0 cap0 _ _ (by omega) (by omega) (by omega)).mono ?_
      rw [if_neg (by omega)]
      rintro e w1 ⟨rfl, U1⟩
      go_wp2_with fail
      refine (szJobS_any a1 n1 cap1 _ _ (by omega) (by omega) (by omega)).mono ?_
      rw [if_neg (by omega)]
      rintro e w1b ⟨rfl, hq1⟩
      have hq1' := hq1.symm
      clear hq1
      subst hq1'
      obtain ⟨p0, p1⟩ := HP.out _ U1
      go_wp2_with fail
      refine (toProfile_any t0 a0 n0 cap0 l0 _ (HL0.out _ U1) hn).mono ?_
      rintro e w2 ⟨B1, rfl, hB1, hl1, hb2⟩
      clear p0 p1
      have U2 := U1.then hb2 U1.size
      go_wp2_with fail
      refine (toJobS_any a1 n1 cap1 l1 _ (HL1.out _ U2) (by omega)).mono ?_
      rintro e w3 ⟨C1, rfl, hC1, hj1, hb3⟩
      have U3 := U2.then hb3 U2.size
      go_wp2_with fail
      refine (specPlanned_any t0 a2 _ _ n0 n0 n1 n1 l0 l1 _ ((hl1.below hb3).toS L0.len hn L0.wf) (hj1.toS L1.len (by omega) L1.wf)).mono ?_
      rintro e w4 ⟨v, rfl, hO, hb4⟩
      obtain ⟨av, cs, hv, hLs⟩ := hO.toL
      subst hv
      have U4 := U3.then hb4 U3.size
      obtain ⟨ys, hys⟩ : ∃ ys, ys = plF t0 false l0 l1 a2 := ⟨_, rfl⟩
      rw [← hys] at hLs ⊢
      have hys40 : ys.length ≤ 1048576 := by
        rw [hys]; unfold plF; split
        · rw [staK_len]; have := L1.len; omega
        · simp
      have HYS : Hid _ := hys
      clear hys
      have J4 : IntS w4 av ys.length cs ys := hLs.toS
      clear hO hLs
      obtain ⟨p0, p1⟩ := HP.out _ U4
      go_wp2_with fail
      refine (toProfile_any t0 a0 n0 cap0 l0 _ (HL0.out _ U4) hn).mono ?_
      rintro e w5 ⟨B2, rfl, hB2, hl2, hb5⟩
      clear p0 p1
      have U5 := U4.then hb5 U4.size
      obtain ⟨W5, hW5⟩ : ∃ W5, W5 = w5.alloc (.cells #[.int .i64 t0, .slice (some ⟨B2, 0, none⟩) n0 n0] 26) := ⟨_, rfl⟩
      have b5 : Below w5.heap.size w5 W5 := by rw [hW5]; exact box_below
      have K5 : W5.heap[w5.heap.size]? = some (.cells #[.int .i64 t0, .slice (some ⟨B2, 0, none⟩) n0 n0] 26 (0, 0)) := by rw [hW5]; exact heap_alloc_new _ _
      have lK5 : w5.heap.size < W5.heap.size := lt_of_block K5
      have HX : Hid (∀ X, Below W5.heap.size W5 X → X.cell? ⟨w5.heap.size, 0, none⟩ = some (.int .i64 t0) ∧ X.cell? ⟨w5.heap.size, 1, none⟩ = some (.slice (some ⟨B2, 0, none⟩) n0 n0)) := fun X hX => by
        obtain ⟨x0, x1, _, _⟩ := boxed ((hX.block w5.heap.size lK5).trans K5)
        exact ⟨x0, x1⟩
      have UW5 := U5.then b5 U5.size
      have hl2W := hl2.below b5
      have zB2 := hl2.lt
      go_wp2_with fail
      rw [← hW5]
      clear hW5 K5
      refine (toJobS_any a1 n1 cap1 l1 _ (HL1.out _ UW5) (by omega)).mono ?_
      rintro e w6 ⟨C2, rfl, hC2, hj2, hb6⟩
      have U6 := UW5.then hb6 UW5.size
      obtain ⟨p0, p1⟩ := HX.out _ hb6
      have hl6 := hl2W.below hb6
      have zC6 := hj2.lt
      have z66 := hb6.size
      go_wp2_with fail
      refine (implPlanned_any t0 a2 _ _ n0 n0 n1 n1 l0 l1 _ (hl6.toS L0.len hn L0.wf) (hj2.toS L1.len (by omega) L1.wf)).mono ?_
      rintro e w7 ⟨v7, c7, rfl, hL7, hb7⟩
      rw [← HYS.out] at hL7 ⊢
      clear p0 p1
      have U7 := U6.then hb7 U6.size
      have E7 := hb6.then hb7 hb6.size
      have Y7 := (((hb5.then b5 hb5.size).then hb6 (hb5.then b5 hb5.size).size).then hb7 ((hb5.then b5 hb5.size).then hb6 (hb5.then b5 hb5.size).size).size)
      have hl7 := hl6.below hb7
      have hj7 := hj2.below hb7
      have zC2 := hj7.lt
      have z45 := hb5.size
      go_wp2_with fail
      refine (eqInt64S_same v7 _ ys.length c7 cs ys _ hL7.toS (J4.below Y7)).mono ?_
      rintro e w8 ⟨rfl, hb8⟩
      have U8 := U7.then hb8 U7.size
      have E8 := E7.then hb8 E7.size
      have Y8 := Y7.then hb8 Y7.size
      have hl8 := hl7.below hb8
      have hj8 := hj7.below hb8
      have hL8 := hL7.below hb8
      have HT : Hid (∀ X, Below w8.heap.size w8 X → X.cell? ⟨w.heap.size, 0, none⟩ = some (.int .i64 t0) ∧ X.cell? ⟨w.heap.size, 1, none⟩ = some (.slice a0 n0 cap0) ∧ X.cell? ⟨w5.heap.size, 0, none⟩ = some (.int .i64 t0) ∧ X.cell? ⟨w5.heap.size, 1, none⟩ = some (.slice (some ⟨B2, 0, none⟩) n0 n0)) := fun X hX => by
        obtain ⟨x0, x1⟩ := HP.out X (U8.then hX U8.size)
        obtain ⟨y0, y1⟩ := HX.out X (E8.then hX E8.size)
        exact ⟨x0, x1, y0, y1⟩
      obtain ⟨p0, p1, q0, q1⟩ := HT.out _ (Below.refl _ _)
      go_wp2_with fail
      go_region_held3 (fun w' => w'.cell? ⟨w.heap.size, 0, none⟩ = some (.int .i64 t0) ∧ w'.cell? ⟨w.heap.size, 1, none⟩ = some (.slice a0 n0 cap0) ∧ w'.cell? ⟨w5.heap.size, 0, none⟩ = some (.int .i64 t0) ∧ w'.cell? ⟨w5.heap.size, 1, none⟩ = some (.slice (some ⟨B2, 0, none⟩) n0 n0)) (first | exact HT.out _ (Below.refl _ _).drew | exact HT.out _ Da | exact HT.out _ Db | exact HT.out _ Da.drew | exact HT.out _ Db.drew) (first
        | (go_at_call 33; refine (toProfile_any t0 a0 n0 cap0 l0 _ (HL0.out _ (U8.then (Below.refl w8.heap.size w8).drew U8.size)) hn).mono ?_; rintro e wa ⟨B3, rfl, hB3, hl3, hba⟩; have Da := (Below.refl w8.heap.size w8).drew.trans hba)
        | (go_at_call 36; refine (eqProfile_same t0 _ _ n0 n0 n0 l0 _ ((hl8.below Da).toS L0.len hn L0.wf) (hl3.toS L0.len hn L0.wf)).mono ?_; rintro e wb ⟨rfl, hbb⟩; have Db := Da.then hbb Da.size))
      all_goals
        clear p0 p1 q0 q1 HT
        have UD := U8.then Db U8.size
        have ED := E8.then Db E8.size
        have YD := Y8.then Db Y8.size
        have hlD := hl8.below Db
        have hjD := hj8.below Db
        have hLD := hL8.below Db
        go_wp2_with fail
        refine (toJobS_any a1 n1 cap1 l1 _ (HL1.out _ UD) (by omega)).mono ?_
        rintro e w9 ⟨C3, rfl, hC3, hj3, hb9⟩
        have U9 := UD.then hb9 UD.size
        go_wp2_with fail
        refine (eqJobS_same _ _ n1 n1 n1 l1 _ ((hjD.below hb9).toS L1.len (by omega) L1.wf) (hj3.toS L1.len (by omega) L1.wf)).mono ?_
        rintro e w10 ⟨rfl, hb10⟩
        have U10 := U9.then hb10 U9.size
        have E10 := (ED.then hb9 ED.size).then hb10 (ED.then hb9 ED.size).size
        have Y10 := (YD.then hb9 YD.size).then hb10 (YD.then hb9 YD.size).size
        have hl10 := (hlD.below hb9).below hb10
        have hj10 := (hjD.below hb9).below hb10
        have hL10 := (hLD.below hb9).below hb10
        obtain ⟨p0, p1⟩ := HX.out _ E10
        go_wp2_with fail
        refine (markProfile_any t0 B2 n0 1 l0 _ hl10 hn (by omega) (by omega)).mono ?_
        rintro e w11 ⟨rfl, hm11, ho11⟩
        clear p0 p1
        have bx10 : Below w10.heap.size w10 (w10.alloc (.cells #[.int .i64 t0, .slice (some ⟨B2, 0, none⟩) n0 n0] 26)) := box_below
        have zU4 := U4.size
        have zY10 := Y10.size
        have zE10 := E10.size
        have z56 := b5.size
        have U11 : Below W0.heap.size W0 w11 := (U10.then bx10 U10.size).trans (ho11.below (by omega))
        have Y11 : Below w4.heap.size w4 w11 := (Y10.then bx10 Y10.size).trans (ho11.below (by omega))
        have hj11 := (hj10.below bx10).only ho11 (by omega)
        have hk1 : ¬ ((1 : Int) + 2 * (n0 : Int) < 0) := by omega
        go_wp2_with fail
        refine (markJobS_any C2 n1 (1 + 2 * (n0 : Int)) l1 _ hj11 (by omega) (by omega) (by omega)).mono ?_
        rintro e w12 ⟨rfl, hm12, ho12⟩
        have zU10 := U10.size
        have U12 : Below W0.heap.size W0 w12 := U11.trans (ho12.below (by omega))
        have Y12 : Below w4.heap.size w4 w12 := Y11.trans (ho12.below (by omega))
        have hk2 : ¬ ((1 : Int) + 2 * (n0 : Int) + 7 * (n1 : Int) < 0) := by omega
        have zw7 : w4.heap.size ≤ w6.heap.size := by have := hb6.size; omega
        obtain ⟨_, hLx⟩ := hL10
        rcases hLx with ⟨rfl, rfl, rfl⟩ | ⟨g, rfl, hgb, G10, hgc, hgm⟩
        · go_wp2_with fail
          refine (eqInt64S_same none _ 0 0 cs [] _ (IntS.nil_ _) (J4.below Y12)).mono ?_
          rintro e w13 ⟨rfl, hb13⟩
          have U13 := U12.then hb13 U12.size
          have Y13 := Y12.then hb13 Y12.size
          go_wp2_with fail
          refine (markNilI_any 1 _).mono ?_
          rintro e w14 ⟨rfl, hq14⟩
          have hq14' := hq14.symm
          clear hq14
          subst hq14'
          go_wp2_with fail
          refine (heldNilI_any 1 _).mono ?_
          rintro e w15 ⟨rfl, hq15⟩
          have hq15' := hq15.symm
          clear hq15
          subst hq15'
          obtain ⟨p0, p1⟩ := HP.out _ U13
          go_wp2_with fail
          refine (toProfile_any t0 a0 n0 cap0 l0 _ (HL0.out _ U13) hn).mono ?_
          rintro e w16 ⟨B4, rfl, hB4, hl4, hb16⟩
          clear p0 p1
          have U16 := U13.then hb16 U13.size
          have Y16 := Y13.then hb16 Y13.size
          go_wp2_with fail
          refine (toJobS_any a1 n1 cap1 l1 _ (HL1.out _ U16) (by omega)).mono ?_
          rintro e w17 ⟨C4, rfl, hC4, hj4, hb17⟩
          have U17 := U16.then hb17 U16.size
          have Y17 := Y16.then hb17 Y16.size
          go_wp2_with fail
          refine (implPlanned_any t0 a2 _ _ n0 n0 n1 n1 l0 l1 _ ((hl4.below hb17).toS L0.len hn L0.wf) (hj4.toS L1.len (by omega) L1.wf)).mono ?_
          rintro e w18 ⟨v18, c18, rfl, hL18, hb18⟩
          rw [← HYS.out] at hL18 ⊢
          have U18 := U17.then hb18 U17.size
          have Y18 := Y17.then hb18 Y17.size
          go_wp2_with fail
          refine (eqInt64S_same v18 _ 0 c18 cs [] _ hL18.toS (J4.below Y18)).mono ?_
          rintro e w19 ⟨rfl, hb19⟩
          have U19 := U18.then hb19 U18.size
          go_wp2_with fail
          refine (heldNilI_any 1 _).mono ?_
          rintro e w20 ⟨rfl, hq20⟩
          have hq20' := hq20.symm
          clear hq20
          subst hq20'
          go_wp2
          go_ret
          exact ⟨rfl, HE.out _ U19⟩
        · have G11 := ((G10.below bx10).only ho11 (by omega)).only ho12 (by omega)
          go_wp2_with fail
          refine (eqInt64S_same _ _ ys.length c7 cs ys _ (G11.toS rfl hgc hgm) (J4.below Y12)).mono ?_
          rintro e w13 ⟨rfl, hb13⟩
          have U13 := U12.then hb13 U12.size
          have Y13 := Y12.then hb13 Y12.size
          go_wp2_with fail
          refine (markInt64S_any g ys.length c7 1 ys _ (G11.below hb13) (by omega) (by omega) (by omega)).mono ?_
          rintro e w14 ⟨rfl, hm14, ho14⟩
          have zU4' := U6.size
          have U14 : Below W0.heap.size W0 w14 := U13.trans (ho14.below (by omega))
          have Y14 : Below w4.heap.size w4 w14 := Y13.trans (ho14.below (by omega))
          have hky : ¬ ((1 : Int) + (ys.length : Int) < 0) := by omega
          go_wp2_with fail
          refine (heldInt64S_any g ys.length c7 1 _ hm14 (by omega) (by omega) (by omega)).mono ?_
          rintro e w15 ⟨rfl, hq15⟩
          have hq15' := hq15.symm
          clear hq15
          subst hq15'
          obtain ⟨p0, p1⟩ := HP.out _ U14
          go_wp2_with fail
          refine (toProfile_any t0 a0 n0 cap0 l0 _ (HL0.out _ U14) hn).mono ?_
          rintro e w16 ⟨B4, rfl, hB4, hl4, hb16⟩
          clear p0 p1
          have U16 := U14.then hb16 U14.size
          have Y16 := Y14.then hb16 Y14.size
          go_wp2_with fail
          refine (toJobS_any a1 n1 cap1 l1 _ (HL1.out _ U16) (by omega)).mono ?_
          rintro e w17 ⟨C4, rfl, hC4, hj4, hb17⟩
          have U17 := U16.then hb17 U16.size
          have Y17 := Y16.then hb17 Y16.size
          go_wp2_with fail
          refine (implPlanned_any t0 a2 _ _ n0 n0 n1 n1 l0 l1 _ ((hl4.below hb17).toS L0.len hn L0.wf) (hj4.toS L1.len (by omega) L1.wf)).mono ?_
          rintro e w18 ⟨v18, c18, rfl, hL18, hb18⟩
          rw [← HYS.out] at hL18 ⊢
          have U18 := U17.then hb18 U17.size
          have Y18 := Y17.then hb18 Y17.size
          go_wp2_with fail
          refine (eqInt64S_same v18 _ ys.length c18 cs ys _ hL18.toS (J4.below Y18)).mono ?_
          rintro e w19 ⟨rfl, hb19⟩
          have U19 := U18.then hb19 U18.size
          go_wp2_with fail
          refine (heldInt64S_any g ys.length c7 1 _ ((((hm14.below hb16).below hb17).below hb18).below hb19) (by omega) (by omega) (by omega)).mono ?_
          rintro e w20 ⟨rfl, hq20⟩
          have hq20' := hq20.symm
          clear hq20
          subst hq20'
          go_wp2
          go_ret
          exact ⟨rfl, HE.out _ U19⟩
    · go_enter Try.func5, Try.ntmps5
      go_wp2_with fail
      rw [← HWE.out]
      refine (szProfile_any t0 a0 n0 cap0 _ _ (by omega) (by omega) (by omega)).mono ?_
      rw [if_neg (by omega)]
      rintro e w1 ⟨rfl, U1⟩
      go_wp2_with fail
      refine (szJobS_any a1 n1 cap1 _ _ (by omega) (by omega) (by omega)).mono ?_
      rw [if_pos (by omega)]
      rintro e w1b ⟨rfl, hq1⟩
      have hq1' := hq1.symm
      clear hq1
      subst hq1'
      go_wp2
      go_ret
      exact ⟨rfl, HE.out _ U1⟩
  · go_enter Try.func5, Try.ntmps5
    go_wp2_with fail
    rw [← HWE.out]
    refine (szProfile_any t0 a0 n0 cap0 _ _ (by omega) (by omega) (by omega)).mono ?_
    rw [if_pos (by omega)]
    rintro e w1 ⟨rfl, U1⟩
    go_wp2
    go_ret
    exact ⟨rfl, HE.out _ U1⟩

set_option maxRecDepth 100000 in
theorem lifted (os : Os) (started : os.Started) (H : Type) (enc : TypeId × Value → H) :
    ReturnsInHanded {} Try.checked os 5 .any (Rows.fnExactPlannedSpec.pre6 enc Try.prog Try.f5 Rows.fnExactPlannedRow.domain false) (Rows.fnExactPlannedSpec.post enc Try.prog Try.f5 false true false false) := by
  refine returnsInHanded_of_change (C := Try.checked) own started (by kernel_rfl) Try.func5
    (ChangeSpec.witness6 (enc := enc) (C := Try.checked) false ⟨#[], #[.agg #[.int .i64 0, .slice none 0 0], .slice none 0 0, .int .i64 0], []⟩ 8 (by kernel_rfl) (by kernel_rfl) (by kernel_rfl) (by kernel_rfl)) ?_
  intro W base args ds gs before hval0 hW hcnd _
  have hval : ∀ (j : Nat) t v, Try.f5.params[j]? = some t → args[j]? = some v → Value.okWide Try.prog W .any base t v := hval0
  have hW' := hW
  obtain ⟨p, q, hA0, hV, rfl, hfz, hnd⟩ := hW
  have hA : DataW.TrodAll enc Try.prog W 0 (fun _ => true) true Try.f5.params.toList args.toList ds p := hA0
  rw [Try.params5] at hA hval
  obtain ⟨v0, vs0, d0, ds0, p0, q0, hargs, rfl, rfl, h0, r0⟩ := trodAll_cons hA
  obtain ⟨v1, vs1, d1, ds1, p1, q1, rfl, rfl, rfl, h1, r1⟩ := trodAll_cons r0
  obtain ⟨v2, vs2, d2, ds2, p2, q2, rfl, rfl, rfl, h2, r2⟩ := trodAll_cons r1
  obtain ⟨rfl, rfl, rfl⟩ := trodAll_nil r2
  obtain rfl : args = #[v0, v1, v2] := by cases args; simp_all
  obtain ⟨rfl, rfl⟩ := trodVars_none hV
  have k0 := h0
  have lt0 : ∀ x ∈ p0, x.block < W.heap.size := by obtain ⟨m, hm⟩ := k0; exact DataW.trod_lt m _ _ _ hm
  obtain ⟨t0, a0, n0, cap0, l0, rfl, w0, L0⟩ := open_profile (hval 0 51 v0 rfl rfl) h0
  have k1 := h1
  have lt1 : ∀ x ∈ p1, x.block < W.heap.size := by obtain ⟨m, hm⟩ := k1; exact DataW.trod_lt m _ _ _ hm
  obtain ⟨a1, n1, cap1, l1, rfl, L1⟩ := open_jobs (hval 1 52 v1 rfl rfl) h1
  have k2 := h2
  have lt2 : ∀ x ∈ p2, x.block < W.heap.size := by obtain ⟨m, hm⟩ := k2; exact DataW.trod_lt m _ _ _ hm
  obtain ⟨a2, rfl, rfl, rfl, w2⟩ := open_int Try.underlying2 (hval 2 2 v2 rfl rfl) h2
  clear hA0 hval0
  refine (walk t0 a0 n0 cap0 l0 a1 n1 cap1 l1 a2 W w0 L0 L1 w2).mono fun e W' ⟨he, bel⟩ => ?_
  subst he
  exact ⟨_, rfl, _, _, _, [], _, [], hW', trodAll_mk1 (shut_bool Try.underlying4 _), (trodAll_cons_mk (Below.trod laidOut (by kernel_rfl) (of_decide_eq_true (by kernel_rfl)) k0 bel lt0) (trodAll_cons_mk (Below.trod laidOut (by kernel_rfl) (of_decide_eq_true (by kernel_rfl)) k1 bel lt1) (trodAll_cons_mk (Below.trod laidOut (by kernel_rfl) (of_decide_eq_true (by kernel_rfl)) k2 bel lt2) trodAll_mk0))), rfl, bel.frame _, fun h => by cases h⟩

theorem over : Rows.fnExactPlannedRow.holds Try.pinned (OpenSpec.ofChange Rows.fnExactPlannedSpec) :=
  OpenClaim.holds_of_wide 5 Try.f5 rfl rfl rfl rfl rfl rfl rfl ⟨rfl, rfl, rfl, rfl, rfl⟩ rfl rfl rfl rfl rfl (by kernel_rfl) Try.func5 (by kernel_rfl)
    (of_decide_eq_true (by kernel_rfl)) (by unfold Func.isWrapper; first | (rw [if_pos (by decide +kernel)]; kernel_rfl) | (rw [if_neg (by decide +kernel)]; exact ⟨rfl, rfl⟩))
    (fun os started H enc _ => lifted os started H enc)

/-- the given statement -/
theorem proved : Rows.FnExactPlannedSaid := over
#print axioms proved
end Go.Proofs.Ytplcpiglciplkaa.fnExactPlanned
