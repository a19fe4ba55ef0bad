/- For every input that can be read the law FnExactPlanOk returns true, and what it was handed reads as before. The frame is the kit's; the opening of the arguments and the walk are ours. -/
import Derived.Test.YtcmpenlgkccgkaaRows
import Derived.WalkKit
import Derived.ProofKit
import Derived.OpenShut
import Derived.ChangeOld
import Derived.Below
import Derived.Test.YtcmpenlgkccgkaaPlanI
import Derived.Test.YtcmpenlgkccgkaaPlanOkS
import Derived.Test.YtcmpenlgkccgkaaIntArg
import Derived.Test.YtcmpenlgkccgkaaPkC
import Derived.Test.YtcmpenlgkccgkaaJobOpen
import Derived.Deep.RegionHeld3
namespace Go.Proofs.Ytcmpenlgkccgkaa.fnExactPlanOk
open Go.ChangeShapes Go.WideShapes Go.ChangeAt Go.RowKit
open Go.Sort
set_option linter.unusedVariables false

theorem own : ownKnob Try.prog.godebug = none := by kernel_rfl
theorem laidOut : laidOutB Try.prog = true := by kernel_rfl

set_option maxRecDepth 8000 in
set_option maxHeartbeats 8000000 in
theorem walk (t0 : Int) (a0 : Option Addr) (n0 cap0 : Nat) (l0 : List Lev) (a1 : Option Addr) (n1 cap1 : Nat) (l1 : List Jb) (a2 : Option Addr) (n2 cap2 : Nat) (z2 : List Int) (w : World) (w0 : (Lit.int .i64 t0).wf = true) (L0 : LevS w a0 n0 cap0 l0) (L1 : JobS w a1 n1 cap1 l1) (L2 : IntS w a2 n2 cap2 z2) :
    Calls Try.prog 5 #[.agg #[.int .i64 t0, .slice a0 n0 cap0], .slice a1 n1 cap1, .slice a2 n2 cap2] w fun e w' => e = .returned (.bool true) ∧ Below w.heap.size w w' := by
  have hmx := L0.mx
  have hle := L0.le
  have hmx1 := L1.mx
  have hle1 := L1.le
  obtain ⟨W0, hW0⟩ : ∃ W0, W0 = w.alloc (.cells #[.int .i64 t0, .slice a0 n0 cap0] 34) := ⟨_, rfl⟩
  have BW : Below w.heap.size w W0 := by rw [hW0]; exact box_below
  have K0 : W0.heap[w.heap.size]? = some (.cells #[.int .i64 t0, .slice a0 n0 cap0] 34 (0, 0)) := by rw [hW0]; exact heap_alloc_new _ _
  have lK : w.heap.size < W0.heap.size := lt_of_block K0
  have HWE : Hid (W0 = w.alloc (.cells #[.int .i64 t0, .slice a0 n0 cap0] 34)) := hW0
  have HP : Hid (∀ X, Below W0.heap.size W0 X → X.cell? ⟨w.heap.size, 0, none⟩ = some (.int .i64 t0) ∧ X.cell? ⟨w.heap.size, 1, none⟩ = some (.slice a0 n0 cap0)) := fun X hX => by
    obtain ⟨x0, x1, _, _⟩ := boxed ((hX.block w.heap.size lK).trans K0)
    exact ⟨x0, x1⟩
  have HL0 : Hid (∀ X, Below W0.heap.size W0 X → LevS X a0 n0 cap0 l0) := fun X hX => L0.below (BW.trans (hX.mono (Nat.le_of_lt lK)))
  have HL1 : Hid (∀ X, Below W0.heap.size W0 X → JobS X a1 n1 cap1 l1) := fun X hX => L1.below (BW.trans (hX.mono (Nat.le_of_lt lK)))
  have HE : Hid (∀ X, Below W0.heap.size W0 X → Below w.heap.size w X) := fun X hX => BW.trans (hX.mono (Nat.le_of_lt lK))
  have hmx2 := L2.mx
  have hle2 := L2.le
  have HL2 : Hid (∀ X, Below W0.heap.size W0 X → IntS X a2 n2 cap2 z2) := fun X hX => L2.below (BW.trans (hX.mono (Nat.le_of_lt lK)))
  clear hW0 K0
  by_cases hm2 : n2 ≤ 1048576
  · by_cases hn : n0 ≤ 1048576
    · by_cases hn1 : n1 ≤ 1048576 - n0
      · go_enter Try.func5, Try.ntmps5
        go_wp2_with fail
        rw [← HWE.out]
        refine (szProfile_any t0 a0 n0 cap0 _ _ (by omega) (by omega) (by omega)).mono ?_
        rw [if_neg (by omega)]
        rintro e w1 ⟨rfl, U1⟩
        go_wp2_with fail
        refine (szJobS_any a1 n1 cap1 _ _ (by omega) (by omega) (by omega)).mono ?_
        rw [if_neg (by omega)]
        rintro e w1b ⟨rfl, hq1⟩
        have hq1' := hq1.symm
        clear hq1
        subst hq1'
        obtain ⟨p0, p1⟩ := HP.out _ U1
        go_wp2_with fail
        refine (toProfile_any t0 a0 n0 cap0 l0 _ (HL0.out _ U1) hn).mono ?_
        rintro e w2 ⟨B1, rfl, hB1, hl1, hb2⟩
        clear p0 p1
        have U2 := U1.then hb2 U1.size
        go_wp2_with fail
        refine (toJobS_any a1 n1 cap1 l1 _ (HL1.out _ U2) (by omega)).mono ?_
        rintro e w3 ⟨C1, rfl, hC1, hj1, hb3⟩
        have U3 := U2.then hb3 U2.size
        go_wp2_with fail
        refine (toInt64S_any a2 n2 cap2 z2 _ (HL2.out _ U3) hm2).mono ?_
        rintro e w4 ⟨Z1, rfl, hZ1, hz1, hb4z⟩
        have U4 := U3.then hb4z U3.size
        have IZ1 : IntS w4 (some ⟨Z1, 0, none⟩) n2 n2 z2 := (by have := hz1.toB; rw [L2.len] at this; exact this.toS L2.len (Nat.le_refl _) (by unfold maxLen; omega))
        go_wp2_with fail
        refine (specPlanOk_any t0 _ _ _ n0 n0 n1 n1 n2 n2 l0 l1 z2 _ (((hl1.below hb3).below hb4z).toS L0.len hn L0.wf) ((hj1.below hb4z).toS L1.len (by omega) L1.wf) IZ1).mono ?_
        obtain ⟨r, hr⟩ : ∃ r, r = (lfF t0 l0 l1 z2).isSome := ⟨_, rfl⟩
        rw [← hr]
        have HR : Hid _ := hr
        clear hr
        rintro e w4b ⟨rfl, hb4⟩
        have U4 := U4.then hb4 U4.size
        obtain ⟨p0, p1⟩ := HP.out _ U4
        go_wp2_with fail
        refine (toProfile_any t0 a0 n0 cap0 l0 _ (HL0.out _ U4) hn).mono ?_
        rintro e w5 ⟨B2, rfl, hB2, hl2, hb5⟩
        clear p0 p1
        have U5 := U4.then hb5 U4.size
        obtain ⟨W5, hW5⟩ : ∃ W5, W5 = w5.alloc (.cells #[.int .i64 t0, .slice (some ⟨B2, 0, none⟩) n0 n0] 38) := ⟨_, rfl⟩
        have b5 : Below w5.heap.size w5 W5 := by rw [hW5]; exact box_below
        have K5 : W5.heap[w5.heap.size]? = some (.cells #[.int .i64 t0, .slice (some ⟨B2, 0, none⟩) n0 n0] 38 (0, 0)) := by rw [hW5]; exact heap_alloc_new _ _
        have lK5 : w5.heap.size < W5.heap.size := lt_of_block K5
        have HX : Hid (∀ X, Below W5.heap.size W5 X → X.cell? ⟨w5.heap.size, 0, none⟩ = some (.int .i64 t0) ∧ X.cell? ⟨w5.heap.size, 1, none⟩ = some (.slice (some ⟨B2, 0, none⟩) n0 n0)) := fun X hX => by
          obtain ⟨x0, x1, _, _⟩ := boxed ((hX.block w5.heap.size lK5).trans K5)
          exact ⟨x0, x1⟩
        have UW5 := U5.then b5 U5.size
        have hl2W := hl2.below b5
        go_wp2_with fail
        rw [← hW5]
        clear hW5 K5
        refine (toJobS_any a1 n1 cap1 l1 _ (HL1.out _ UW5) (by omega)).mono ?_
        rintro e w6 ⟨C2, rfl, hC2, hj2, hb6⟩
        have U6 := UW5.then hb6 UW5.size
        go_wp2_with fail
        refine (toInt64S_any a2 n2 cap2 z2 _ (HL2.out _ U6) hm2).mono ?_
        rintro e w6z ⟨Z2, rfl, hZ2, hz2, hb6z⟩
        have U6z := U6.then hb6z U6.size
        have E6 := hb6.then hb6z hb6.size
        have IZ2 : IntS w6z (some ⟨Z2, 0, none⟩) n2 n2 z2 := (by have := hz2.toB; rw [L2.len] at this; exact this.toS L2.len (Nat.le_refl _) (by unfold maxLen; omega))
        obtain ⟨p0, p1⟩ := HX.out _ E6
        have hl6 := (hl2W.below hb6).below hb6z
        have hj6 := hj2.below hb6z
        go_wp2_with fail
        refine (implPlanOk_any t0 _ _ _ n0 n0 n1 n1 n2 n2 l0 l1 z2 _ (hl6.toS L0.len hn L0.wf) (hj6.toS L1.len (by omega) L1.wf) IZ2).mono ?_
        rw [← HR.out]
        rintro e w7 ⟨rfl, hb7⟩
        clear p0 p1
        have U7 := U6z.then hb7 U6z.size
        have E7 := E6.then hb7 E6.size
        have hl7 := hl6.below hb7
        have hj7 := hj6.below hb7
        have IZ7 := IZ2.below hb7
        have hrr : (r != r) = false := by simp
        have HT : Hid (∀ X, Below w7.heap.size w7 X → X.cell? ⟨w.heap.size, 0, none⟩ = some (.int .i64 t0) ∧ X.cell? ⟨w.heap.size, 1, none⟩ = some (.slice a0 n0 cap0) ∧ X.cell? ⟨w5.heap.size, 0, none⟩ = some (.int .i64 t0) ∧ X.cell? ⟨w5.heap.size, 1, none⟩ = some (.slice (some ⟨B2, 0, none⟩) n0 n0)) := fun X hX => by
          obtain ⟨x0, x1⟩ := HP.out X (U7.then hX U7.size)
          obtain ⟨y0, y1⟩ := HX.out X (E7.then hX E7.size)
          exact ⟨x0, x1, y0, y1⟩
        obtain ⟨p0, p1, q0, q1⟩ := HT.out _ (Below.refl _ _)
        go_wp2_with fail
        go_region_held3 (fun w' => w'.cell? ⟨w.heap.size, 0, none⟩ = some (.int .i64 t0) ∧ w'.cell? ⟨w.heap.size, 1, none⟩ = some (.slice a0 n0 cap0) ∧ w'.cell? ⟨w5.heap.size, 0, none⟩ = some (.int .i64 t0) ∧ w'.cell? ⟨w5.heap.size, 1, none⟩ = some (.slice (some ⟨B2, 0, none⟩) n0 n0)) (first | exact HT.out _ (Below.refl _ _).drew | exact HT.out _ Da | exact HT.out _ Db | exact HT.out _ Da.drew | exact HT.out _ Db.drew) (first
          | (go_at_call 16; refine (toProfile_any t0 a0 n0 cap0 l0 _ (HL0.out _ (U7.then (Below.refl w7.heap.size w7).drew U7.size)) hn).mono ?_; rintro e wa ⟨B3, rfl, hB3, hl3, hba⟩; have Da := (Below.refl w7.heap.size w7).drew.trans hba)
          | (go_at_call 18; refine (eqProfile_same t0 _ _ n0 n0 n0 l0 _ ((hl7.below Da).toS L0.len hn L0.wf) (hl3.toS L0.len hn L0.wf)).mono ?_; rintro e wb ⟨rfl, hbb⟩; have Db := Da.then hbb Da.size))
        all_goals
          clear p0 p1 q0 q1 HT
          have UD := U7.then Db U7.size
          have hjD := hj7.below Db
          have IZD := IZ7.below Db
          go_wp2_with fail
          refine (toJobS_any a1 n1 cap1 l1 _ (HL1.out _ UD) (by omega)).mono ?_
          rintro e w9 ⟨C3, rfl, hC3, hj3, hb9⟩
          have U9 := UD.then hb9 UD.size
          go_wp2_with fail
          refine (eqJobS_same _ _ n1 n1 n1 l1 _ ((hjD.below hb9).toS L1.len (by omega) L1.wf) (hj3.toS L1.len (by omega) L1.wf)).mono ?_
          rintro e w10 ⟨rfl, hb10⟩
          have U10 := U9.then hb10 U9.size
          go_wp2_with fail
          refine (toInt64S_any a2 n2 cap2 z2 _ (HL2.out _ U10) hm2).mono ?_
          rintro e w11 ⟨Z3, rfl, hZ3, hz3, hb11⟩
          have U11 := U10.then hb11 U10.size
          go_wp2_with fail
          refine (eqInt64S_same _ _ n2 n2 n2 z2 _ (((IZD.below hb9).below hb10).below hb11) (by have := hz3.toB; rw [L2.len] at this; exact this.toS L2.len (Nat.le_refl _) (by unfold maxLen; omega))).mono ?_
          rintro e w12 ⟨rfl, hb12⟩
          go_wp2
          go_ret
          exact ⟨rfl, HE.out _ (U11.then hb12 U11.size)⟩
      · go_enter Try.func5, Try.ntmps5
        go_wp2_with fail
        rw [← HWE.out]
        refine (szProfile_any t0 a0 n0 cap0 _ _ (by omega) (by omega) (by omega)).mono ?_
        rw [if_neg (by omega)]
        rintro e w1 ⟨rfl, U1⟩
        go_wp2_with fail
        refine (szJobS_any a1 n1 cap1 _ _ (by omega) (by omega) (by omega)).mono ?_
        rw [if_pos (by omega)]
        rintro e w1b ⟨rfl, hq1⟩
        have hq1' := hq1.symm
        clear hq1
        subst hq1'
        go_wp2
        go_ret
        exact ⟨rfl, HE.out _ U1⟩
    · go_enter Try.func5, Try.ntmps5
      go_wp2_with fail
      rw [← HWE.out]
      refine (szProfile_any t0 a0 n0 cap0 _ _ (by omega) (by omega) (by omega)).mono ?_
      rw [if_pos (by omega)]
      rintro e w1 ⟨rfl, U1⟩
      go_wp2
      go_ret
      exact ⟨rfl, HE.out _ U1⟩
  · go_enter Try.func5, Try.ntmps5
    go_wp2
    go_ret
    exact ⟨rfl, by first | exact BW | (rw [HWE.out] at BW; exact BW)⟩

set_option maxRecDepth 100000 in
theorem lifted (os : Os) (started : os.Started) (H : Type) (enc : TypeId × Value → H) :
    ReturnsInHanded {} Try.checked os 5 .any (Rows.fnExactPlanOkSpec.pre6 enc Try.prog Try.f5 Rows.fnExactPlanOkRow.domain false) (Rows.fnExactPlanOkSpec.post enc Try.prog Try.f5 false true false false) := by
  refine returnsInHanded_of_change (C := Try.checked) own started (by kernel_rfl) Try.func5
    (ChangeSpec.witness6 (enc := enc) (C := Try.checked) false ⟨#[], #[.agg #[.int .i64 0, .slice none 0 0], .slice none 0 0, .slice none 0 0], []⟩ 8 (by kernel_rfl) (by kernel_rfl) (by kernel_rfl) (by kernel_rfl)) ?_
  intro W base args ds gs before hval0 hW hcnd _
  have hval : ∀ (j : Nat) t v, Try.f5.params[j]? = some t → args[j]? = some v → Value.okWide Try.prog W .any base t v := hval0
  have hW' := hW
  obtain ⟨p, q, hA0, hV, rfl, hfz, hnd⟩ := hW
  have hA : DataW.TrodAll enc Try.prog W 0 (fun _ => true) true Try.f5.params.toList args.toList ds p := hA0
  rw [Try.params5] at hA hval
  obtain ⟨v0, vs0, d0, ds0, p0, q0, hargs, rfl, rfl, h0, r0⟩ := trodAll_cons hA
  obtain ⟨v1, vs1, d1, ds1, p1, q1, rfl, rfl, rfl, h1, r1⟩ := trodAll_cons r0
  obtain ⟨v2, vs2, d2, ds2, p2, q2, rfl, rfl, rfl, h2, r2⟩ := trodAll_cons r1
  obtain ⟨rfl, rfl, rfl⟩ := trodAll_nil r2
  obtain rfl : args = #[v0, v1, v2] := by cases args; simp_all
  obtain ⟨rfl, rfl⟩ := trodVars_none hV
  have k0 := h0
  have lt0 : ∀ x ∈ p0, x.block < W.heap.size := by obtain ⟨m, hm⟩ := k0; exact DataW.trod_lt m _ _ _ hm
  obtain ⟨t0, a0, n0, cap0, l0, rfl, w0, L0⟩ := open_profile (hval 0 34 v0 rfl rfl) h0
  have k1 := h1
  have lt1 : ∀ x ∈ p1, x.block < W.heap.size := by obtain ⟨m, hm⟩ := k1; exact DataW.trod_lt m _ _ _ hm
  obtain ⟨a1, n1, cap1, l1, rfl, L1⟩ := open_jobs (hval 1 22 v1 rfl rfl) h1
  have k2 := h2
  have lt2 : ∀ x ∈ p2, x.block < W.heap.size := by obtain ⟨m, hm⟩ := k2; exact DataW.trod_lt m _ _ _ hm
  obtain ⟨a2, n2, cap2, z2, rfl, L2⟩ := open_intS (hval 2 23 v2 rfl rfl) h2
  clear hA0 hval0
  refine (walk t0 a0 n0 cap0 l0 a1 n1 cap1 l1 a2 n2 cap2 z2 W w0 L0 L1 L2).mono fun e W' ⟨he, bel⟩ => ?_
  subst he
  exact ⟨_, rfl, _, _, _, [], _, [], hW', trodAll_mk1 (shut_bool Try.underlying4 _), (trodAll_cons_mk (Below.trod laidOut (by kernel_rfl) (of_decide_eq_true (by kernel_rfl)) k0 bel lt0) (trodAll_cons_mk (Below.trod laidOut (by kernel_rfl) (of_decide_eq_true (by kernel_rfl)) k1 bel lt1) (trodAll_cons_mk (Below.trod laidOut (by kernel_rfl) (of_decide_eq_true (by kernel_rfl)) k2 bel lt2) trodAll_mk0))), rfl, bel.frame _, fun h => by cases h⟩

theorem over : Rows.fnExactPlanOkRow.holds Try.pinned (OpenSpec.ofChange Rows.fnExactPlanOkSpec) :=
  OpenClaim.holds_of_wide 5 Try.f5 rfl rfl rfl rfl rfl rfl rfl ⟨rfl, rfl, rfl, rfl, rfl⟩ rfl rfl rfl rfl rfl (by kernel_rfl) Try.func5 (by kernel_rfl)
    (of_decide_eq_true (by kernel_rfl)) (by unfold Func.isWrapper; first | (rw [if_pos (by decide +kernel)]; kernel_rfl) | (rw [if_neg (by decide +kernel)]; exact ⟨rfl, rfl⟩))
    (fun os started H enc _ => lifted os started H enc)

/-- the given statement -/
theorem proved : Rows.FnExactPlanOkSaid := over
#print axioms proved
end Go.Proofs.Ytcmpenlgkccgkaa.fnExactPlanOk
