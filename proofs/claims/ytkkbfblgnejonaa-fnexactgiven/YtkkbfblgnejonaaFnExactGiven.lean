/- For every input that can be read the law FnExactGiven returns true, and what it was handed reads as before. The frame is the kit's; the opening of the arguments and the walk are ours. -/
import Derived.Test.YtkkbfblgnejonaaRows
import Derived.WalkKit
import Derived.ProofKit
import Derived.OpenShut
import Derived.ChangeOld
import Derived.Below
import Derived.Test.YtkkbfblgnejonaaNodeI
import Derived.Test.YtkkbfblgnejonaaIntArg
import Derived.Test.YtkkbfblgnejonaaPartOpen
namespace Go.Proofs.Ytkkbfblgnejonaa.fnExactGiven
open Go.ChangeShapes Go.WideShapes Go.ChangeAt Go.RowKit
open Go.Sort
set_option linter.unusedVariables false

theorem own : ownKnob Try.prog.godebug = none := by kernel_rfl
theorem laidOut : laidOutB Try.prog = true := by kernel_rfl

set_option maxHeartbeats 4000000 in
theorem walk (a0 : Option Addr) (n0 cap0 : Nat) (z0 : List Int) (a1 : Option Addr) (n1 cap1 : Nat) (l1 : List Pt) (w : World) (L0 : IntS w a0 n0 cap0 z0) (L1 : PartS w a1 n1 cap1 l1) :
    Calls Try.prog 9 #[.slice a0 n0 cap0, .slice a1 n1 cap1] w fun e w' => e = .returned (.bool true) ∧ Below w.heap.size w w' := by
  have hmx := L0.mx
  have hle := L0.le
  have hmx1 := L1.mx
  have hle1 := L1.le
  by_cases hm : n0 ≤ 1048576
  · by_cases hn : n1 ≤ 1048576
    · go_enter Try.func9, Try.ntmps9
      go_wp2_with fail
      refine (szPartS_any a1 n1 cap1 _ _ (by omega) (by omega) (by omega)).mono ?_
      rw [if_neg (by omega)]
      rintro e w1 ⟨rfl, rfl⟩
      go_wp2_with fail
      refine (toInt64S_any a0 n0 cap0 z0 _ L0 hm).mono ?_
      rintro e w2 ⟨B1, rfl, hB1, hz1, U2⟩
      have i1 : IntB w2 B1 n0 z0 := by have := hz1.toB; rwa [L0.len] at this
      go_wp2_with fail
      refine (toPartS_any a1 n1 cap1 l1 _ (L1.below U2) hn).mono ?_
      rintro e w3 ⟨C1, rfl, hC1, hp1, hb3⟩
      have U3 := U2.then hb3 U2.size
      obtain ⟨ys, hys⟩ : ∃ ys, ys = (chF z0 l1 (-1)).getD [] := ⟨_, rfl⟩
      have hys40 : ys.length ≤ 1048576 := by rw [hys]; have := chF_len z0 l1 (-1); have := L0.len; omega
      have HYS : Hid _ := hys
      go_wp2_with fail
      refine (specGiven_any _ _ n0 n0 n1 n1 z0 l1 _ (IntB.toS (i1.below hb3) L0.len (Nat.le_refl _) (by unfold maxLen; omega)) (PartB.toS hp1 L1.len (by omega) L1.wf) (fun e => by cases e) (by omega) (by omega)).mono ?_
      rw [← hys]
      clear hys
      rintro e w4 ⟨av, cs, rfl, hLs, hb4⟩
      have U4 := U3.then hb4 U3.size
      have J4 := hLs.toS
      clear hLs
      go_wp2_with fail
      refine (toInt64S_any a0 n0 cap0 z0 _ (L0.below U4) hm).mono ?_
      rintro e w5 ⟨B2, rfl, hB2, hz2, hb5⟩
      have i2 : IntB w5 B2 n0 z0 := by have := hz2.toB; rwa [L0.len] at this
      have U5 := U4.then hb5 U4.size
      go_wp2_with fail
      refine (toPartS_any a1 n1 cap1 l1 _ (L1.below U5) hn).mono ?_
      rintro e w6 ⟨C2, rfl, hC2, hp2, hb6⟩
      have U6 := U5.then hb6 U5.size
      have i6 := i2.below hb6
      have zB2 := i2.lt
      have zC2 := hp2.lt
      have z5 := hb5.size
      have z6 := hb6.size
      go_wp2_with fail
      refine (implGiven_any _ _ n0 n0 n1 n1 z0 l1 _ (IntB.toS i6 L0.len (Nat.le_refl _) (by unfold maxLen; omega)) (PartB.toS hp2 L1.len (by omega) L1.wf) (fun e => by cases e) (by omega) (by omega)).mono ?_
      rw [← HYS.out]
      rintro e w7 ⟨v7, c7, rfl, hL7, hb7⟩
      have U7 := U6.then hb7 U6.size
      have Y7 := (hb5.then hb6 hb5.size).then hb7 (hb5.then hb6 hb5.size).size
      have i7 := i6.below hb7
      have p7 := hp2.below hb7
      go_wp2_with fail
      refine (eqInt64S_same v7 _ ys.length c7 cs ys _ hL7.toS (J4.below Y7)).mono ?_
      rintro e w8 ⟨rfl, hb8⟩
      have U8 := U7.then hb8 U7.size
      have Y8 := Y7.then hb8 Y7.size
      have i8 := i7.below hb8
      have p8 := p7.below hb8
      have hL8 := hL7.below hb8
      go_wp2_with fail
      refine (toInt64S_any a0 n0 cap0 z0 _ (L0.below U8) hm).mono ?_
      rintro e w9 ⟨B3, rfl, hB3, hz3, hb9⟩
      have i3 : IntB w9 B3 n0 z0 := by have := hz3.toB; rwa [L0.len] at this
      have U9 := U8.then hb9 U8.size
      go_wp2_with fail
      refine (eqInt64S_same _ _ n0 n0 n0 z0 _ (IntB.toS (i8.below hb9) L0.len (Nat.le_refl _) (by unfold maxLen; omega)) (IntB.toS i3 L0.len (Nat.le_refl _) (by unfold maxLen; omega))).mono ?_
      rintro e w10 ⟨rfl, hb10⟩
      have U10 := U9.then hb10 U9.size
      go_wp2_with fail
      refine (toPartS_any a1 n1 cap1 l1 _ (L1.below U10) hn).mono ?_
      rintro e w11 ⟨C3, rfl, hC3, hp3, hb11⟩
      have U11 := U10.then hb11 U10.size
      go_wp2_with fail
      refine (eqPartS_same _ _ n1 n1 n1 l1 _ (PartB.toS (((p8.below hb9).below hb10).below hb11) L1.len (by omega) L1.wf) (PartB.toS hp3 L1.len (by omega) L1.wf)).mono ?_
      rintro e w12 ⟨rfl, hb12⟩
      have U12 := U11.then hb12 U11.size
      have Y12 := (((Y8.then hb9 Y8.size).then hb10 (Y8.then hb9 Y8.size).size).then hb11 ((Y8.then hb9 Y8.size).then hb10 (Y8.then hb9 Y8.size).size).size).then hb12 (((Y8.then hb9 Y8.size).then hb10 (Y8.then hb9 Y8.size).size).then hb11 ((Y8.then hb9 Y8.size).then hb10 (Y8.then hb9 Y8.size).size).size).size
      have i12 := (((i8.below hb9).below hb10).below hb11).below hb12
      have p12 := (((p8.below hb9).below hb10).below hb11).below hb12
      have hL12 := (((hL8.below hb9).below hb10).below hb11).below hb12
      have zU4 := U4.size
      have z7 := hb7.size
      clear hp1 i1 hp3 i3 hz1 hz2 hz3 i7 i8 p7 p8 hL7 hL8
      go_wp2_with fail
      refine (markInt64S_any B2 n0 n0 1 z0 _ i12 hm (by omega) (by omega)).mono ?_
      rintro e w13 ⟨rfl, hm13, ho13⟩
      have U13 := U12.trans (ho13.below (by omega))
      have Y13 := Y12.trans (ho13.below (by omega))
      have p13 := p12.only ho13 (by omega)
      go_wp2_with fail
      refine (markPartS_any C2 n1 (1 + (n0 : Int)) l1 _ p13 hn (by omega) (by omega)).mono ?_
      rintro e w14 ⟨rfl, hm14, ho14⟩
      have U14 := U13.trans (ho14.below (by omega))
      have Y14 := Y13.trans (ho14.below (by omega))
      have hk : ¬ ((1 : Int) + (n0 : Int) + 2 * (n1 : Int) < 0) := by omega
      obtain ⟨_, hLx⟩ := hL12
      rcases hLx with ⟨rfl, rfl, rfl⟩ | ⟨g, rfl, hgb, G12, hgc, hgm⟩
      · go_wp2_with fail
        refine (eqInt64S_same none _ 0 0 cs [] _ (IntS.nil_ _) (J4.below Y14)).mono ?_
        rintro e w15 ⟨rfl, hb15⟩
        have U15 := U14.then hb15 U14.size
        have Y15 := Y14.then hb15 Y14.size
        go_wp2_with fail
        refine (markNilI_any 1 _).mono ?_
        rintro e w16 ⟨rfl, hq16⟩
        have hq16' := hq16.symm
        clear hq16
        subst hq16'
        go_wp2_with fail
        refine (heldNilI_any 1 _).mono ?_
        rintro e w17 ⟨rfl, hq17⟩
        have hq17' := hq17.symm
        clear hq17
        subst hq17'
        go_wp2_with fail
        refine (toInt64S_any a0 n0 cap0 z0 _ (L0.below U15) hm).mono ?_
        rintro e w18 ⟨B4, rfl, hB4, hz4, hb18⟩
        have i4 : IntB w18 B4 n0 z0 := by have := hz4.toB; rwa [L0.len] at this
        have U18 := U15.then hb18 U15.size
        have Y18 := Y15.then hb18 Y15.size
        go_wp2_with fail
        refine (toPartS_any a1 n1 cap1 l1 _ (L1.below U18) hn).mono ?_
        rintro e w19 ⟨C4, rfl, hC4, hp4, hb19⟩
        have U19 := U18.then hb19 U18.size
        have Y19 := Y18.then hb19 Y18.size
        go_wp2_with fail
        refine (implGiven_any _ _ n0 n0 n1 n1 z0 l1 _ (IntB.toS (i4.below hb19) L0.len (Nat.le_refl _) (by unfold maxLen; omega)) (PartB.toS hp4 L1.len (by omega) L1.wf) (fun e => by cases e) (by omega) (by omega)).mono ?_
        rw [← HYS.out]
        rintro e w20 ⟨v20, c20, rfl, hL20, hb20⟩
        have U20 := U19.then hb20 U19.size
        have Y20 := Y19.then hb20 Y19.size
        go_wp2_with fail
        refine (eqInt64S_same v20 _ 0 c20 cs [] _ hL20.toS (J4.below Y20)).mono ?_
        rintro e w21 ⟨rfl, hb21⟩
        have U21 := U20.then hb21 U20.size
        go_wp2_with fail
        refine (heldNilI_any 1 _).mono ?_
        rintro e w22 ⟨rfl, hq22⟩
        have hq22' := hq22.symm
        clear hq22
        subst hq22'
        go_wp2
        go_ret
        exact ⟨rfl, U21⟩
      · have G14 := (G12.only ho13 (by omega)).only ho14 (by omega)
        go_wp2_with fail
        refine (eqInt64S_same _ _ ys.length c7 cs ys _ (G14.toS rfl hgc hgm) (J4.below Y14)).mono ?_
        rintro e w15 ⟨rfl, hb15⟩
        have U15 := U14.then hb15 U14.size
        have Y15 := Y14.then hb15 Y14.size
        go_wp2_with fail
        refine (markInt64S_any g ys.length c7 1 ys _ (G14.below hb15) (by omega) (by omega) (by omega)).mono ?_
        rintro e w16 ⟨rfl, hm16, ho16⟩
        have zU6 := U6.size
        have U16 := U15.trans (ho16.below (by omega))
        have Y16 := Y15.trans (ho16.below (by omega))
        have hky : ¬ ((1 : Int) + (ys.length : Int) < 0) := by omega
        go_wp2_with fail
        refine (heldInt64S_any g ys.length c7 1 _ hm16 (by omega) (by omega) (by omega)).mono ?_
        rintro e w17 ⟨rfl, hq17⟩
        have hq17' := hq17.symm
        clear hq17
        subst hq17'
        go_wp2_with fail
        refine (toInt64S_any a0 n0 cap0 z0 _ (L0.below U16) hm).mono ?_
        rintro e w18 ⟨B4, rfl, hB4, hz4, hb18⟩
        have i4 : IntB w18 B4 n0 z0 := by have := hz4.toB; rwa [L0.len] at this
        have U18 := U16.then hb18 U16.size
        have Y18 := Y16.then hb18 Y16.size
        have h18 := hm16.below hb18
        go_wp2_with fail
        refine (toPartS_any a1 n1 cap1 l1 _ (L1.below U18) hn).mono ?_
        rintro e w19 ⟨C4, rfl, hC4, hp4, hb19⟩
        have U19 := U18.then hb19 U18.size
        have Y19 := Y18.then hb19 Y18.size
        have h19 := h18.below hb19
        go_wp2_with fail
        refine (implGiven_any _ _ n0 n0 n1 n1 z0 l1 _ (IntB.toS (i4.below hb19) L0.len (Nat.le_refl _) (by unfold maxLen; omega)) (PartB.toS hp4 L1.len (by omega) L1.wf) (fun e => by cases e) (by omega) (by omega)).mono ?_
        rw [← HYS.out]
        rintro e w20 ⟨v20, c20, rfl, hL20, hb20⟩
        have U20 := U19.then hb20 U19.size
        have Y20 := Y19.then hb20 Y19.size
        have h20 := h19.below hb20
        go_wp2_with fail
        refine (eqInt64S_same v20 _ ys.length c20 cs ys _ hL20.toS (J4.below Y20)).mono ?_
        rintro e w21 ⟨rfl, hb21⟩
        have U21 := U20.then hb21 U20.size
        go_wp2_with fail
        refine (heldInt64S_any g ys.length c7 1 _ (h20.below hb21) (by omega) (by omega) (by omega)).mono ?_
        rintro e w22 ⟨rfl, hq22⟩
        have hq22' := hq22.symm
        clear hq22
        subst hq22'
        go_wp2
        go_ret
        exact ⟨rfl, U21⟩
    · go_enter Try.func9, Try.ntmps9
      go_wp2_with fail
      refine (szPartS_any a1 n1 cap1 _ _ (by omega) (by omega) (by omega)).mono ?_
      rw [if_pos (by omega)]
      rintro e w1 ⟨rfl, rfl⟩
      go_wp2
      go_ret
      exact ⟨rfl, Below.refl _ _⟩
  · go_enter Try.func9, Try.ntmps9
    go_wp2
    go_ret
    exact ⟨rfl, Below.refl _ _⟩

set_option maxRecDepth 100000 in
theorem lifted (os : Os) (started : os.Started) (H : Type) (enc : TypeId × Value → H) :
    ReturnsInHanded {} Try.checked os 9 .any (Rows.fnExactGivenSpec.pre6 enc Try.prog Try.f9 Rows.fnExactGivenRow.domain false) (Rows.fnExactGivenSpec.post enc Try.prog Try.f9 false true false false) := by
  refine returnsInHanded_of_change (C := Try.checked) own started (by kernel_rfl) Try.func9
    (ChangeSpec.witness6 (enc := enc) (C := Try.checked) false ⟨#[], #[.slice none 0 0, .slice none 0 0], []⟩ 8 (by kernel_rfl) (by kernel_rfl) (by kernel_rfl) (by kernel_rfl)) ?_
  intro W base args ds gs before hval0 hW hcnd _
  have hval : ∀ (j : Nat) t v, Try.f9.params[j]? = some t → args[j]? = some v → Value.okWide Try.prog W .any base t v := hval0
  have hW' := hW
  obtain ⟨p, q, hA0, hV, rfl, hfz, hnd⟩ := hW
  have hA : DataW.TrodAll enc Try.prog W 0 (fun _ => true) true Try.f9.params.toList args.toList ds p := hA0
  rw [Try.params9] at hA hval
  obtain ⟨v0, vs0, d0, ds0, p0, q0, hargs, rfl, rfl, h0, r0⟩ := trodAll_cons hA
  obtain ⟨v1, vs1, d1, ds1, p1, q1, rfl, rfl, rfl, h1, r1⟩ := trodAll_cons r0
  obtain ⟨rfl, rfl, rfl⟩ := trodAll_nil r1
  obtain rfl : args = #[v0, v1] := by cases args; simp_all
  obtain ⟨rfl, rfl⟩ := trodVars_none hV
  have k0 := h0
  have lt0 : ∀ x ∈ p0, x.block < W.heap.size := by obtain ⟨m, hm⟩ := k0; exact DataW.trod_lt m _ _ _ hm
  obtain ⟨a0, n0, cap0, z0, rfl, L0⟩ := open_intS (hval 0 25 v0 rfl rfl) h0
  have k1 := h1
  have lt1 : ∀ x ∈ p1, x.block < W.heap.size := by obtain ⟨m, hm⟩ := k1; exact DataW.trod_lt m _ _ _ hm
  obtain ⟨a1, n1, cap1, l1, rfl, L1⟩ := open_pts (hval 1 52 v1 rfl rfl) h1
  clear hA0 hval0
  refine (walk a0 n0 cap0 z0 a1 n1 cap1 l1 W L0 L1).mono fun e W' ⟨he, bel⟩ => ?_
  subst he
  exact ⟨_, rfl, _, _, _, [], _, [], hW', trodAll_mk1 (shut_bool Try.underlying4 _), (trodAll_cons_mk (Below.trod laidOut (by kernel_rfl) (of_decide_eq_true (by kernel_rfl)) k0 bel lt0) (trodAll_cons_mk (Below.trod laidOut (by kernel_rfl) (of_decide_eq_true (by kernel_rfl)) k1 bel lt1) trodAll_mk0)), rfl, bel.frame _, fun h => by cases h⟩

theorem over : Rows.fnExactGivenRow.holds Try.pinned (OpenSpec.ofChange Rows.fnExactGivenSpec) :=
  OpenClaim.holds_of_wide 9 Try.f9 rfl rfl rfl rfl rfl rfl rfl ⟨rfl, rfl, rfl, rfl, rfl⟩ rfl rfl rfl rfl rfl (by kernel_rfl) Try.func9 (by kernel_rfl)
    (of_decide_eq_true (by kernel_rfl)) (by unfold Func.isWrapper; first | (rw [if_pos (by decide +kernel)]; kernel_rfl) | (rw [if_neg (by decide +kernel)]; exact ⟨rfl, rfl⟩))
    (fun os started H enc _ => lifted os started H enc)

/-- the given statement -/
theorem proved : Rows.FnExactGivenSaid := over
#print axioms proved
end Go.Proofs.Ytkkbfblgnejonaa.fnExactGiven
