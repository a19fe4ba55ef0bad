/- For every input that can be read the law FnExactPicked returns true, and what it was handed reads as before. The frame is the kit's; the opening of the arguments and the walk are ours. -/
import Derived.Test.YtkkbfblgnejonaaRows
import Derived.WalkKit
import Derived.ProofKit
import Derived.OpenShut
import Derived.ChangeOld
import Derived.Below
import Derived.Test.YtkkbfblgnejonaaNodeI
import Derived.Test.YtkkbfblgnejonaaPartMk
import Derived.Test.YtkkbfblgnejonaaIntArg
import Derived.Test.YtkkbfblgnejonaaNodeOpen
import Derived.Test.YtkkbfblgnejonaaPartOpen
namespace Go.Proofs.Ytkkbfblgnejonaa.fnExactPicked
open Go.ChangeShapes Go.WideShapes Go.ChangeAt Go.RowKit
open Go.Sort
set_option linter.unusedVariables false

theorem own : ownKnob Try.prog.godebug = none := by kernel_rfl
theorem laidOut : laidOutB Try.prog = true := by kernel_rfl

set_option maxHeartbeats 4000000 in
theorem walk (a0 : Option Addr) (n0 cap0 : Nat) (l0 : List Nd) (a1 : Option Addr) (n1 cap1 : Nat) (z1 : List Int) (a2 : Int) (w : World) (L0 : NodeS w a0 n0 cap0 l0) (L1 : IntS w a1 n1 cap1 z1) (w2 : (Lit.int .i64 a2).wf = true) :
    Calls Try.prog 7 #[.slice a0 n0 cap0, .slice a1 n1 cap1, .int .i64 a2] w fun e w' => e = .returned (.bool true) ∧ Below w.heap.size w w' := by
  have hmx := L0.mx
  have hle := L0.le
  have hmx1 := L1.mx
  have hle1 := L1.le
  by_cases hm : n1 ≤ 1048576
  · by_cases hn : n0 ≤ 1048576
    · obtain ⟨ys, hys⟩ : ∃ ys, ys = pkl l0 z1 a2 := ⟨_, rfl⟩
      obtain ⟨hy8, hwf⟩ := pkl_ok l0 z1 a2
      rw [← hys] at hy8 hwf
      have HYS : Hid (pkl l0 z1 a2 = ys) := hys.symm
      clear hys
      obtain ⟨q, hq⟩ : ∃ q, q = (pkF l0 z1 a2).isSome := ⟨_, rfl⟩
      have HQ : Hid ((pkF l0 z1 a2).isSome = q) := hq.symm
      clear hq
      go_enter Try.func7, Try.ntmps7
      go_wp2_with fail
      refine (szNodeS_any a0 n0 cap0 _ _ (by omega) (by omega) (by omega)).mono ?_
      rw [if_neg (by omega)]
      rintro e w1 ⟨rfl, rfl⟩
      go_wp2_with fail
      refine (toNodeS_any a0 n0 cap0 l0 _ L0 hn).mono ?_
      rintro e w2 ⟨B1, rfl, hB1, hl1, U2⟩
      go_wp2_with fail
      refine (toInt64S_any a1 n1 cap1 z1 _ (L1.below U2) hm).mono ?_
      rintro e w3 ⟨C1, rfl, hC1, hz1, hb3⟩
      have U3 := U2.then hb3 U2.size
      have i1 : IntB w3 C1 n1 z1 := by have := hz1.toB; rwa [L1.len] at this
      go_wp2_with fail
      refine (specPicked_any _ _ n0 n0 n1 n1 l0 z1 a2 _ (NodeB.toS (hl1.below hb3) L0.len hn L0.wf) (IntB.toS i1 L1.len (Nat.le_refl _) (by unfold maxLen; omega))).mono ?_
      rintro e w4 ⟨av, nv, cs, bs, rfl, hb4, pk4⟩
      obtain ⟨eb4, en4, hLs⟩ := pk4.lst
      clear pk4
      rw [HQ.out] at eb4
      rw [HYS.out] at en4 hLs
      subst en4
      subst eb4
      have U4 := U3.then hb4 U3.size
      have J4 : PartS w4 av ys.length cs ys := hLs.toS hwf
      clear hLs hl1 i1 hz1
      go_wp2_with fail
      refine (toNodeS_any a0 n0 cap0 l0 _ (L0.below U4) hn).mono ?_
      rintro e w5 ⟨B2, rfl, hB2, hl2, hb5⟩
      have U5 := U4.then hb5 U4.size
      go_wp2_with fail
      refine (toInt64S_any a1 n1 cap1 z1 _ (L1.below U5) hm).mono ?_
      rintro e w6 ⟨C2, rfl, hC2, hz2, hb6⟩
      have U6 := U5.then hb6 U5.size
      have i6 : IntB w6 C2 n1 z1 := by have := hz2.toB; rwa [L1.len] at this
      clear hz2
      have p6 := hl2.below hb6
      have zB2 := hl2.lt
      have zC2 := i6.lt
      have z5 := hb5.size
      have z6 := hb6.size
      go_wp2_with fail
      refine (implPicked_any _ _ n0 n0 n1 n1 l0 z1 a2 _ (NodeB.toS p6 L0.len hn L0.wf) (IntB.toS i6 L1.len (Nat.le_refl _) (by unfold maxLen; omega))).mono ?_
      rintro e w7 ⟨v7, n7, c7, b7, rfl, hb7, pk7⟩
      obtain ⟨eb7, en7, hL7⟩ := pk7.lst
      clear pk7
      rw [HQ.out] at eb7
      rw [HYS.out] at en7 hL7
      subst en7
      subst eb7
      have U7 := U6.then hb7 U6.size
      have Y7 := (hb5.then hb6 hb5.size).then hb7 (hb5.then hb6 hb5.size).size
      have i7 := i6.below hb7
      have p7 := p6.below hb7
      clear p6 i6
      go_wp2_with fail
      refine (eqPartS_same v7 _ ys.length c7 cs ys _ (hL7.toS hwf) (J4.below Y7)).mono ?_
      rintro e w8 ⟨rfl, hb8⟩
      have U8 := U7.then hb8 U7.size
      have Y8 := Y7.then hb8 Y7.size
      have i8 := i7.below hb8
      have p8 := p7.below hb8
      have hL8 := hL7.below hb8
      clear i7 p7 hL7
      go_wp2_with fail
      refine (toNodeS_any a0 n0 cap0 l0 _ (L0.below U8) hn).mono ?_
      rintro e w9 ⟨B3, rfl, hB3, hl3, hb9⟩
      have U9 := U8.then hb9 U8.size
      have p9 := p8.below hb9
      go_wp2_with fail
      refine (eqNodeS_same _ _ n0 n0 n0 l0 _ (NodeB.toS p9 L0.len hn L0.wf) (NodeB.toS hl3 L0.len hn L0.wf)).mono ?_
      rintro e w10 ⟨rfl, hb10⟩
      have U10 := U9.then hb10 U9.size
      go_wp2_with fail
      refine (toInt64S_any a1 n1 cap1 z1 _ (L1.below U10) hm).mono ?_
      rintro e w11 ⟨C3, rfl, hC3, hz3, hb11⟩
      have i3 : IntB w11 C3 n1 z1 := by have := hz3.toB; rwa [L1.len] at this
      have U11 := U10.then hb11 U10.size
      go_wp2_with fail
      refine (eqInt64S_same _ _ n1 n1 n1 z1 _ (IntB.toS (((i8.below hb9).below hb10).below hb11) L1.len (Nat.le_refl _) (by unfold maxLen; omega)) (IntB.toS i3 L1.len (Nat.le_refl _) (by unfold maxLen; omega))).mono ?_
      rintro e w12 ⟨rfl, hb12⟩
      have U12 := U11.then hb12 U11.size
      have Y9 := Y8.then hb9 Y8.size
      have Y10 := Y9.then hb10 Y9.size
      have Y11 := Y10.then hb11 Y10.size
      have Y12 := Y11.then hb12 Y11.size
      have i12 := (((i8.below hb9).below hb10).below hb11).below hb12
      have p12 := ((p9.below hb10).below hb11).below hb12
      have hL12 := (((hL8.below hb9).below hb10).below hb11).below hb12
      have zU4 := U4.size
      have zU6 := U6.size
      have z7 := hb7.size
      clear hz3 i3 hl3 i8 p8 p9 hL8 hl2 Y7 Y8 Y9 Y10 Y11
      go_wp2_with fail
      refine (markNodeS_any B2 n0 1 l0 _ p12 hn (by omega) (by omega)).mono ?_
      rintro e w13 ⟨rfl, hm13, ho13⟩
      have U13 := U12.trans (ho13.below (by omega))
      have Y13 := Y12.trans (ho13.below (by omega))
      have i13 := i12.only ho13 (by omega)
      go_wp2_with fail
      refine (markInt64S_any C2 n1 n1 (1 + 2 * (n0 : Int)) z1 _ i13 hm (by omega) (by omega)).mono ?_
      rintro e w14 ⟨rfl, hm14, ho14⟩
      have U14 := U13.trans (ho14.below (by omega))
      have Y14 := Y13.trans (ho14.below (by omega))
      have hk : ¬ ((1 : Int) + 2 * (n0 : Int) + (n1 : Int) < 0) := by omega
      have hL14 : PLst w14 w6.heap.size v7 ys.length c7 ys := by
        obtain ⟨e0, h⟩ := hL12
        refine ⟨e0, h.imp id ?_⟩
        rintro ⟨g, e, O⟩
        have hb := O.base
        exact ⟨g, e, (O.blk (ho13.block g (by omega))).blk (ho14.block g (by omega))⟩
      clear hL12 hm13 hm14 i12 i13 p12
      go_wp2_with fail
      refine (eqPartS_same v7 _ ys.length c7 cs ys _ (hL14.toS hwf) (J4.below Y14)).mono ?_
      rintro e w15 ⟨rfl, hb15⟩
      have U15 := U14.then hb15 U14.size
      have Y15 := Y14.then hb15 Y14.size
      go_wp2_with fail
      refine (markPLst_any w6.heap.size v7 ys.length c7 1 ys _ (hL14.below hb15) (by omega) (by omega) (by omega)).mono ?_
      rintro e w16 ⟨rfl, hm16, ho16⟩
      have U16 := U15.trans (ho16.mono zU6)
      have Y16 := Y15.trans (ho16.mono (by omega))
      have hky : ¬ ((1 : Int) + 2 * (ys.length : Int) < 0) := by omega
      go_wp2_with fail
      refine (heldPLst_any v7 ys.length c7 1 _ hm16 (by omega) (by omega) (by omega)).mono ?_
      rintro e w17 ⟨rfl, rfl⟩
      go_wp2_with fail
      refine (toNodeS_any a0 n0 cap0 l0 _ (L0.below U16) hn).mono ?_
      rintro e w18 ⟨B4, rfl, hB4, hl4, hb18⟩
      have U18 := U16.then hb18 U16.size
      have Y18 := Y16.then hb18 Y16.size
      have h18 := hm16.below hb18
      go_wp2_with fail
      refine (toInt64S_any a1 n1 cap1 z1 _ (L1.below U18) hm).mono ?_
      rintro e w19 ⟨C4, rfl, hC4, hz4, hb19⟩
      have i4 : IntB w19 C4 n1 z1 := by have := hz4.toB; rwa [L1.len] at this
      have U19 := U18.then hb19 U18.size
      have Y19 := Y18.then hb19 Y18.size
      have h19 := h18.below hb19
      go_wp2_with fail
      refine (implPicked_any _ _ n0 n0 n1 n1 l0 z1 a2 _ (NodeB.toS (hl4.below hb19) L0.len hn L0.wf) (IntB.toS i4 L1.len (Nat.le_refl _) (by unfold maxLen; omega))).mono ?_
      rintro e w20 ⟨v20, n20, c20, b20, rfl, hb20, pk20⟩
      obtain ⟨eb20, en20, hL20⟩ := pk20.lst
      clear pk20
      rw [HQ.out] at eb20
      rw [HYS.out] at en20 hL20
      subst en20
      subst eb20
      have U20 := U19.then hb20 U19.size
      have Y20 := Y19.then hb20 Y19.size
      have h20 := h19.below hb20
      go_wp2_with fail
      refine (eqPartS_same v20 _ ys.length c20 cs ys _ (hL20.toS hwf) (J4.below Y20)).mono ?_
      rintro e w21 ⟨rfl, hb21⟩
      have U21 := U20.then hb21 U20.size
      go_wp2_with fail
      refine (heldPLst_any v7 ys.length c7 1 _ (h20.below hb21) (by omega) (by omega) (by omega)).mono ?_
      rintro e w22 ⟨rfl, rfl⟩
      go_wp2
      go_ret
      exact ⟨rfl, U21⟩
    · go_enter Try.func7, Try.ntmps7
      go_wp2_with fail
      refine (szNodeS_any a0 n0 cap0 _ _ (by omega) (by omega) (by omega)).mono ?_
      rw [if_pos (by omega)]
      rintro e w1 ⟨rfl, rfl⟩
      go_wp2
      go_ret
      exact ⟨rfl, Below.refl _ _⟩
  · go_enter Try.func7, Try.ntmps7
    go_wp2
    go_ret
    exact ⟨rfl, Below.refl _ _⟩

set_option maxRecDepth 100000 in
theorem lifted (os : Os) (started : os.Started) (H : Type) (enc : TypeId × Value → H) :
    ReturnsInHanded {} Try.checked os 7 .any (Rows.fnExactPickedSpec.pre6 enc Try.prog Try.f7 Rows.fnExactPickedRow.domain false) (Rows.fnExactPickedSpec.post enc Try.prog Try.f7 false true false false) := by
  refine returnsInHanded_of_change (C := Try.checked) own started (by kernel_rfl) Try.func7
    (ChangeSpec.witness6 (enc := enc) (C := Try.checked) false ⟨#[], #[.slice none 0 0, .slice none 0 0, .int .i64 0], []⟩ 8 (by kernel_rfl) (by kernel_rfl) (by kernel_rfl) (by kernel_rfl)) ?_
  intro W base args ds gs before hval0 hW hcnd _
  have hval : ∀ (j : Nat) t v, Try.f7.params[j]? = some t → args[j]? = some v → Value.okWide Try.prog W .any base t v := hval0
  have hW' := hW
  obtain ⟨p, q, hA0, hV, rfl, hfz, hnd⟩ := hW
  have hA : DataW.TrodAll enc Try.prog W 0 (fun _ => true) true Try.f7.params.toList args.toList ds p := hA0
  rw [Try.params7] at hA hval
  obtain ⟨v0, vs0, d0, ds0, p0, q0, hargs, rfl, rfl, h0, r0⟩ := trodAll_cons hA
  obtain ⟨v1, vs1, d1, ds1, p1, q1, rfl, rfl, rfl, h1, r1⟩ := trodAll_cons r0
  obtain ⟨v2, vs2, d2, ds2, p2, q2, rfl, rfl, rfl, h2, r2⟩ := trodAll_cons r1
  obtain ⟨rfl, rfl, rfl⟩ := trodAll_nil r2
  obtain rfl : args = #[v0, v1, v2] := by cases args; simp_all
  obtain ⟨rfl, rfl⟩ := trodVars_none hV
  have k0 := h0
  have lt0 : ∀ x ∈ p0, x.block < W.heap.size := by obtain ⟨m, hm⟩ := k0; exact DataW.trod_lt m _ _ _ hm
  obtain ⟨a0, n0, cap0, l0, rfl, L0⟩ := open_nds (hval 0 38 v0 rfl rfl) h0
  have k1 := h1
  have lt1 : ∀ x ∈ p1, x.block < W.heap.size := by obtain ⟨m, hm⟩ := k1; exact DataW.trod_lt m _ _ _ hm
  obtain ⟨a1, n1, cap1, z1, rfl, L1⟩ := open_intS (hval 1 25 v1 rfl rfl) h1
  have k2 := h2
  have lt2 : ∀ x ∈ p2, x.block < W.heap.size := by obtain ⟨m, hm⟩ := k2; exact DataW.trod_lt m _ _ _ hm
  obtain ⟨a2, rfl, rfl, rfl, w2⟩ := open_int Try.underlying2 (hval 2 2 v2 rfl rfl) h2
  clear hA0 hval0
  refine (walk a0 n0 cap0 l0 a1 n1 cap1 z1 a2 W L0 L1 w2).mono fun e W' ⟨he, bel⟩ => ?_
  subst he
  exact ⟨_, rfl, _, _, _, [], _, [], hW', trodAll_mk1 (shut_bool Try.underlying4 _), (trodAll_cons_mk (Below.trod laidOut (by kernel_rfl) (of_decide_eq_true (by kernel_rfl)) k0 bel lt0) (trodAll_cons_mk (Below.trod laidOut (by kernel_rfl) (of_decide_eq_true (by kernel_rfl)) k1 bel lt1) (trodAll_cons_mk (Below.trod laidOut (by kernel_rfl) (of_decide_eq_true (by kernel_rfl)) k2 bel lt2) trodAll_mk0))), rfl, bel.frame _, fun h => by cases h⟩

theorem over : Rows.fnExactPickedRow.holds Try.pinned (OpenSpec.ofChange Rows.fnExactPickedSpec) :=
  OpenClaim.holds_of_wide 7 Try.f7 rfl rfl rfl rfl rfl rfl rfl ⟨rfl, rfl, rfl, rfl, rfl⟩ rfl rfl rfl rfl rfl (by kernel_rfl) Try.func7 (by kernel_rfl)
    (of_decide_eq_true (by kernel_rfl)) (by unfold Func.isWrapper; first | (rw [if_pos (by decide +kernel)]; kernel_rfl) | (rw [if_neg (by decide +kernel)]; exact ⟨rfl, rfl⟩))
    (fun os started H enc _ => lifted os started H enc)

/-- the given statement -/
theorem proved : Rows.FnExactPickedSaid := over
#print axioms proved
end Go.Proofs.Ytkkbfblgnejonaa.fnExactPicked
