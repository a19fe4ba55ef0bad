/- For every input that can be read the law FnExactEarliest returns true, and what it was handed reads as before. The frame is the kit's; the opening of the arguments and the walk are ours. -/
import Derived.Test.YtmaojjjdepgaeaaRows
import Derived.WalkKit
import Derived.ProofKit
import Derived.OpenShut
import Derived.ChangeOld
import Derived.Below
import Derived.Test.YtmaojjjdepgaeaaTaskEr
import Derived.Test.YtmaojjjdepgaeaaEarS
import Derived.Test.YtmaojjjdepgaeaaIntArg
import Derived.Test.YtmaojjjdepgaeaaJobOpen
namespace Go.Proofs.Ytmaojjjdepgaeaa.fnExactEarliest
open Go.ChangeShapes Go.WideShapes Go.ChangeAt Go.RowKit
open Go.Sort
set_option linter.unusedVariables false

theorem own : ownKnob Try.prog.godebug = none := by kernel_rfl
theorem laidOut : laidOutB Try.prog = true := by kernel_rfl

set_option maxHeartbeats 1000000 in
theorem walk (a0 : Option Addr) (n0 cap0 : Nat) (l0 : List Jb) (w : World) (L0 : JobS w a0 n0 cap0 l0) :
    Calls Try.prog 10 #[.slice a0 n0 cap0] w fun e w' => e = .returned (.bool true) ∧ Below w.heap.size w w' := by
  have hmx := L0.mx
  have hle := L0.le
  have hlen := L0.len
  by_cases hn : n0 ≤ 1048576
  · go_enter Try.func10, Try.ntmps10
    go_wp2_with fail
    refine (szJobS_any a0 n0 cap0 _ _ (by omega) (by omega) (by omega)).mono ?_
    rw [if_neg (by omega)]
    rintro e w1 ⟨rfl, rfl⟩
    go_wp2_with fail
    refine (toJobS_any a0 n0 cap0 l0 _ L0 hn).mono ?_
    rintro e w2 ⟨B1, rfl, hB1, hl1, U2⟩
    go_wp2_with fail
    refine (specEarliest_any _ n0 n0 l0 _ (hl1.toS L0.len hn L0.wf)).mono ?_
    rintro e w3 ⟨gs, cs, ys, rfl, hQ, hy40, O3, hb3⟩
    have U3 := U2.then hb3 U2.size
    have HQ : Hid (IsEar l0 ys) := hQ
    clear hQ
    have J3 : IntS w3 (some ⟨gs, 0, none⟩) ys.length cs ys := (LInt.own O3).toS
    clear O3
    go_wp2_with fail
    refine (toJobS_any a0 n0 cap0 l0 _ (L0.below U3) hn).mono ?_
    rintro e w4 ⟨B2, rfl, hB2, hl2, hb4⟩
    have U4 := U3.then hb4 U3.size
    go_wp2_with fail
    refine (implEarliest_any _ n0 n0 l0 _ (hl2.toS L0.len hn L0.wf)).mono ?_
    rintro e w5 ⟨v, c, zs, rfl, hQz, hL, hb5⟩
    obtain rfl : ys = zs := HQ.out.uniq hQz
    clear hQz
    have U5 := U4.then hb5 U4.size
    have Y5 := hb4.then hb5 hb4.size
    have hl24 := hl2.lt
    obtain ⟨_, ⟨rfl, rfl, rfl⟩ | ⟨g, rfl, hgb, G5, hcl, hcm⟩⟩ := hL
    · go_wp2_with fail
      refine (eqInt64S_same none _ 0 0 cs [] _ (IntS.nil_ _) (J3.below Y5)).mono ?_
      rintro e w6 ⟨rfl, hb6⟩
      have U6 := U5.then hb6 U5.size
      have Y6 := Y5.then hb6 Y5.size
      go_wp2_with fail
      refine (toJobS_any a0 n0 cap0 l0 _ (L0.below U6) hn).mono ?_
      rintro e w7 ⟨B4, rfl, hB4, hl4, hb7⟩
      have U7 := U6.then hb7 U6.size
      have Y7 := Y6.then hb7 Y6.size
      have hx7 := ((hl2.below hb5).below hb6).below hb7
      go_wp2_with fail
      refine (eqJobS_same _ _ n0 n0 n0 l0 _ (hx7.toS L0.len hn L0.wf) (hl4.toS L0.len hn L0.wf)).mono ?_
      rintro e w8 ⟨rfl, hb8⟩
      have U8 := U7.then hb8 U7.size
      have Y8 := Y7.then hb8 Y7.size
      have hx8 := hx7.below hb8
      go_wp2_with fail
      refine (markJobS_any B2 n0 1 l0 _ hx8 hn (by omega) (by omega)).mono ?_
      rintro e w9 ⟨rfl, hm9, ho9⟩
      have hz3 := U3.size
      have U9 := U8.trans (ho9.below (by omega))
      have Y9 := Y8.trans (ho9.below hB2)
      have hk : ¬ ((1 : Int) + 7 * (n0 : Int) < 0) := by omega
      go_wp2_with fail
      refine (eqInt64S_same none _ 0 0 cs [] _ (IntS.nil_ _) (J3.below Y9)).mono ?_
      rintro e w10 ⟨rfl, hb10⟩
      have U10 := U9.then hb10 U9.size
      have Y10 := Y9.then hb10 Y9.size
      go_wp2_with fail
      refine (markNilI_any 1 _).mono ?_
      rintro e w11 ⟨rfl, rfl⟩
      go_wp2_with fail
      refine (heldNilI_any 1 _).mono ?_
      rintro e w12 ⟨rfl, rfl⟩
      go_wp2_with fail
      refine (toJobS_any a0 n0 cap0 l0 _ (L0.below U10) hn).mono ?_
      rintro e w13 ⟨B5, rfl, hB5, hl5, hb13⟩
      have U13 := U10.then hb13 U10.size
      have Y13 := Y10.then hb13 Y10.size
      go_wp2_with fail
      refine (implEarliest_any _ n0 n0 l0 _ (hl5.toS L0.len hn L0.wf)).mono ?_
      rintro e w14 ⟨v2, c2, zs, rfl, hQ2, hL2, hb14⟩
      obtain rfl : zs = [] := hQ2.uniq HQ.out
      clear hQ2
      have U14 := U13.then hb14 U13.size
      have Y14 := Y13.then hb14 Y13.size
      go_wp2_with fail
      refine (eqInt64S_same v2 _ 0 c2 cs [] _ hL2.toS (J3.below Y14)).mono ?_
      rintro e w15 ⟨rfl, hb15⟩
      have U15 := U14.then hb15 U14.size
      go_wp2_with fail
      refine (heldNilI_any 1 _).mono ?_
      rintro e w16 ⟨rfl, rfl⟩
      go_wp2
      go_ret
      exact ⟨rfl, U15⟩
    · have K5 : IntS _ _ ys.length c ys := G5.toS rfl hcl hcm
      go_wp2_with fail
      refine (eqInt64S_same _ _ ys.length c cs ys _ K5 (J3.below Y5)).mono ?_
      rintro e w6 ⟨rfl, hb6⟩
      have U6 := U5.then hb6 U5.size
      have Y6 := Y5.then hb6 Y5.size
      go_wp2_with fail
      refine (toJobS_any a0 n0 cap0 l0 _ (L0.below U6) hn).mono ?_
      rintro e w7 ⟨B4, rfl, hB4, hl4, hb7⟩
      have U7 := U6.then hb7 U6.size
      have Y7 := Y6.then hb7 Y6.size
      have hx7 := ((hl2.below hb5).below hb6).below hb7
      have hg7 := (G5.below hb6).below hb7
      go_wp2_with fail
      refine (eqJobS_same _ _ n0 n0 n0 l0 _ (hx7.toS L0.len hn L0.wf) (hl4.toS L0.len hn L0.wf)).mono ?_
      rintro e w8 ⟨rfl, hb8⟩
      have U8 := U7.then hb8 U7.size
      have Y8 := Y7.then hb8 Y7.size
      have hx8 := hx7.below hb8
      have hg8 := hg7.below hb8
      go_wp2_with fail
      refine (markJobS_any B2 n0 1 l0 _ hx8 hn (by omega) (by omega)).mono ?_
      rintro e w9 ⟨rfl, hm9, ho9⟩
      have hz3 := U3.size
      have hz4 := hb4.size
      have U9 := U8.trans (ho9.below (by omega))
      have Y9 := Y8.trans (ho9.below hB2)
      have hg9 := hg8.only ho9 (by omega)
      have hk : ¬ ((1 : Int) + 7 * (n0 : Int) < 0) := by omega
      go_wp2_with fail
      refine (eqInt64S_same _ _ ys.length c cs ys _ (hg9.toS rfl hcl hcm) (J3.below Y9)).mono ?_
      rintro e w10 ⟨rfl, hb10⟩
      have U10 := U9.then hb10 U9.size
      have Y10 := Y9.then hb10 Y9.size
      go_wp2_with fail
      refine (markInt64S_any g ys.length c 1 ys _ (hg9.below hb10) (by omega) (by omega) (by omega)).mono ?_
      rintro e w11 ⟨rfl, hm11, ho11⟩
      have U11 := U10.trans (ho11.below (by omega))
      have Y11 := Y10.trans (ho11.below (by omega))
      have hky : ¬ ((1 : Int) + (ys.length : Int) < 0) := by omega
      go_wp2_with fail
      refine (heldInt64S_any g ys.length c 1 _ hm11 (by omega) (by omega) (by omega)).mono ?_
      rintro e w12 ⟨rfl, rfl⟩
      go_wp2_with fail
      refine (toJobS_any a0 n0 cap0 l0 _ (L0.below U11) hn).mono ?_
      rintro e w13 ⟨B5, rfl, hB5, hl5, hb13⟩
      have U13 := U11.then hb13 U11.size
      have Y13 := Y11.then hb13 Y11.size
      go_wp2_with fail
      refine (implEarliest_any _ n0 n0 l0 _ (hl5.toS L0.len hn L0.wf)).mono ?_
      rintro e w14 ⟨v2, c2, zs, rfl, hQ2, hL2, hb14⟩
      obtain rfl : ys = zs := HQ.out.uniq hQ2
      clear hQ2
      have U14 := U13.then hb14 U13.size
      have Y14 := Y13.then hb14 Y13.size
      go_wp2_with fail
      refine (eqInt64S_same v2 _ ys.length c2 cs ys _ hL2.toS (J3.below Y14)).mono ?_
      rintro e w15 ⟨rfl, hb15⟩
      have U15 := U14.then hb15 U14.size
      go_wp2_with fail
      refine (heldInt64S_any g ys.length c 1 _ (((hm11.below hb13).below hb14).below hb15) (by omega) (by omega) (by omega)).mono ?_
      rintro e w16 ⟨rfl, rfl⟩
      go_wp2
      go_ret
      exact ⟨rfl, U15⟩
  · go_enter Try.func10, Try.ntmps10
    go_wp2_with fail
    refine (szJobS_any a0 n0 cap0 _ _ (by omega) (by omega) (by omega)).mono ?_
    rw [if_pos (by omega)]
    rintro e w1 ⟨rfl, rfl⟩
    go_wp2
    go_ret
    exact ⟨rfl, Below.refl _ _⟩

set_option maxRecDepth 100000 in
theorem lifted (os : Os) (started : os.Started) (H : Type) (enc : TypeId × Value → H) :
    ReturnsInHanded {} Try.checked os 10 .any (Rows.fnExactEarliestSpec.pre6 enc Try.prog Try.f10 Rows.fnExactEarliestRow.domain false) (Rows.fnExactEarliestSpec.post enc Try.prog Try.f10 false true false false) := by
  refine returnsInHanded_of_change (C := Try.checked) own started (by kernel_rfl) Try.func10
    (ChangeSpec.witness6 (enc := enc) (C := Try.checked) false ⟨#[], #[.slice none 0 0], []⟩ 8 (by kernel_rfl) (by kernel_rfl) (by kernel_rfl) (by kernel_rfl)) ?_
  intro W base args ds gs before hval0 hW hcnd _
  have hval : ∀ (j : Nat) t v, Try.f10.params[j]? = some t → args[j]? = some v → Value.okWide Try.prog W .any base t v := hval0
  have hW' := hW
  obtain ⟨p, q, hA0, hV, rfl, hfz, hnd⟩ := hW
  have hA : DataW.TrodAll enc Try.prog W 0 (fun _ => true) true Try.f10.params.toList args.toList ds p := hA0
  rw [Try.params10] at hA hval
  obtain ⟨v0, vs0, d0, ds0, p0, q0, hargs, rfl, rfl, h0, r0⟩ := trodAll_cons hA
  obtain ⟨rfl, rfl, rfl⟩ := trodAll_nil r0
  obtain rfl : args = #[v0] := by cases args; simp_all
  obtain ⟨rfl, rfl⟩ := trodVars_none hV
  have k0 := h0
  have lt0 : ∀ x ∈ p0, x.block < W.heap.size := by obtain ⟨m, hm⟩ := k0; exact DataW.trod_lt m _ _ _ hm
  obtain ⟨a0, n0, cap0, l0, rfl, L0⟩ := open_jobs (hval 0 50 v0 rfl rfl) h0
  clear hA0 hval0
  refine (walk a0 n0 cap0 l0 W L0).mono fun e W' ⟨he, bel⟩ => ?_
  subst he
  exact ⟨_, rfl, _, _, _, [], _, [], hW', trodAll_mk1 (shut_bool Try.underlying4 _), (trodAll_cons_mk (Below.trod laidOut (by kernel_rfl) (of_decide_eq_true (by kernel_rfl)) k0 bel lt0) trodAll_mk0), rfl, bel.frame _, fun h => by cases h⟩

theorem over : Rows.fnExactEarliestRow.holds Try.pinned (OpenSpec.ofChange Rows.fnExactEarliestSpec) :=
  OpenClaim.holds_of_wide 10 Try.f10 rfl rfl rfl rfl rfl rfl rfl ⟨rfl, rfl, rfl, rfl, rfl⟩ rfl rfl rfl rfl rfl (by kernel_rfl) Try.func10 (by kernel_rfl)
    (of_decide_eq_true (by kernel_rfl)) (by unfold Func.isWrapper; first | (rw [if_pos (by decide +kernel)]; kernel_rfl) | (rw [if_neg (by decide +kernel)]; exact ⟨rfl, rfl⟩))
    (fun os started H enc _ => lifted os started H enc)

/-- the given statement -/
theorem proved : Rows.FnExactEarliestSaid := over
#print axioms proved
end Go.Proofs.Ytmaojjjdepgaeaa.fnExactEarliest
