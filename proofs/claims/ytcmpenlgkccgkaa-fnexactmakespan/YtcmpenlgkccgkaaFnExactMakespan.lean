/- For every input that can be read the law FnExactMakespan returns true, and what it was handed reads as before. The frame is the kit's; the opening of the arguments and the walk are ours. -/
import Derived.Test.YtcmpenlgkccgkaaRows
import Derived.WalkKit
import Derived.ProofKit
import Derived.OpenShut
import Derived.ChangeOld
import Derived.Below
import Derived.Test.YtcmpenlgkccgkaaPlanI
import Derived.Test.YtcmpenlgkccgkaaPlanMk
import Derived.Test.YtcmpenlgkccgkaaIntArg
import Derived.Test.YtcmpenlgkccgkaaJobOpen
namespace Go.Proofs.Ytcmpenlgkccgkaa.fnExactMakespan
open Go.ChangeShapes Go.WideShapes Go.ChangeAt Go.RowKit
set_option linter.unusedVariables false

theorem own : ownKnob Try.prog.godebug = none := by kernel_rfl
theorem laidOut : laidOutB Try.prog = true := by kernel_rfl

set_option maxHeartbeats 1000000 in
theorem walk (a0 : Option Addr) (n0 cap0 : Nat) (l0 : List Jb) (a1 : Option Addr) (n1 cap1 : Nat) (z1 : List Int) (w : World) (L0 : JobS w a0 n0 cap0 l0) (L1 : IntS w a1 n1 cap1 z1) :
    Calls Try.prog 3 #[.slice a0 n0 cap0, .slice a1 n1 cap1] w fun e w' => e = .returned (.bool true) ∧ Below w.heap.size w w' := by
  have hmx := L0.mx
  have hle := L0.le
  have hmx1 := L1.mx
  have hle1 := L1.le
  by_cases hm : n1 ≤ 1048576
  · by_cases hn : n0 ≤ 1048576
    · go_enter Try.func3, Try.ntmps3
      go_wp2_with fail
      refine (szJobS_any a0 n0 cap0 _ _ (by omega) (by omega) (by omega)).mono ?_
      rw [if_neg (by omega)]
      rintro e w1 ⟨rfl, rfl⟩
      go_wp2_with fail
      refine (toJobS_any a0 n0 cap0 l0 _ L0 hn).mono ?_
      rintro e w2 ⟨B1, rfl, hB1, hl1, U2⟩
      go_wp2_with fail
      refine (toInt64S_any a1 n1 cap1 z1 _ (L1.below U2) hm).mono ?_
      rintro e w3 ⟨C1, rfl, hC1, hz1, hb3⟩
      have U3 := U2.then hb3 U2.size
      go_wp2_with fail
      refine (specMakespan_any _ _ n0 n0 n1 n1 l0 z1 _ ((hl1.below hb3).toS L0.len hn L0.wf) (by have := hz1.toB; rw [L1.len] at this; exact this.toS L1.len (Nat.le_refl _) (by unfold maxLen; omega))).mono ?_
      rintro e w4 ⟨rfl, hb4⟩
      have U4 := U3.then hb4 U3.size
      go_wp2_with fail
      refine (toJobS_any a0 n0 cap0 l0 _ (L0.below U4) hn).mono ?_
      rintro e w5 ⟨B2, rfl, hB2, hl2, hb5⟩
      have U5 := U4.then hb5 U4.size
      go_wp2_with fail
      refine (toInt64S_any a1 n1 cap1 z1 _ (L1.below U5) hm).mono ?_
      rintro e w6 ⟨C2, rfl, hC2, hz2, hb6⟩
      have U6 := U5.then hb6 U5.size
      have hzS : IntS w6 (some ⟨C2, 0, none⟩) n1 n1 z1 := by have := hz2.toB; rw [L1.len] at this; exact this.toS L1.len (Nat.le_refl _) (by unfold maxLen; omega)
      go_wp2_with fail
      refine (implMakespan_any _ _ n0 n0 n1 n1 l0 z1 _ ((hl2.below hb6).toS L0.len hn L0.wf) hzS).mono ?_
      rintro e w7 ⟨rfl, hb7⟩
      have U7 := U6.then hb7 U6.size
      go_wp2_with fail
      refine (toJobS_any a0 n0 cap0 l0 _ (L0.below U7) hn).mono ?_
      rintro e w8 ⟨B3, rfl, hB3, hl3, hb8⟩
      have U8 := U7.then hb8 U7.size
      go_wp2_with fail
      refine (eqJobS_same _ _ n0 n0 n0 l0 _ ((((hl2.below hb6).below hb7).below hb8).toS L0.len hn L0.wf) (hl3.toS L0.len hn L0.wf)).mono ?_
      rintro e w9 ⟨rfl, hb9⟩
      have U9 := U8.then hb9 U8.size
      go_wp2_with fail
      refine (toInt64S_any a1 n1 cap1 z1 _ (L1.below U9) hm).mono ?_
      rintro e w10 ⟨C3, rfl, hC3, hz3, hb10⟩
      have U10 := U9.then hb10 U9.size
      go_wp2_with fail
      refine (eqInt64S_same _ _ n1 n1 n1 z1 _ ((((hzS.below hb7).below hb8).below hb9).below hb10) (by have := hz3.toB; rw [L1.len] at this; exact this.toS L1.len (Nat.le_refl _) (by unfold maxLen; omega))).mono ?_
      rintro e w11 ⟨rfl, hb11⟩
      go_wp2
      go_ret
      exact ⟨rfl, U10.then hb11 U10.size⟩
    · go_enter Try.func3, Try.ntmps3
      go_wp2_with fail
      refine (szJobS_any a0 n0 cap0 _ _ (by omega) (by omega) (by omega)).mono ?_
      rw [if_pos (by omega)]
      rintro e w1 ⟨rfl, rfl⟩
      go_wp2
      go_ret
      exact ⟨rfl, Below.refl _ _⟩
  · go_enter Try.func3, Try.ntmps3
    go_wp2
    go_ret
    exact ⟨rfl, Below.refl _ _⟩

set_option maxRecDepth 100000 in
theorem lifted (os : Os) (started : os.Started) (H : Type) (enc : TypeId × Value → H) :
    ReturnsInHanded {} Try.checked os 3 .any (Rows.fnExactMakespanSpec.pre6 enc Try.prog Try.f3 Rows.fnExactMakespanRow.domain false) (Rows.fnExactMakespanSpec.post enc Try.prog Try.f3 false true false false) := by
  refine returnsInHanded_of_change (C := Try.checked) own started (by kernel_rfl) Try.func3
    (ChangeSpec.witness6 (enc := enc) (C := Try.checked) false ⟨#[], #[.slice none 0 0, .slice none 0 0], []⟩ 8 (by kernel_rfl) (by kernel_rfl) (by kernel_rfl) (by kernel_rfl)) ?_
  intro W base args ds gs before hval0 hW hcnd _
  have hval : ∀ (j : Nat) t v, Try.f3.params[j]? = some t → args[j]? = some v → Value.okWide Try.prog W .any base t v := hval0
  have hW' := hW
  obtain ⟨p, q, hA0, hV, rfl, hfz, hnd⟩ := hW
  have hA : DataW.TrodAll enc Try.prog W 0 (fun _ => true) true Try.f3.params.toList args.toList ds p := hA0
  rw [Try.params3] at hA hval
  obtain ⟨v0, vs0, d0, ds0, p0, q0, hargs, rfl, rfl, h0, r0⟩ := trodAll_cons hA
  obtain ⟨v1, vs1, d1, ds1, p1, q1, rfl, rfl, rfl, h1, r1⟩ := trodAll_cons r0
  obtain ⟨rfl, rfl, rfl⟩ := trodAll_nil r1
  obtain rfl : args = #[v0, v1] := by cases args; simp_all
  obtain ⟨rfl, rfl⟩ := trodVars_none hV
  have k0 := h0
  have lt0 : ∀ x ∈ p0, x.block < W.heap.size := by obtain ⟨m, hm⟩ := k0; exact DataW.trod_lt m _ _ _ hm
  obtain ⟨a0, n0, cap0, l0, rfl, L0⟩ := open_jobs (hval 0 22 v0 rfl rfl) h0
  have k1 := h1
  have lt1 : ∀ x ∈ p1, x.block < W.heap.size := by obtain ⟨m, hm⟩ := k1; exact DataW.trod_lt m _ _ _ hm
  obtain ⟨a1, n1, cap1, z1, rfl, L1⟩ := open_intS (hval 1 23 v1 rfl rfl) h1
  clear hA0 hval0
  refine (walk a0 n0 cap0 l0 a1 n1 cap1 z1 W L0 L1).mono fun e W' ⟨he, bel⟩ => ?_
  subst he
  exact ⟨_, rfl, _, _, _, [], _, [], hW', trodAll_mk1 (shut_bool Try.underlying4 _), (trodAll_cons_mk (Below.trod laidOut (by kernel_rfl) (of_decide_eq_true (by kernel_rfl)) k0 bel lt0) (trodAll_cons_mk (Below.trod laidOut (by kernel_rfl) (of_decide_eq_true (by kernel_rfl)) k1 bel lt1) trodAll_mk0)), rfl, bel.frame _, fun h => by cases h⟩

theorem over : Rows.fnExactMakespanRow.holds Try.pinned (OpenSpec.ofChange Rows.fnExactMakespanSpec) :=
  OpenClaim.holds_of_wide 3 Try.f3 rfl rfl rfl rfl rfl rfl rfl ⟨rfl, rfl, rfl, rfl, rfl⟩ rfl rfl rfl rfl rfl (by kernel_rfl) Try.func3 (by kernel_rfl)
    (of_decide_eq_true (by kernel_rfl)) (by unfold Func.isWrapper; first | (rw [if_pos (by decide +kernel)]; kernel_rfl) | (rw [if_neg (by decide +kernel)]; exact ⟨rfl, rfl⟩))
    (fun os started H enc _ => lifted os started H enc)

/-- the given statement -/
theorem proved : Rows.FnExactMakespanSaid := over
#print axioms proved
end Go.Proofs.Ytcmpenlgkccgkaa.fnExactMakespan
