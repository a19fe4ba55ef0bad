/- For every input that can be read the law FnExactNodesOk returns true, and what it was handed reads as before. The frame is the kit's; the opening of the arguments and the walk are ours. -/
import Derived.Test.YtkkbfblgnejonaaRows
import Derived.WalkKit
import Derived.ProofKit
import Derived.OpenShut
import Derived.ChangeOld
import Derived.Below
import Derived.Test.YtkkbfblgnejonaaNodeI
import Derived.Test.YtkkbfblgnejonaaNodeOpen
namespace Go.Proofs.Ytkkbfblgnejonaa.fnExactNodesOk
open Go.ChangeShapes Go.WideShapes Go.ChangeAt Go.RowKit
set_option linter.unusedVariables false

theorem own : ownKnob Try.prog.godebug = none := by kernel_rfl
theorem laidOut : laidOutB Try.prog = true := by kernel_rfl

set_option maxHeartbeats 1000000 in
theorem walk (a0 : Option Addr) (n0 cap0 : Nat) (l0 : List Nd) (w : World) (L0 : NodeS w a0 n0 cap0 l0) :
    Calls Try.prog 4 #[.slice a0 n0 cap0] w fun e w' => e = .returned (.bool true) ∧ Below w.heap.size w w' := by
  have hmx := L0.mx
  have hle := L0.le
  by_cases hn : n0 ≤ 1048576
  · go_enter Try.func4, Try.ntmps4
    go_wp2_with fail
    refine (szNodeS_any a0 n0 cap0 _ _ (by omega) (by omega) (by omega)).mono ?_
    rw [if_neg (by omega)]
    rintro e w1 ⟨rfl, rfl⟩
    go_wp2_with fail
    refine (toNodeS_any a0 n0 cap0 l0 _ L0 hn).mono ?_
    rintro e w2 ⟨B1, rfl, hB1, hl1, U2⟩
    go_wp2_with fail
    refine (specNodesOk_b _ n0 n0 l0 _ (hl1.toS L0.len hn L0.wf)).mono ?_
    rintro e w3 ⟨rfl, hb3⟩
    have U3 := U2.then hb3 U2.size
    go_wp2_with fail
    refine (toNodeS_any a0 n0 cap0 l0 _ (L0.below U3) hn).mono ?_
    rintro e w4 ⟨B2, rfl, hB2, hl2, hb4⟩
    have U4 := U3.then hb4 U3.size
    go_wp2_with fail
    refine (implNodesOk_any _ n0 n0 l0 _ (hl2.toS L0.len hn L0.wf)).mono ?_
    rintro e w5 ⟨rfl, hb5⟩
    have U5 := U4.then hb5 U4.size
    go_wp2_with fail
    refine (toNodeS_any a0 n0 cap0 l0 _ (L0.below U5) hn).mono ?_
    rintro e w6 ⟨B3, rfl, hB3, hl3, hb6⟩
    have U6 := U5.then hb6 U5.size
    go_wp2_with fail
    refine (eqNodeS_same _ _ n0 n0 n0 l0 _ (((hl2.below hb5).below hb6).toS L0.len hn L0.wf) (hl3.toS L0.len hn L0.wf)).mono ?_
    rintro e w7 ⟨rfl, hb7⟩
    go_wp2
    go_ret
    exact ⟨rfl, U6.then hb7 U6.size⟩
  · go_enter Try.func4, Try.ntmps4
    go_wp2_with fail
    refine (szNodeS_any a0 n0 cap0 _ _ (by omega) (by omega) (by omega)).mono ?_
    rw [if_pos (by omega)]
    rintro e w1 ⟨rfl, rfl⟩
    go_wp2
    go_ret
    exact ⟨rfl, Below.refl _ _⟩

set_option maxRecDepth 100000 in
theorem lifted (os : Os) (started : os.Started) (H : Type) (enc : TypeId × Value → H) :
    ReturnsInHanded {} Try.checked os 4 .any (Rows.fnExactNodesOkSpec.pre6 enc Try.prog Try.f4 Rows.fnExactNodesOkRow.domain false) (Rows.fnExactNodesOkSpec.post enc Try.prog Try.f4 false true false false) := by
  refine returnsInHanded_of_change (C := Try.checked) own started (by kernel_rfl) Try.func4
    (ChangeSpec.witness6 (enc := enc) (C := Try.checked) false ⟨#[], #[.slice none 0 0], []⟩ 8 (by kernel_rfl) (by kernel_rfl) (by kernel_rfl) (by kernel_rfl)) ?_
  intro W base args ds gs before hval0 hW hcnd _
  have hval : ∀ (j : Nat) t v, Try.f4.params[j]? = some t → args[j]? = some v → Value.okWide Try.prog W .any base t v := hval0
  have hW' := hW
  obtain ⟨p, q, hA0, hV, rfl, hfz, hnd⟩ := hW
  have hA : DataW.TrodAll enc Try.prog W 0 (fun _ => true) true Try.f4.params.toList args.toList ds p := hA0
  rw [Try.params4] at hA hval
  obtain ⟨v0, vs0, d0, ds0, p0, q0, hargs, rfl, rfl, h0, r0⟩ := trodAll_cons hA
  obtain ⟨rfl, rfl, rfl⟩ := trodAll_nil r0
  obtain rfl : args = #[v0] := by cases args; simp_all
  obtain ⟨rfl, rfl⟩ := trodVars_none hV
  have k0 := h0
  have lt0 : ∀ x ∈ p0, x.block < W.heap.size := by obtain ⟨m, hm⟩ := k0; exact DataW.trod_lt m _ _ _ hm
  obtain ⟨a0, n0, cap0, l0, rfl, L0⟩ := open_nds (hval 0 38 v0 rfl rfl) h0
  clear hA0 hval0
  refine (walk a0 n0 cap0 l0 W L0).mono fun e W' ⟨he, bel⟩ => ?_
  subst he
  exact ⟨_, rfl, _, _, _, [], _, [], hW', trodAll_mk1 (shut_bool Try.underlying4 _), (trodAll_cons_mk (Below.trod laidOut (by kernel_rfl) (of_decide_eq_true (by kernel_rfl)) k0 bel lt0) trodAll_mk0), rfl, bel.frame _, fun h => by cases h⟩

theorem over : Rows.fnExactNodesOkRow.holds Try.pinned (OpenSpec.ofChange Rows.fnExactNodesOkSpec) :=
  OpenClaim.holds_of_wide 4 Try.f4 rfl rfl rfl rfl rfl rfl rfl ⟨rfl, rfl, rfl, rfl, rfl⟩ rfl rfl rfl rfl rfl (by kernel_rfl) Try.func4 (by kernel_rfl)
    (of_decide_eq_true (by kernel_rfl)) (by unfold Func.isWrapper; first | (rw [if_pos (by decide +kernel)]; kernel_rfl) | (rw [if_neg (by decide +kernel)]; exact ⟨rfl, rfl⟩))
    (fun os started H enc _ => lifted os started H enc)

/-- the given statement -/
theorem proved : Rows.FnExactNodesOkSaid := over
#print axioms proved
end Go.Proofs.Ytkkbfblgnejonaa.fnExactNodesOk
