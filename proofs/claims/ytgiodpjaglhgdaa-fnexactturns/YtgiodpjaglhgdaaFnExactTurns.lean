/- For every input that can be read the law FnExactTurns returns true, and what it was handed reads as before. The frame is the kit's; the opening of the arguments and the walk are ours. -/
import Derived.Test.YtgiodpjaglhgdaaRows
import Derived.WalkKit
import Derived.ProofKit
import Derived.OpenShut
import Derived.ChangeOld
import Derived.Below
import Derived.Test.YtgiodpjaglhgdaaTurnI3
namespace Go.Proofs.Ytgiodpjaglhgdaa.fnExactTurns
open Go.ChangeShapes Go.WideShapes Go.ChangeAt Go.RowKit
set_option linter.unusedVariables false

theorem own : ownKnob Try.prog.godebug = none := by kernel_rfl
theorem laidOut : laidOutB Try.prog = true := by kernel_rfl

set_option maxRecDepth 8000 in
set_option maxHeartbeats 4000000 in
theorem walk (a0 : Int) (w : World) (w0 : (Lit.int .i64 a0).wf = true) :
    Calls Try.prog 11 #[.int .i64 a0] w fun e w' => e = .returned (.bool true) ∧ Below w.heap.size w w' := by
  go_enter Try.func11, Try.ntmps11
  go_wp2_with fail
  refine (specTurns_any a0 _).mono ?_
  rintro e w1 ⟨u, Y, rfl, RY, hY, _, B1⟩
  have z1 := B1.size
  go_wp2_with fail
  refine (implTurns_any a0 _).mono ?_
  rintro e w2 ⟨v, X, rfl, RX, hX, B2⟩
  have z2 := B2.size
  obtain ⟨t1, t2, t3⟩ := turns_tot hX
  have SX := RX.toS
  have SY := RY.toS
  rw [hX] at SX
  rw [hY] at SY
  have d0 : decide ((1 : Int) + (totR X X.length : Int) < 0) = false := decide_eq_false (by omega)
  go_wp2_with fail
  refine (eqInt64SS_same v u (turnsV a0) X Y _ SX (SY.below B2)).mono ?_
  rintro e w3 ⟨rfl, B3⟩
  have z3 := B3.size
  go_wp2_with fail
  refine (markInt64SS_any w1.heap.size v X 1 _ (RX.below B3) (by omega) (by omega) (fun x hx => by have := t3 x hx; omega)).mono ?_
  rintro e w4 ⟨rfl, H4, B4⟩
  have z4 := B4.size
  go_wp2_with fail
  refine (heldInt64SS_any v X 1 _ H4 (by omega) (by omega) (fun x hx => by have := t3 x hx; omega)).mono ?_
  rintro e w5 ⟨rfl, B5⟩
  have z5 := B5.size
  generalize hT : (totR X X.length : Int) = T at d0 ⊢
  go_wp2_with fail
  refine (implTurns_any a0 _).mono ?_
  rintro e w6 ⟨v', Z, rfl, RZ, hZ, B6⟩
  have z6 := B6.size
  have SZ := RZ.toS
  rw [hZ] at SZ
  have B26 : Below w1.heap.size w1 w6 := ((((B2.trans (B3.mono (by omega))).trans B4).trans (B5.mono (by omega))).trans (B6.mono (by omega)))
  have HB := B26
  have B56 := B5.trans (B6.mono (by omega))
  go_wp2_with fail
  refine (eqInt64SS_same v' u (turnsV a0) Z Y _ SZ (SY.below B26)).mono ?_
  rintro e w7 ⟨rfl, B7⟩
  have z7 := B7.size
  go_wp2_with fail
  refine (heldInt64SS_any v X 1 _ (H4.below (B56.trans (B7.mono (by omega)))) (by omega) (by omega) (fun x hx => by have := t3 x hx; omega)).mono ?_
  rw [hT]
  rintro e w8 ⟨rfl, B8⟩
  go_wp2
  go_ret
  exact ⟨rfl, (B1.trans (B26.mono (by omega))).trans ((B7.mono (by omega)).trans (B8.mono (by omega)))⟩

set_option maxRecDepth 100000 in
theorem lifted (os : Os) (started : os.Started) (H : Type) (enc : TypeId × Value → H) :
    ReturnsInHanded {} Try.checked os 11 .any (Rows.fnExactTurnsSpec.pre6 enc Try.prog Try.f11 Rows.fnExactTurnsRow.domain false) (Rows.fnExactTurnsSpec.post enc Try.prog Try.f11 false true false false) := by
  refine returnsInHanded_of_change (C := Try.checked) own started (by kernel_rfl) Try.func11
    (ChangeSpec.witness6 (enc := enc) (C := Try.checked) false ⟨#[], #[.int .i64 0], []⟩ 8 (by kernel_rfl) (by kernel_rfl) (by kernel_rfl) (by kernel_rfl)) ?_
  intro W base args ds gs before hval0 hW hcnd _
  have hval : ∀ (j : Nat) t v, Try.f11.params[j]? = some t → args[j]? = some v → Value.okWide Try.prog W .any base t v := hval0
  have hW' := hW
  obtain ⟨p, q, hA0, hV, rfl, hfz, hnd⟩ := hW
  have hA : DataW.TrodAll enc Try.prog W 0 (fun _ => true) true Try.f11.params.toList args.toList ds p := hA0
  rw [Try.params11] at hA hval
  obtain ⟨v0, vs0, d0, ds0, p0, q0, hargs, rfl, rfl, h0, r0⟩ := trodAll_cons hA
  obtain ⟨rfl, rfl, rfl⟩ := trodAll_nil r0
  obtain rfl : args = #[v0] := by cases args; simp_all
  obtain ⟨rfl, rfl⟩ := trodVars_none hV
  have k0 := h0
  have lt0 : ∀ x ∈ p0, x.block < W.heap.size := by obtain ⟨m, hm⟩ := k0; exact DataW.trod_lt m _ _ _ hm
  obtain ⟨a0, rfl, rfl, rfl, w0⟩ := open_int Try.underlying2 (hval 0 2 v0 rfl rfl) h0
  clear hA0 hval0
  refine (walk a0 W w0).mono fun e W' ⟨he, bel⟩ => ?_
  subst he
  exact ⟨_, rfl, _, _, _, [], _, [], hW', trodAll_mk1 (shut_bool Try.underlying4 _), (trodAll_cons_mk (Below.trod laidOut (by kernel_rfl) (of_decide_eq_true (by kernel_rfl)) k0 bel lt0) trodAll_mk0), rfl, bel.frame _, fun h => by cases h⟩

theorem over : Rows.fnExactTurnsRow.holds Try.pinned (OpenSpec.ofChange Rows.fnExactTurnsSpec) :=
  OpenClaim.holds_of_wide 11 Try.f11 rfl rfl rfl rfl rfl rfl rfl ⟨rfl, rfl, rfl, rfl, rfl⟩ rfl rfl rfl rfl rfl (by kernel_rfl) Try.func11 (by kernel_rfl)
    (of_decide_eq_true (by kernel_rfl)) (by unfold Func.isWrapper; first | (rw [if_pos (by decide +kernel)]; kernel_rfl) | (rw [if_neg (by decide +kernel)]; exact ⟨rfl, rfl⟩))
    (fun os started H enc _ => lifted os started H enc)

/-- the given statement -/
theorem proved : Rows.FnExactTurnsSaid := over
#print axioms proved
end Go.Proofs.Ytgiodpjaglhgdaa.fnExactTurns
