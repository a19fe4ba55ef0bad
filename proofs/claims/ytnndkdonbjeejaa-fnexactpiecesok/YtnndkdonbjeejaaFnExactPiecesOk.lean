/- For every input that can be read the law FnExactPiecesOk returns true, and what it was handed reads as before. The frame is the kit's; the opening of the arguments and the walk are ours. -/
import Derived.Test.YtnndkdonbjeejaaRows
import Derived.WalkKit
import Derived.ProofKit
import Derived.OpenShut
import Derived.ChangeOld
import Derived.Below
import Derived.Test.YtnndkdonbjeejaaPieceOkI
import Derived.Test.YtnndkdonbjeejaaPieceOkS
import Derived.Test.YtnndkdonbjeejaaJobOpen
import Derived.Test.YtnndkdonbjeejaaPieceOpen
namespace Go.Proofs.Ytnndkdonbjeejaa.fnExactPiecesOk
open Go.ChangeShapes Go.WideShapes Go.ChangeAt Go.RowKit
set_option linter.unusedVariables false

theorem own : ownKnob Try.prog.godebug = none := by kernel_rfl
theorem laidOut : laidOutB Try.prog = true := by kernel_rfl

set_option maxHeartbeats 1000000 in
theorem walk (a0 : Option Addr) (n0 cap0 : Nat) (l0 : List Jb) (a1 : Int) (a2 : Option Addr) (n2 cap2 : Nat) (l2 : List Pc) (w : World) (L0 : JobS w a0 n0 cap0 l0) (w1 : (Lit.int .i64 a1).wf = true) (L2 : PieceS w a2 n2 cap2 l2) :
    Calls Try.prog 5 #[.slice a0 n0 cap0, .int .i64 a1, .slice a2 n2 cap2] w fun e w' => e = .returned (.bool true) ∧ Below w.heap.size w w' := by
  have hmx := L0.mx
  have hle := L0.le
  have hlen := L0.len
  have hmx2 := L2.mx
  have hle2 := L2.le
  by_cases hn : n0 ≤ 1048576
  · by_cases hn2 : n2 ≤ 1048576 - n0
    · have hn2' : n2 ≤ 1048576 := by omega
      go_enter Try.func5, Try.ntmps5
      go_wp2_with fail
      refine (szJobS_any a0 n0 cap0 _ _ (by omega) (by omega) (by omega)).mono ?_
      rw [if_neg (by omega)]
      rintro e q1 ⟨rfl, rfl⟩
      go_wp2_with fail
      refine (szPieceS_any a2 n2 cap2 _ _ (by omega) (by omega) (by omega)).mono ?_
      rw [if_neg (by omega)]
      rintro e q2 ⟨rfl, rfl⟩
      have hnl : ¬ ((1048576 : Int) - (n0 : Int) - (n2 : Int) < 0) := by omega
      go_wp2_with fail
      refine (toJobS_any a0 n0 cap0 l0 _ L0 hn).mono ?_
      rintro e q3 ⟨B1, rfl, hB1, hl1, U3⟩
      go_wp2_with fail
      refine (toPieceS_any a2 n2 cap2 l2 _ (L2.below U3) hn2').mono ?_
      rintro e q4 ⟨B2, rfl, hB2, hp2, hb4⟩
      have U4 := U3.then hb4 U3.size
      go_wp2_with fail
      refine (specPiecesOk_any _ _ n0 n0 n2 n2 l0 a1 l2 _ ((hl1.below hb4).toS L0.len hn L0.wf) (hp2.toS L2.len hn2' L2.wf) hn2').mono ?_
      rintro e q5 ⟨rfl, hb5⟩
      have U5 := U4.then hb5 U4.size
      go_wp2_with fail
      refine (toJobS_any a0 n0 cap0 l0 _ (L0.below U5) hn).mono ?_
      rintro e q6 ⟨B3, rfl, hB3, hl3, hb6⟩
      have U6 := U5.then hb6 U5.size
      go_wp2_with fail
      refine (toPieceS_any a2 n2 cap2 l2 _ (L2.below U6) hn2').mono ?_
      rintro e q7 ⟨B4, rfl, hB4, hp4, hb7⟩
      have U7 := U6.then hb7 U6.size
      have hl7 := hl3.below hb7
      go_wp2_with fail
      refine (implPiecesOk_any _ _ n0 n0 n2 n2 l0 a1 l2 _ (hl7.toS L0.len hn L0.wf) (hp4.toS L2.len hn2' L2.wf) hn2').mono ?_
      rintro e q8 ⟨rfl, hb8⟩
      have U8 := U7.then hb8 U7.size
      go_wp2_with fail
      refine (toJobS_any a0 n0 cap0 l0 _ (L0.below U8) hn).mono ?_
      rintro e q9 ⟨B5, rfl, hB5, hl5, hb9⟩
      have U9 := U8.then hb9 U8.size
      go_wp2_with fail
      refine (eqJobS_same _ _ n0 n0 n0 l0 _ (((hl7.below hb8).below hb9).toS L0.len hn L0.wf) (hl5.toS L0.len hn L0.wf)).mono ?_
      rintro e q10 ⟨rfl, hb10⟩
      have U10 := U9.then hb10 U9.size
      go_wp2_with fail
      refine (toPieceS_any a2 n2 cap2 l2 _ (L2.below U10) hn2').mono ?_
      rintro e q11 ⟨B6, rfl, hB6, hp6, hb11⟩
      have U11 := U10.then hb11 U10.size
      go_wp2_with fail
      refine (eqPieceS_same _ _ n2 n2 n2 l2 _ (((((hp4.below hb8).below hb9).below hb10).below hb11).toS L2.len hn2' L2.wf) (hp6.toS L2.len hn2' L2.wf)).mono ?_
      rintro e q12 ⟨rfl, hb12⟩
      go_wp2
      go_ret
      exact ⟨rfl, U11.then hb12 U11.size⟩
    · go_enter Try.func5, Try.ntmps5
      go_wp2_with fail
      refine (szJobS_any a0 n0 cap0 _ _ (by omega) (by omega) (by omega)).mono ?_
      rw [if_neg (by omega)]
      rintro e q1 ⟨rfl, rfl⟩
      go_wp2_with fail
      refine (szPieceS_any a2 n2 cap2 _ _ (by omega) (by omega) (by omega)).mono ?_
      rw [if_pos (by omega)]
      rintro e q2 ⟨rfl, rfl⟩
      go_wp2
      go_ret
      exact ⟨rfl, Below.refl _ _⟩
  · go_enter Try.func5, Try.ntmps5
    go_wp2_with fail
    refine (szJobS_any a0 n0 cap0 _ _ (by omega) (by omega) (by omega)).mono ?_
    rw [if_pos (by omega)]
    rintro e q1 ⟨rfl, rfl⟩
    go_wp2
    go_ret
    exact ⟨rfl, Below.refl _ _⟩

set_option maxRecDepth 100000 in
theorem lifted (os : Os) (started : os.Started) (H : Type) (enc : TypeId × Value → H) :
    ReturnsInHanded {} Try.checked os 5 .any (Rows.fnExactPiecesOkSpec.pre6 enc Try.prog Try.f5 Rows.fnExactPiecesOkRow.domain false) (Rows.fnExactPiecesOkSpec.post enc Try.prog Try.f5 false true false false) := by
  refine returnsInHanded_of_change (C := Try.checked) own started (by kernel_rfl) Try.func5
    (ChangeSpec.witness6 (enc := enc) (C := Try.checked) false ⟨#[], #[.slice none 0 0, .int .i64 0, .slice none 0 0], []⟩ 8 (by kernel_rfl) (by kernel_rfl) (by kernel_rfl) (by kernel_rfl)) ?_
  intro W base args ds gs before hval0 hW hcnd _
  have hval : ∀ (j : Nat) t v, Try.f5.params[j]? = some t → args[j]? = some v → Value.okWide Try.prog W .any base t v := hval0
  have hW' := hW
  obtain ⟨p, q, hA0, hV, rfl, hfz, hnd⟩ := hW
  have hA : DataW.TrodAll enc Try.prog W 0 (fun _ => true) true Try.f5.params.toList args.toList ds p := hA0
  rw [Try.params5] at hA hval
  obtain ⟨v0, vs0, d0, ds0, p0, q0, hargs, rfl, rfl, h0, r0⟩ := trodAll_cons hA
  obtain ⟨v1, vs1, d1, ds1, p1, q1, rfl, rfl, rfl, h1, r1⟩ := trodAll_cons r0
  obtain ⟨v2, vs2, d2, ds2, p2, q2, rfl, rfl, rfl, h2, r2⟩ := trodAll_cons r1
  obtain ⟨rfl, rfl, rfl⟩ := trodAll_nil r2
  obtain rfl : args = #[v0, v1, v2] := by cases args; simp_all
  obtain ⟨rfl, rfl⟩ := trodVars_none hV
  have k0 := h0
  have lt0 : ∀ x ∈ p0, x.block < W.heap.size := by obtain ⟨m, hm⟩ := k0; exact DataW.trod_lt m _ _ _ hm
  obtain ⟨a0, n0, cap0, l0, rfl, L0⟩ := open_jobs (hval 0 42 v0 rfl rfl) h0
  have k1 := h1
  have lt1 : ∀ x ∈ p1, x.block < W.heap.size := by obtain ⟨m, hm⟩ := k1; exact DataW.trod_lt m _ _ _ hm
  obtain ⟨a1, rfl, rfl, rfl, w1⟩ := open_int Try.underlying2 (hval 1 2 v1 rfl rfl) h1
  have k2 := h2
  have lt2 : ∀ x ∈ p2, x.block < W.heap.size := by obtain ⟨m, hm⟩ := k2; exact DataW.trod_lt m _ _ _ hm
  obtain ⟨a2, n2, cap2, l2, rfl, L2⟩ := open_pcs (hval 2 49 v2 rfl rfl) h2
  clear hA0 hval0
  refine (walk a0 n0 cap0 l0 a1 a2 n2 cap2 l2 W L0 w1 L2).mono fun e W' ⟨he, bel⟩ => ?_
  subst he
  exact ⟨_, rfl, _, _, _, [], _, [], hW', trodAll_mk1 (shut_bool Try.underlying4 _), (trodAll_cons_mk (Below.trod laidOut (by kernel_rfl) (of_decide_eq_true (by kernel_rfl)) k0 bel lt0) (trodAll_cons_mk (Below.trod laidOut (by kernel_rfl) (of_decide_eq_true (by kernel_rfl)) k1 bel lt1) (trodAll_cons_mk (Below.trod laidOut (by kernel_rfl) (of_decide_eq_true (by kernel_rfl)) k2 bel lt2) trodAll_mk0))), rfl, bel.frame _, fun h => by cases h⟩

theorem over : Rows.fnExactPiecesOkRow.holds Try.pinned (OpenSpec.ofChange Rows.fnExactPiecesOkSpec) :=
  OpenClaim.holds_of_wide 5 Try.f5 rfl rfl rfl rfl rfl rfl rfl ⟨rfl, rfl, rfl, rfl, rfl⟩ rfl rfl rfl rfl rfl (by kernel_rfl) Try.func5 (by kernel_rfl)
    (of_decide_eq_true (by kernel_rfl)) (by unfold Func.isWrapper; first | (rw [if_pos (by decide +kernel)]; kernel_rfl) | (rw [if_neg (by decide +kernel)]; exact ⟨rfl, rfl⟩))
    (fun os started H enc _ => lifted os started H enc)

/-- the given statement -/
theorem proved : Rows.FnExactPiecesOkSaid := over
#print axioms proved
end Go.Proofs.Ytnndkdonbjeejaa.fnExactPiecesOk
