/- For every input that can be read the law FnExactFit returns true, and what it was handed reads as before. The frame is the kit's; the opening of the arguments and the walk are ours. -/
import Derived.Test.YtecfacpcmcpeoaaRows
import Derived.WalkKit
import Derived.ProofKit
import Derived.OpenShut
import Derived.ChangeOld
import Derived.Below
import Derived.Test.YtecfacpcmcpeoaaFit2
import Derived.Test.YtecfacpcmcpeoaaLevOpen
import Derived.Deep.RegionHeld3
namespace Go.Proofs.Ytecfacpcmcpeoaa.fnExactFit
open Go.ChangeShapes Go.WideShapes Go.ChangeAt Go.RowKit
set_option linter.unusedVariables false

theorem own : ownKnob Try.prog.godebug = none := by kernel_rfl
theorem laidOut : laidOutB Try.prog = true := by kernel_rfl

set_option maxHeartbeats 1000000 in
theorem walk (t0 : Int) (a0 : Option Addr) (n0 cap0 : Nat) (l0 : List Lev) (a1 : Int) (a2 : Int) (a3 : Int) (w : World) (w0 : (Lit.int .i64 t0).wf = true) (L0 : LevS w a0 n0 cap0 l0) (w1 : (Lit.int .i64 a1).wf = true) (w2 : (Lit.int .i64 a2).wf = true) (w3 : (Lit.int .i64 a3).wf = true) :
    Calls Try.prog 10 #[.agg #[.int .i64 t0, .slice a0 n0 cap0], .int .i64 a1, .int .i64 a2, .int .i64 a3] w fun e w' => e = .returned (.bool true) ∧ Below w.heap.size w w' := by
  have hmx := L0.mx
  have hle := L0.le
  by_cases hn : n0 ≤ 1048576
  · go_enter Try.func10, Try.ntmps10
    go_wp2_with fail
    refine (szProfile_any t0 a0 n0 cap0 _ _ (by omega) (by omega) (by omega)).mono ?_
    rw [if_neg (by omega)]
    rintro e w1 ⟨rfl, U1⟩
    obtain ⟨p0, p1, hz1⟩ := box_cells U1
    go_wp2_with fail
    refine (toProfile_any t0 a0 n0 cap0 l0 _ (L0.below (box_below.then U1 (by simp))) hn).mono ?_
    rintro e w2 ⟨B1, rfl, hB1, hl1, hb2⟩
    have U2 := U1.then hb2 U1.size
    clear p0 p1
    go_wp2_with fail
    refine (specFit_any t0 a1 a2 a3 _ n0 n0 l0 _ (hl1.toS L0.len hn L0.wf)).mono ?_
    rintro e w3 ⟨rfl, hb3⟩
    have U3 := U2.then hb3 U2.size
    obtain ⟨p0, p1, hz3⟩ := box_cells U3
    go_wp2_with fail
    refine (toProfile_any t0 a0 n0 cap0 l0 _ (L0.below (box_below.then U3 (by simp))) hn).mono ?_
    rintro e w4 ⟨B2, rfl, hB2, hl2, hb4⟩
    have U4 := U3.then hb4 U3.size
    clear p0 p1
    go_wp2_with fail
    refine (implFit_any t0 a1 a2 a3 _ n0 n0 l0 _ ((hl2.below box_below).toS L0.len hn L0.wf)).mono ?_
    rintro e w5 ⟨rfl, hb5⟩
    have U5 := (U4.then box_below U4.size).then hb5 (by have := U4.size; simp at this ⊢; omega)
    obtain ⟨p0, p1, hz5⟩ := box_cells U5
    obtain ⟨r0, r1, hy5⟩ := box_cells hb5
    have hl5 := (hl2.below box_below).below hb5
    have S5 := hl5.toS L0.len hn L0.wf
    have T5 := L0.below (box_below.then U5 (by simp))
    go_wp2_with fail
    go_region_held3 (fun w' => w'.cell? ⟨w.heap.size, 0, none⟩ = some (.int .i64 t0) ∧ w'.cell? ⟨w.heap.size, 1, none⟩ = some (.slice a0 n0 cap0) ∧ w'.cell? ⟨w4.heap.size, 0, none⟩ = some (.int .i64 t0) ∧ w'.cell? ⟨w4.heap.size, 1, none⟩ = some (.slice (some ⟨B2, 0, none⟩) n0 n0)) (first | go_keep | (exact KS6) | (exact KS7)) (first | (go_at_call 36; refine (toProfile_any t0 a0 n0 cap0 l0 _ ?_ hn).mono ?_; (first | exact T5 | exact T5.drew); rintro e w6 ⟨B3, rfl, hB3, hl3, hb6⟩; have U6 := U5.drew.then hb6 U5.size; have Y6 := hb5.drew.then hb6 hb5.size; obtain ⟨s0, s1, _⟩ := box_cells U6; obtain ⟨s2, s3, _⟩ := box_cells Y6; have KS6 := And.intro s0 (And.intro s1 (And.intro s2 s3)); have S6 := (S5.drew.below hb6); have R6 := hl3.toS L0.len hn L0.wf) | (go_at_call 38; refine (eqProfile_same t0 _ _ n0 n0 n0 l0 _ S6 R6).mono ?_; rintro e w7 ⟨rfl, hb7⟩; have U7 := U6.then hb7 U6.size; have Y7 := Y6.then hb7 Y6.size; obtain ⟨s0, s1, _⟩ := box_cells U7; obtain ⟨s2, s3, _⟩ := box_cells Y7; have KS7 := And.intro s0 (And.intro s1 (And.intro s2 s3))))
    all_goals
      go_wp2
      go_ret
      exact ⟨rfl, box_below.then U7 (by simp)⟩
  · go_enter Try.func10, Try.ntmps10
    go_wp2_with fail
    refine (szProfile_any t0 a0 n0 cap0 _ _ (by omega) (by omega) (by omega)).mono ?_
    rw [if_pos (by omega)]
    rintro e w1 ⟨rfl, hb1⟩
    go_wp2
    go_ret
    exact ⟨rfl, box_below.then hb1 (by simp)⟩

set_option maxRecDepth 100000 in
theorem lifted (os : Os) (started : os.Started) (H : Type) (enc : TypeId × Value → H) :
    ReturnsInHanded {} Try.checked os 10 .any (Rows.fnExactFitSpec.pre6 enc Try.prog Try.f10 Rows.fnExactFitRow.domain false) (Rows.fnExactFitSpec.post enc Try.prog Try.f10 false true false false) := by
  refine returnsInHanded_of_change (C := Try.checked) own started (by kernel_rfl) Try.func10
    (ChangeSpec.witness6 (enc := enc) (C := Try.checked) false ⟨#[], #[.agg #[.int .i64 0, .slice none 0 0], .int .i64 0, .int .i64 0, .int .i64 0], []⟩ 8 (by kernel_rfl) (by kernel_rfl) (by kernel_rfl) (by kernel_rfl)) ?_
  intro W base args ds gs before hval0 hW hcnd _
  have hval : ∀ (j : Nat) t v, Try.f10.params[j]? = some t → args[j]? = some v → Value.okWide Try.prog W .any base t v := hval0
  have hW' := hW
  obtain ⟨p, q, hA0, hV, rfl, hfz, hnd⟩ := hW
  have hA : DataW.TrodAll enc Try.prog W 0 (fun _ => true) true Try.f10.params.toList args.toList ds p := hA0
  rw [Try.params10] at hA hval
  obtain ⟨v0, vs0, d0, ds0, p0, q0, hargs, rfl, rfl, h0, r0⟩ := trodAll_cons hA
  obtain ⟨v1, vs1, d1, ds1, p1, q1, rfl, rfl, rfl, h1, r1⟩ := trodAll_cons r0
  obtain ⟨v2, vs2, d2, ds2, p2, q2, rfl, rfl, rfl, h2, r2⟩ := trodAll_cons r1
  obtain ⟨v3, vs3, d3, ds3, p3, q3, rfl, rfl, rfl, h3, r3⟩ := trodAll_cons r2
  obtain ⟨rfl, rfl, rfl⟩ := trodAll_nil r3
  obtain rfl : args = #[v0, v1, v2, v3] := by cases args; simp_all
  obtain ⟨rfl, rfl⟩ := trodVars_none hV
  have k0 := h0
  have lt0 : ∀ x ∈ p0, x.block < W.heap.size := by obtain ⟨m, hm⟩ := k0; exact DataW.trod_lt m _ _ _ hm
  obtain ⟨t0, a0, n0, cap0, l0, rfl, w0, L0⟩ := open_profile (hval 0 46 v0 rfl rfl) h0
  have k1 := h1
  have lt1 : ∀ x ∈ p1, x.block < W.heap.size := by obtain ⟨m, hm⟩ := k1; exact DataW.trod_lt m _ _ _ hm
  obtain ⟨a1, rfl, rfl, rfl, w1⟩ := open_int Try.underlying2 (hval 1 2 v1 rfl rfl) h1
  have k2 := h2
  have lt2 : ∀ x ∈ p2, x.block < W.heap.size := by obtain ⟨m, hm⟩ := k2; exact DataW.trod_lt m _ _ _ hm
  obtain ⟨a2, rfl, rfl, rfl, w2⟩ := open_int Try.underlying2 (hval 2 2 v2 rfl rfl) h2
  have k3 := h3
  have lt3 : ∀ x ∈ p3, x.block < W.heap.size := by obtain ⟨m, hm⟩ := k3; exact DataW.trod_lt m _ _ _ hm
  obtain ⟨a3, rfl, rfl, rfl, w3⟩ := open_int Try.underlying2 (hval 3 2 v3 rfl rfl) h3
  clear hA0 hval0
  refine (walk t0 a0 n0 cap0 l0 a1 a2 a3 W w0 L0 w1 w2 w3).mono fun e W' ⟨he, bel⟩ => ?_
  subst he
  exact ⟨_, rfl, _, _, _, [], _, [], hW', trodAll_mk1 (shut_bool Try.underlying4 _), (trodAll_cons_mk (Below.trod laidOut (by kernel_rfl) (of_decide_eq_true (by kernel_rfl)) k0 bel lt0) (trodAll_cons_mk (Below.trod laidOut (by kernel_rfl) (of_decide_eq_true (by kernel_rfl)) k1 bel lt1) (trodAll_cons_mk (Below.trod laidOut (by kernel_rfl) (of_decide_eq_true (by kernel_rfl)) k2 bel lt2) (trodAll_cons_mk (Below.trod laidOut (by kernel_rfl) (of_decide_eq_true (by kernel_rfl)) k3 bel lt3) trodAll_mk0)))), rfl, bel.frame _, fun h => by cases h⟩

theorem over : Rows.fnExactFitRow.holds Try.pinned (OpenSpec.ofChange Rows.fnExactFitSpec) :=
  OpenClaim.holds_of_wide 10 Try.f10 rfl rfl rfl rfl rfl rfl rfl ⟨rfl, rfl, rfl, rfl, rfl⟩ rfl rfl rfl rfl rfl (by kernel_rfl) Try.func10 (by kernel_rfl)
    (of_decide_eq_true (by kernel_rfl)) (by unfold Func.isWrapper; first | (rw [if_pos (by decide +kernel)]; kernel_rfl) | (rw [if_neg (by decide +kernel)]; exact ⟨rfl, rfl⟩))
    (fun os started H enc _ => lifted os started H enc)

/-- the given statement -/
theorem proved : Rows.FnExactFitSaid := over
#print axioms proved
end Go.Proofs.Ytecfacpcmcpeoaa.fnExactFit
