/- For every input that can be read the law FnExactNewProfile returns true, and what it was handed reads as before. The frame is the kit's; the opening of the arguments and the walk are ours. -/
import Derived.Test.YtecfacpcmcpeoaaRows
import Derived.WalkKit
import Derived.ProofKit
import Derived.OpenShut
import Derived.ChangeOld
import Derived.Below
import Derived.Test.YtecfacpcmcpeoaaNewProf
namespace Go.Proofs.Ytecfacpcmcpeoaa.fnExactNewProfile
open Go.ChangeShapes Go.WideShapes Go.ChangeAt Go.RowKit
open Go.RowKit
set_option linter.unusedVariables false

theorem own : ownKnob Try.prog.godebug = none := by kernel_rfl
theorem laidOut : laidOutB Try.prog = true := by kernel_rfl

set_option maxHeartbeats 1000000 in
theorem walk (a0 : Int) (w : World) (w0 : (Lit.int .i64 a0).wf = true) :
    Calls Try.prog 7 #[.int .i64 a0] w fun e w' => e = .returned (.bool true) ∧ Below w.heap.size w w' := by
  have ht := bounds_i64 w0
  by_cases c : inB a0 0 1000 = true
  · go_enter Try.func7, Try.ntmps7
    go_wp2_with fail
    refine (specNew_yes a0 _ c).mono ?_
    rintro e w1 ⟨B1, rfl, hB1, L1, hb1⟩
    have L1a := L1.below (box_below (v0 := .int .i64 a0) (v1 := .slice (some ⟨B1, 0, none⟩) 1 1) (T := 26))
    go_wp2_with fail
    refine (implNew_yes a0 _ c).mono ?_
    rintro e w2 ⟨B2, rfl, hB2, L2, hb2⟩
    have l2 := L2.lt
    obtain ⟨p0, p1, z1⟩ := box_cells hb2
    go_wp2_with fail
    refine (eqProfile_same a0 _ _ 1 1 1 [(0, a0)] _ ((L2.below box_below).toS rfl (by omega) (one_wf ht)) (((L1a.below hb2).below box_below).toS rfl (by omega) (one_wf ht))).mono ?_
    rintro e w3 ⟨rfl, hb3⟩
    obtain ⟨q0, q1, z2⟩ := box_cells hb3
    have Y3 := (hb2.then box_below hb2.size).then hb3 (by have := hb2.size; simp at this ⊢; omega)
    clear p0 p1
    go_wp2_with fail
    refine (markProfile_any a0 B2 1 1 _ _ ((L2.below box_below).below hb3) (by omega) (by omega) (by omega)).mono ?_
    rintro e w4 ⟨rfl, M4, O4⟩
    have Y4 := (Y3.then box_below Y3.size).trans (O4.below hB2)
    have z3 : w2.heap.size < w4.heap.size := by rw [O4.size]; simp; omega
    have r0 : w4.cell? ⟨w2.heap.size, 0, none⟩ = some (.int .i64 a0) := (O4.cell (p := ⟨w2.heap.size, 0, none⟩) (by simp; omega)).trans (by simp [go_sem, z2, q0])
    have r1 : w4.cell? ⟨w2.heap.size, 1, none⟩ = some (.slice (some ⟨B2, 0, none⟩) 1 1) := (O4.cell (p := ⟨w2.heap.size, 1, none⟩) (by simp; omega)).trans (by simp [go_sem, z2, q1])
    clear q0 q1
    go_wp2_with fail
    refine (heldProfile_any a0 B2 1 1 _ M4 (by omega) (by omega) (by omega)).mono ?_
    rintro e w5 ⟨rfl, hb5⟩
    have Y5 := Y4.then hb5 Y4.size
    have HR : Hid (w4.cell? ⟨w2.heap.size, 0, none⟩ = some (.int .i64 a0) ∧ w4.cell? ⟨w2.heap.size, 1, none⟩ = some (.slice (some ⟨B2, 0, none⟩) 1 1)) := ⟨r0, r1⟩
    clear r0 r1
    go_wp2_with fail
    refine (implNew_yes a0 _ c).mono ?_
    rintro e w6 ⟨B3, rfl, hB3, L3, hb6⟩
    have Y6 := Y5.then hb6 Y5.size
    have X6 := hb5.then hb6 hb5.size
    obtain ⟨p0, p1, z6⟩ := box_cells Y6
    go_wp2_with fail
    refine (eqProfile_same a0 _ _ 1 1 1 [(0, a0)] _ ((L3.below box_below).toS rfl (by omega) (one_wf ht)) (((L1a.below Y6).below box_below).toS rfl (by omega) (one_wf ht))).mono ?_
    rintro e w7 ⟨rfl, hb7⟩
    have X7 := (X6.then box_below X6.size).then hb7 (by have := X6.size; simp; omega)
    have Y7 := (Y6.then box_below Y6.size).then hb7 (by have := Y6.size; simp at this ⊢; omega)
    have r0 := (X7.cell (p := ⟨w2.heap.size, 0, none⟩) z3).trans HR.out.1
    have r1 := (X7.cell (p := ⟨w2.heap.size, 1, none⟩) z3).trans HR.out.2
    clear p0 p1
    go_wp2_with fail
    refine (heldProfile_any a0 B2 1 1 _ (M4.below X7) (by omega) (by omega) (by omega)).mono ?_
    rintro e w8 ⟨rfl, hb8⟩
    go_wp2
    go_ret
    exact ⟨rfl, (hb1.then box_below hb1.size).then (Y7.then hb8 Y7.size) (by have := hb1.size; simp; omega)⟩
  · simp only [Bool.not_eq_true] at c
    go_enter Try.func7, Try.ntmps7
    go_wp2_with fail
    refine (specNew_no a0 _ c).mono ?_
    rintro e w1 ⟨rfl, hb1⟩
    go_wp2_with fail
    refine (implNew_no a0 _ c ht).mono ?_
    rintro e w2 ⟨rfl, hb2⟩
    obtain ⟨p0, p1, z1⟩ := box_cells hb2
    go_wp2_with fail
    refine (eqProfile_same 0 _ _ 0 0 0 [] _ (LevS.nil_ _) (LevS.nil_ _)).mono ?_
    rintro e w3 ⟨rfl, hb3⟩
    obtain ⟨q0, q1, z2⟩ := box_cells hb3
    have Y3 := (hb2.then box_below hb2.size).then hb3 (by have := hb2.size; simp at this ⊢; omega)
    clear p0 p1
    go_wp2_with fail
    refine (markNil_any 0 1 _).mono ?_
    rintro e w4 ⟨rfl, hb4⟩
    have Y4 := Y3.then hb4 Y3.size
    have X4 := hb3.then hb4 hb3.size
    obtain ⟨s0, s1, _⟩ := box_cells X4
    clear q0 q1
    go_wp2_with fail
    refine (heldNil_any 0 1 _ (by omega)).mono ?_
    rintro e w5 ⟨rfl, hb5⟩
    have Y5 := Y4.then hb5 Y4.size
    have X5 := X4.then hb5 X4.size
    clear s0 s1
    go_wp2_with fail
    refine (implNew_no a0 _ c ht).mono ?_
    rintro e w6 ⟨rfl, hb6⟩
    have Y6 := Y5.then hb6 Y5.size
    have X6 := X5.then hb6 X5.size
    obtain ⟨p0, p1, z6⟩ := box_cells Y6
    go_wp2_with fail
    refine (eqProfile_same 0 _ _ 0 0 0 [] _ (LevS.nil_ _) (LevS.nil_ _)).mono ?_
    rintro e w7 ⟨rfl, hb7⟩
    have Y7 := (Y6.then box_below Y6.size).then hb7 (by have := Y6.size; simp at this ⊢; omega)
    have X7 := (X6.then box_below X6.size).then hb7 (by have := X6.size; simp at this ⊢; omega)
    obtain ⟨s0, s1, _⟩ := box_cells X7
    clear p0 p1
    go_wp2_with fail
    refine (heldNil_any 0 1 _ (by omega)).mono ?_
    rintro e w8 ⟨rfl, hb8⟩
    go_wp2
    go_ret
    exact ⟨rfl, (hb1.then box_below hb1.size).then (Y7.then hb8 Y7.size) (by have := hb1.size; simp; omega)⟩

set_option maxRecDepth 100000 in
theorem lifted (os : Os) (started : os.Started) (H : Type) (enc : TypeId × Value → H) :
    ReturnsInHanded {} Try.checked os 7 .any (Rows.fnExactNewProfileSpec.pre6 enc Try.prog Try.f7 Rows.fnExactNewProfileRow.domain false) (Rows.fnExactNewProfileSpec.post enc Try.prog Try.f7 false true false false) := by
  refine returnsInHanded_of_change (C := Try.checked) own started (by kernel_rfl) Try.func7
    (ChangeSpec.witness6 (enc := enc) (C := Try.checked) false ⟨#[], #[.int .i64 0], []⟩ 8 (by kernel_rfl) (by kernel_rfl) (by kernel_rfl) (by kernel_rfl)) ?_
  intro W base args ds gs before hval0 hW hcnd _
  have hval : ∀ (j : Nat) t v, Try.f7.params[j]? = some t → args[j]? = some v → Value.okWide Try.prog W .any base t v := hval0
  have hW' := hW
  obtain ⟨p, q, hA0, hV, rfl, hfz, hnd⟩ := hW
  have hA : DataW.TrodAll enc Try.prog W 0 (fun _ => true) true Try.f7.params.toList args.toList ds p := hA0
  rw [Try.params7] at hA hval
  obtain ⟨v0, vs0, d0, ds0, p0, q0, hargs, rfl, rfl, h0, r0⟩ := trodAll_cons hA
  obtain ⟨rfl, rfl, rfl⟩ := trodAll_nil r0
  obtain rfl : args = #[v0] := by cases args; simp_all
  obtain ⟨rfl, rfl⟩ := trodVars_none hV
  have k0 := h0
  have lt0 : ∀ x ∈ p0, x.block < W.heap.size := by obtain ⟨m, hm⟩ := k0; exact DataW.trod_lt m _ _ _ hm
  obtain ⟨a0, rfl, rfl, rfl, w0⟩ := open_int Try.underlying2 (hval 0 2 v0 rfl rfl) h0
  clear hA0 hval0
  refine (walk a0 W w0).mono fun e W' ⟨he, bel⟩ => ?_
  subst he
  exact ⟨_, rfl, _, _, _, [], _, [], hW', trodAll_mk1 (shut_bool Try.underlying4 _), (trodAll_cons_mk (Below.trod laidOut (by kernel_rfl) (of_decide_eq_true (by kernel_rfl)) k0 bel lt0) trodAll_mk0), rfl, bel.frame _, fun h => by cases h⟩

theorem over : Rows.fnExactNewProfileRow.holds Try.pinned (OpenSpec.ofChange Rows.fnExactNewProfileSpec) :=
  OpenClaim.holds_of_wide 7 Try.f7 rfl rfl rfl rfl rfl rfl rfl ⟨rfl, rfl, rfl, rfl, rfl⟩ rfl rfl rfl rfl rfl (by kernel_rfl) Try.func7 (by kernel_rfl)
    (of_decide_eq_true (by kernel_rfl)) (by unfold Func.isWrapper; first | (rw [if_pos (by decide +kernel)]; kernel_rfl) | (rw [if_neg (by decide +kernel)]; exact ⟨rfl, rfl⟩))
    (fun os started H enc _ => lifted os started H enc)

/-- the given statement -/
theorem proved : Rows.FnExactNewProfileSaid := over
#print axioms proved
end Go.Proofs.Ytecfacpcmcpeoaa.fnExactNewProfile
