/- For every input that can be read the law FnExactAhead returns true, and what it was handed reads as before. The frame is the kit's; the opening of the arguments and the walk are ours. -/
import Derived.Test.YtolgifcbglbiaaaRows
import Derived.WalkKit
import Derived.ProofKit
import Derived.OpenShut
import Derived.ChangeOld
import Derived.Below
import Derived.Test.YtolgifcbglbiaaaJobGrow
import Derived.Test.YtolgifcbglbiaaaJobOpen
namespace Go.Proofs.Ytolgifcbglbiaaa.fnExactAhead
open Go.ChangeShapes Go.WideShapes Go.ChangeAt Go.RowKit
set_option linter.unusedVariables false

theorem own : ownKnob Try.prog.godebug = none := by kernel_rfl
theorem laidOut : laidOutB Try.prog = true := by kernel_rfl

set_option maxHeartbeats 1000000 in
theorem walk (j0 : Jb) (j1 : Jb) (w : World) (w0 : jwf j0) (w1 : jwf j1) :
    Calls Try.prog 6 #[.agg #[.int .i64 j0.id, .int .i64 j0.cores, .int .i64 j0.long, .int .i64 j0.due, .int .i64 j0.wt, .int .i64 j0.rank, .int .i64 j0.at_], .agg #[.int .i64 j1.id, .int .i64 j1.cores, .int .i64 j1.long, .int .i64 j1.due, .int .i64 j1.wt, .int .i64 j1.rank, .int .i64 j1.at_]] w fun e w' => e = .returned (.bool true) ∧ Below w.heap.size w w' := by
  obtain ⟨i, c, l, d, t, r, a⟩ := j0
  obtain ⟨i', c', l', d', t', r', a'⟩ := j1
  simp only
  have hm : Try.prog.follows .mixedOrders = true := by kernel_rfl
  have CJ := fun x0 x1 x2 x3 x4 x5 x6 W => toJob_grow x0 x1 x2 x3 x4 x5 x6 W
  go_enter Try.func6, Try.ntmps6
  go_wp2
  have HW : Hid ((w.alloc (.cells #[.int .i64 i, .int .i64 c, .int .i64 l, .int .i64 d, .int .i64 t, .int .i64 r, .int .i64 a] 38)).alloc (.cells #[.int .i64 i', .int .i64 c', .int .i64 l', .int .i64 d', .int .i64 t', .int .i64 r', .int .i64 a'] 38) = Go.Sort.grow w #[(.cells #[.int .i64 i, .int .i64 c, .int .i64 l, .int .i64 d, .int .i64 t, .int .i64 r, .int .i64 a] 38), (.cells #[.int .i64 i', .int .i64 c', .int .i64 l', .int .i64 d', .int .i64 t', .int .i64 r', .int .i64 a'] 38)]) := by unfold Hid; rw [Go.Sort.alloc_eq_grow, Go.Sort.alloc_eq_grow, Go.Sort.grow_grow]; rfl
  have p0 : ((w.alloc (.cells #[.int .i64 i, .int .i64 c, .int .i64 l, .int .i64 d, .int .i64 t, .int .i64 r, .int .i64 a] 38)).alloc (.cells #[.int .i64 i', .int .i64 c', .int .i64 l', .int .i64 d', .int .i64 t', .int .i64 r', .int .i64 a'] 38)).cell? ⟨w.heap.size, 0, none⟩ = some (.int .i64 i) := by simp
  have p1 : ((w.alloc (.cells #[.int .i64 i, .int .i64 c, .int .i64 l, .int .i64 d, .int .i64 t, .int .i64 r, .int .i64 a] 38)).alloc (.cells #[.int .i64 i', .int .i64 c', .int .i64 l', .int .i64 d', .int .i64 t', .int .i64 r', .int .i64 a'] 38)).cell? ⟨w.heap.size, 1, none⟩ = some (.int .i64 c) := by simp
  have p2 : ((w.alloc (.cells #[.int .i64 i, .int .i64 c, .int .i64 l, .int .i64 d, .int .i64 t, .int .i64 r, .int .i64 a] 38)).alloc (.cells #[.int .i64 i', .int .i64 c', .int .i64 l', .int .i64 d', .int .i64 t', .int .i64 r', .int .i64 a'] 38)).cell? ⟨w.heap.size, 2, none⟩ = some (.int .i64 l) := by simp
  have p3 : ((w.alloc (.cells #[.int .i64 i, .int .i64 c, .int .i64 l, .int .i64 d, .int .i64 t, .int .i64 r, .int .i64 a] 38)).alloc (.cells #[.int .i64 i', .int .i64 c', .int .i64 l', .int .i64 d', .int .i64 t', .int .i64 r', .int .i64 a'] 38)).cell? ⟨w.heap.size, 3, none⟩ = some (.int .i64 d) := by simp
  have p4 : ((w.alloc (.cells #[.int .i64 i, .int .i64 c, .int .i64 l, .int .i64 d, .int .i64 t, .int .i64 r, .int .i64 a] 38)).alloc (.cells #[.int .i64 i', .int .i64 c', .int .i64 l', .int .i64 d', .int .i64 t', .int .i64 r', .int .i64 a'] 38)).cell? ⟨w.heap.size, 4, none⟩ = some (.int .i64 t) := by simp
  have p5 : ((w.alloc (.cells #[.int .i64 i, .int .i64 c, .int .i64 l, .int .i64 d, .int .i64 t, .int .i64 r, .int .i64 a] 38)).alloc (.cells #[.int .i64 i', .int .i64 c', .int .i64 l', .int .i64 d', .int .i64 t', .int .i64 r', .int .i64 a'] 38)).cell? ⟨w.heap.size, 5, none⟩ = some (.int .i64 r) := by simp
  have p6 : ((w.alloc (.cells #[.int .i64 i, .int .i64 c, .int .i64 l, .int .i64 d, .int .i64 t, .int .i64 r, .int .i64 a] 38)).alloc (.cells #[.int .i64 i', .int .i64 c', .int .i64 l', .int .i64 d', .int .i64 t', .int .i64 r', .int .i64 a'] 38)).cell? ⟨w.heap.size, 6, none⟩ = some (.int .i64 a) := by simp
  have q0 : ((w.alloc (.cells #[.int .i64 i, .int .i64 c, .int .i64 l, .int .i64 d, .int .i64 t, .int .i64 r, .int .i64 a] 38)).alloc (.cells #[.int .i64 i', .int .i64 c', .int .i64 l', .int .i64 d', .int .i64 t', .int .i64 r', .int .i64 a'] 38)).cell? ⟨w.heap.size + 1, 0, none⟩ = some (.int .i64 i') := by simp
  have q1 : ((w.alloc (.cells #[.int .i64 i, .int .i64 c, .int .i64 l, .int .i64 d, .int .i64 t, .int .i64 r, .int .i64 a] 38)).alloc (.cells #[.int .i64 i', .int .i64 c', .int .i64 l', .int .i64 d', .int .i64 t', .int .i64 r', .int .i64 a'] 38)).cell? ⟨w.heap.size + 1, 1, none⟩ = some (.int .i64 c') := by simp
  have q2 : ((w.alloc (.cells #[.int .i64 i, .int .i64 c, .int .i64 l, .int .i64 d, .int .i64 t, .int .i64 r, .int .i64 a] 38)).alloc (.cells #[.int .i64 i', .int .i64 c', .int .i64 l', .int .i64 d', .int .i64 t', .int .i64 r', .int .i64 a'] 38)).cell? ⟨w.heap.size + 1, 2, none⟩ = some (.int .i64 l') := by simp
  have q3 : ((w.alloc (.cells #[.int .i64 i, .int .i64 c, .int .i64 l, .int .i64 d, .int .i64 t, .int .i64 r, .int .i64 a] 38)).alloc (.cells #[.int .i64 i', .int .i64 c', .int .i64 l', .int .i64 d', .int .i64 t', .int .i64 r', .int .i64 a'] 38)).cell? ⟨w.heap.size + 1, 3, none⟩ = some (.int .i64 d') := by simp
  have q4 : ((w.alloc (.cells #[.int .i64 i, .int .i64 c, .int .i64 l, .int .i64 d, .int .i64 t, .int .i64 r, .int .i64 a] 38)).alloc (.cells #[.int .i64 i', .int .i64 c', .int .i64 l', .int .i64 d', .int .i64 t', .int .i64 r', .int .i64 a'] 38)).cell? ⟨w.heap.size + 1, 4, none⟩ = some (.int .i64 t') := by simp
  have q5 : ((w.alloc (.cells #[.int .i64 i, .int .i64 c, .int .i64 l, .int .i64 d, .int .i64 t, .int .i64 r, .int .i64 a] 38)).alloc (.cells #[.int .i64 i', .int .i64 c', .int .i64 l', .int .i64 d', .int .i64 t', .int .i64 r', .int .i64 a'] 38)).cell? ⟨w.heap.size + 1, 5, none⟩ = some (.int .i64 r') := by simp
  have q6 : ((w.alloc (.cells #[.int .i64 i, .int .i64 c, .int .i64 l, .int .i64 d, .int .i64 t, .int .i64 r, .int .i64 a] 38)).alloc (.cells #[.int .i64 i', .int .i64 c', .int .i64 l', .int .i64 d', .int .i64 t', .int .i64 r', .int .i64 a'] 38)).cell? ⟨w.heap.size + 1, 6, none⟩ = some (.int .i64 a') := by simp
  have hz : w.heap.size + 1 < ((w.alloc (.cells #[.int .i64 i, .int .i64 c, .int .i64 l, .int .i64 d, .int .i64 t, .int .i64 r, .int .i64 a] 38)).alloc (.cells #[.int .i64 i', .int .i64 c', .int .i64 l', .int .i64 d', .int .i64 t', .int .i64 r', .int .i64 a'] 38)).heap.size := by simp
  generalize (w.alloc (.cells #[.int .i64 i, .int .i64 c, .int .i64 l, .int .i64 d, .int .i64 t, .int .i64 r, .int .i64 a] 38)).alloc (.cells #[.int .i64 i', .int .i64 c', .int .i64 l', .int .i64 d', .int .i64 t', .int .i64 r', .int .i64 a'] 38) = W at p0 p1 p2 p3 p4 p5 p6 q0 q1 q2 q3 q4 q5 q6 HW hz ⊢
  have P0 := Go.cell_grown (by show w.heap.size < _; omega) p0
  have P1 := Go.cell_grown (by show w.heap.size < _; omega) p1
  have P2 := Go.cell_grown (by show w.heap.size < _; omega) p2
  have P3 := Go.cell_grown (by show w.heap.size < _; omega) p3
  have P4 := Go.cell_grown (by show w.heap.size < _; omega) p4
  have P5 := Go.cell_grown (by show w.heap.size < _; omega) p5
  have P6 := Go.cell_grown (by show w.heap.size < _; omega) p6
  have Q0 := Go.cell_grown (by show w.heap.size + 1 < _; omega) q0
  have Q1 := Go.cell_grown (by show w.heap.size + 1 < _; omega) q1
  have Q2 := Go.cell_grown (by show w.heap.size + 1 < _; omega) q2
  have Q3 := Go.cell_grown (by show w.heap.size + 1 < _; omega) q3
  have Q4 := Go.cell_grown (by show w.heap.size + 1 < _; omega) q4
  have Q5 := Go.cell_grown (by show w.heap.size + 1 < _; omega) q5
  have Q6 := Go.cell_grown (by show w.heap.size + 1 < _; omega) q6
  go_quiet_grown (first | (go_at_call 25; refine Calls.grown_of (toJob_grow _ _ _ _ _ _ _ _)) | (go_at_call 18; refine Calls.grown_of (specAhead_grow _ _ _ _ _ _ _ _ _ _ _ _ _ _ _)))
  have r0 := P0 nq osq
  have r1 := P1 nq osq
  have r2 := P2 nq osq
  have r3 := P3 nq osq
  have r4 := P4 nq osq
  have r5 := P5 nq osq
  have r6 := P6 nq osq
  have r7 := Q0 nq osq
  have r8 := Q1 nq osq
  have r9 := Q2 nq osq
  have r10 := Q3 nq osq
  have r11 := Q4 nq osq
  have r12 := Q5 nq osq
  have r13 := Q6 nq osq
  have hz2 : w.heap.size + 1 < (Go.Sort.grow (W.drewN nq) osq).heap.size := by have : (Go.Sort.grow (W.drewN nq) osq).heap.size = W.heap.size + osq.size := by simp
                                                                               omega
  have HB : Below W.heap.size W (Go.Sort.grow (W.drewN nq) osq) := below_grow _ _ _
  clear P0 Q0 P1 Q1 P2 Q2 P3 Q3 P4 Q4 P5 Q5 P6 Q6
  generalize Go.Sort.grow (W.drewN nq) osq = W2 at r0 r1 r2 r3 r4 r5 r6 r7 r8 r9 r10 r11 r12 r13 hz2 HB ⊢
  have P0 := Go.cell_grown (by show w.heap.size < _; omega) r0
  have P1 := Go.cell_grown (by show w.heap.size < _; omega) r1
  have P2 := Go.cell_grown (by show w.heap.size < _; omega) r2
  have P3 := Go.cell_grown (by show w.heap.size < _; omega) r3
  have P4 := Go.cell_grown (by show w.heap.size < _; omega) r4
  have P5 := Go.cell_grown (by show w.heap.size < _; omega) r5
  have P6 := Go.cell_grown (by show w.heap.size < _; omega) r6
  have Q0 := Go.cell_grown (by show w.heap.size + 1 < _; omega) r7
  have Q1 := Go.cell_grown (by show w.heap.size + 1 < _; omega) r8
  have Q2 := Go.cell_grown (by show w.heap.size + 1 < _; omega) r9
  have Q3 := Go.cell_grown (by show w.heap.size + 1 < _; omega) r10
  have Q4 := Go.cell_grown (by show w.heap.size + 1 < _; omega) r11
  have Q5 := Go.cell_grown (by show w.heap.size + 1 < _; omega) r12
  have Q6 := Go.cell_grown (by show w.heap.size + 1 < _; omega) r13
  go_wp2
  go_quiet_grown (first | (go_at_call 25; refine Calls.grown_of (toJob_grow _ _ _ _ _ _ _ _)) | (go_at_call 17; refine Calls.grown_of (implAhead_grow _ _ _ _ _ _ _ _ _ _ _ _ _ _ _)))
  go_wp2
  go_ret
  refine ⟨rfl, ?_⟩
  have H1 : Below w.heap.size w W := by rw [HW.out]; exact below_grow w 0 _
  have hW : w.heap.size ≤ W.heap.size := by omega
  exact (H1.then HB hW).then (below_grow _ _ _) (by omega)

set_option maxRecDepth 100000 in
theorem lifted (os : Os) (started : os.Started) (H : Type) (enc : TypeId × Value → H) :
    ReturnsInHanded {} Try.checked os 6 .any (Rows.fnExactAheadSpec.pre6 enc Try.prog Try.f6 Rows.fnExactAheadRow.domain false) (Rows.fnExactAheadSpec.post enc Try.prog Try.f6 false true false false) := by
  refine returnsInHanded_of_change (C := Try.checked) own started (by kernel_rfl) Try.func6
    (ChangeSpec.witness6 (enc := enc) (C := Try.checked) false ⟨#[], #[.agg #[.int .i64 0, .int .i64 0, .int .i64 0, .int .i64 0, .int .i64 0, .int .i64 0, .int .i64 0], .agg #[.int .i64 0, .int .i64 0, .int .i64 0, .int .i64 0, .int .i64 0, .int .i64 0, .int .i64 0]], []⟩ 8 (by kernel_rfl) (by kernel_rfl) (by kernel_rfl) (by kernel_rfl)) ?_
  intro W base args ds gs before hval0 hW hcnd _
  have hval : ∀ (j : Nat) t v, Try.f6.params[j]? = some t → args[j]? = some v → Value.okWide Try.prog W .any base t v := hval0
  have hW' := hW
  obtain ⟨p, q, hA0, hV, rfl, hfz, hnd⟩ := hW
  have hA : DataW.TrodAll enc Try.prog W 0 (fun _ => true) true Try.f6.params.toList args.toList ds p := hA0
  rw [Try.params6] at hA hval
  obtain ⟨v0, vs0, d0, ds0, p0, q0, hargs, rfl, rfl, h0, r0⟩ := trodAll_cons hA
  obtain ⟨v1, vs1, d1, ds1, p1, q1, rfl, rfl, rfl, h1, r1⟩ := trodAll_cons r0
  obtain ⟨rfl, rfl, rfl⟩ := trodAll_nil r1
  obtain rfl : args = #[v0, v1] := by cases args; simp_all
  obtain ⟨rfl, rfl⟩ := trodVars_none hV
  have k0 := h0
  have lt0 : ∀ x ∈ p0, x.block < W.heap.size := by obtain ⟨m, hm⟩ := k0; exact DataW.trod_lt m _ _ _ hm
  obtain ⟨j0, rfl, w0⟩ := open_job (hval 0 38 v0 rfl rfl) h0
  have k1 := h1
  have lt1 : ∀ x ∈ p1, x.block < W.heap.size := by obtain ⟨m, hm⟩ := k1; exact DataW.trod_lt m _ _ _ hm
  obtain ⟨j1, rfl, w1⟩ := open_job (hval 1 38 v1 rfl rfl) h1
  clear hA0 hval0
  refine (walk j0 j1 W w0 w1).mono fun e W' ⟨he, bel⟩ => ?_
  subst he
  exact ⟨_, rfl, _, _, _, [], _, [], hW', trodAll_mk1 (shut_bool Try.underlying4 _), (trodAll_cons_mk (Below.trod laidOut (by kernel_rfl) (of_decide_eq_true (by kernel_rfl)) k0 bel lt0) (trodAll_cons_mk (Below.trod laidOut (by kernel_rfl) (of_decide_eq_true (by kernel_rfl)) k1 bel lt1) trodAll_mk0)), rfl, bel.frame _, fun h => by cases h⟩

theorem over : Rows.fnExactAheadRow.holds Try.pinned (OpenSpec.ofChange Rows.fnExactAheadSpec) :=
  OpenClaim.holds_of_wide 6 Try.f6 rfl rfl rfl rfl rfl rfl rfl ⟨rfl, rfl, rfl, rfl, rfl⟩ rfl rfl rfl rfl rfl (by kernel_rfl) Try.func6 (by kernel_rfl)
    (of_decide_eq_true (by kernel_rfl)) (by unfold Func.isWrapper; first | (rw [if_pos (by decide +kernel)]; kernel_rfl) | (rw [if_neg (by decide +kernel)]; exact ⟨rfl, rfl⟩))
    (fun os started H enc _ => lifted os started H enc)

/-- the given statement -/
theorem proved : Rows.FnExactAheadSaid := over
#print axioms proved
end Go.Proofs.Ytolgifcbglbiaaa.fnExactAhead
