/- The order of a queue: cmp.Compare, cmp.Or, inQueue; Ahead of the program. -/
import Derived.Test.YtaoimijeaacaiaaJobOk
import Derived.Test.YtaoimijeaacaiaaCmp
import Derived.StillTailTactics
import Derived.Lib.SmallJoins
import Derived.Sort.Grow
namespace Go.Proofs.Ytaoimijeaacaiaa
open Go.RowKit Go.Sort

/-- what inQueue tells -/
def inQ (i r a i' r' a' : Int) : Int := or3 (cmpI r' r) (cmpI a a') (cmpI i i')

set_option maxRecDepth 8000 in
set_option maxHeartbeats 4000000 in
theorem inQueue_any (i c l d t r a i' c' l' d' t' r' a' : Int) (w : World) :
    Calls Try.prog 53 #[.agg #[.int .i64 i, .int .i64 c, .int .i64 l, .int .i64 d, .int .i64 t, .int .i64 r, .int .i64 a], .agg #[.int .i64 i', .int .i64 c', .int .i64 l', .int .i64 d', .int .i64 t', .int .i64 r', .int .i64 a']] w fun e w' => e = .returned (.int .i64 (inQ i r a i' r' a')) ∧ ∃ q os', w' = grow (w.drewN q) os' := by
  unfold inQ
  go_enter Try.func53, Try.ntmps53
  go_wp2
  have k0 : ((w.alloc (.cells #[.int .i64 i, .int .i64 c, .int .i64 l, .int .i64 d, .int .i64 t, .int .i64 r, .int .i64 a] 28)).alloc (.cells #[.int .i64 i', .int .i64 c', .int .i64 l', .int .i64 d', .int .i64 t', .int .i64 r', .int .i64 a'] 28)).cell? ⟨w.heap.size, 0, none⟩ = some (.int .i64 i) := by simp
  have k1 : ((w.alloc (.cells #[.int .i64 i, .int .i64 c, .int .i64 l, .int .i64 d, .int .i64 t, .int .i64 r, .int .i64 a] 28)).alloc (.cells #[.int .i64 i', .int .i64 c', .int .i64 l', .int .i64 d', .int .i64 t', .int .i64 r', .int .i64 a'] 28)).cell? ⟨w.heap.size, 5, none⟩ = some (.int .i64 r) := by simp
  have k2 : ((w.alloc (.cells #[.int .i64 i, .int .i64 c, .int .i64 l, .int .i64 d, .int .i64 t, .int .i64 r, .int .i64 a] 28)).alloc (.cells #[.int .i64 i', .int .i64 c', .int .i64 l', .int .i64 d', .int .i64 t', .int .i64 r', .int .i64 a'] 28)).cell? ⟨w.heap.size, 6, none⟩ = some (.int .i64 a) := by simp
  have k3 : ((w.alloc (.cells #[.int .i64 i, .int .i64 c, .int .i64 l, .int .i64 d, .int .i64 t, .int .i64 r, .int .i64 a] 28)).alloc (.cells #[.int .i64 i', .int .i64 c', .int .i64 l', .int .i64 d', .int .i64 t', .int .i64 r', .int .i64 a'] 28)).cell? ⟨w.heap.size + 1, 0, none⟩ = some (.int .i64 i') := by simp
  have k4 : ((w.alloc (.cells #[.int .i64 i, .int .i64 c, .int .i64 l, .int .i64 d, .int .i64 t, .int .i64 r, .int .i64 a] 28)).alloc (.cells #[.int .i64 i', .int .i64 c', .int .i64 l', .int .i64 d', .int .i64 t', .int .i64 r', .int .i64 a'] 28)).cell? ⟨w.heap.size + 1, 5, none⟩ = some (.int .i64 r') := by simp
  have k5 : ((w.alloc (.cells #[.int .i64 i, .int .i64 c, .int .i64 l, .int .i64 d, .int .i64 t, .int .i64 r, .int .i64 a] 28)).alloc (.cells #[.int .i64 i', .int .i64 c', .int .i64 l', .int .i64 d', .int .i64 t', .int .i64 r', .int .i64 a'] 28)).cell? ⟨w.heap.size + 1, 6, none⟩ = some (.int .i64 a') := by simp
  have HW : Hid ((w.alloc (.cells #[.int .i64 i, .int .i64 c, .int .i64 l, .int .i64 d, .int .i64 t, .int .i64 r, .int .i64 a] 28)).alloc (.cells #[.int .i64 i', .int .i64 c', .int .i64 l', .int .i64 d', .int .i64 t', .int .i64 r', .int .i64 a'] 28) = grow w #[(.cells #[.int .i64 i, .int .i64 c, .int .i64 l, .int .i64 d, .int .i64 t, .int .i64 r, .int .i64 a] 28), (.cells #[.int .i64 i', .int .i64 c', .int .i64 l', .int .i64 d', .int .i64 t', .int .i64 r', .int .i64 a'] 28)]) := by unfold Hid; rw [alloc_eq_grow, alloc_eq_grow, grow_grow]; rfl
  generalize (w.alloc (.cells #[.int .i64 i, .int .i64 c, .int .i64 l, .int .i64 d, .int .i64 t, .int .i64 r, .int .i64 a] 28)).alloc (.cells #[.int .i64 i', .int .i64 c', .int .i64 l', .int .i64 d', .int .i64 t', .int .i64 r', .int .i64 a'] 28) = W at k0 k1 k2 k3 k4 k5 HW ⊢
  refine wp_region_still_tail 15 (by kernel_rfl) (by kernel_rfl) ?_
  simp only [List.take_succ_cons, List.take_zero, List.drop_succ_cons, List.drop_zero]
  change wpStill _ _ W.drew (fun a' => wpList _ _ _ _ a' W.drew) _ _
  repeat still_step
  still_call (compare_any _ _ _)
  repeat still_step
  still_call (compare_any _ _ _)
  repeat still_step
  still_call (compare_any _ _ _)
  refine wpStill_nil ?_
  go_wp2_with (go_at_call 80; refine Calls.mono (or_any W.heap.size (cmpI r' r) (cmpI a a') (cmpI i i') _ (new1_0 _ _ _ _ _) (new1_1 _ _ _ _ _) (new1_2 _ _ _ _ _)) ?_; rintro e w' ⟨rfl, rfl⟩)
  go_ret
  refine ⟨rfl, ?_⟩
  rw [HW.out, alloc_eq_grow, grow_grow]
  exact ⟨1, _, rfl⟩

theorem inQ_ahead (i r a i' r' a' : Int) : decide (inQ i r a i' r' a' < 0) = aheadB i r a i' r' a' := by
  unfold inQ or3 aheadB
  by_cases c1 : r = r'
  · have e : ¬ (cmpI r' r ≠ 0) := fun h => h (cmpI_zero.2 c1.symm)
    have d : ¬ (r ≠ r') := fun h => h c1
    rw [if_neg e, if_neg d]
    by_cases c2 : a = a'
    · have e : ¬ (cmpI a a' ≠ 0) := fun h => h (cmpI_zero.2 c2)
      have d : ¬ (a ≠ a') := fun h => h c2
      rw [if_neg e, if_neg d]
      exact decide_eq_decide.2 cmpI_neg
    · have e : cmpI a a' ≠ 0 := fun h => c2 (cmpI_zero.1 h)
      rw [if_pos e, if_pos c2]
      exact decide_eq_decide.2 cmpI_neg
  · have e : cmpI r' r ≠ 0 := fun h => c1 (cmpI_zero.1 h).symm
    rw [if_pos e, if_pos c1]
    exact decide_eq_decide.2 cmpI_neg

set_option maxHeartbeats 1000000 in
theorem implAhead_any (i c l d t r a i' c' l' d' t' r' a' : Int) (w : World) :
    Calls Try.prog 22 #[.agg #[.int .i64 i, .int .i64 c, .int .i64 l, .int .i64 d, .int .i64 t, .int .i64 r, .int .i64 a], .agg #[.int .i64 i', .int .i64 c', .int .i64 l', .int .i64 d', .int .i64 t', .int .i64 r', .int .i64 a']] w fun e w' => e = .returned (.bool (aheadB i r a i' r' a')) ∧ Below w.heap.size w w' := by
  rw [← inQ_ahead]
  go_enter Try.func22, Try.ntmps22
  go_wp2_with (go_at_call 53; refine (inQueue_any _ _ _ _ _ _ _ _ _ _ _ _ _ _ _).mono ?_; rintro e w' ⟨rfl, q, os, rfl⟩)
  go_ret
  exact ⟨rfl, (((Below.refl _ _).alloc (by simp) _).alloc (by simp) _).then (below_grow _ _ _) (by simp; omega)⟩

end Go.Proofs.Ytaoimijeaacaiaa
