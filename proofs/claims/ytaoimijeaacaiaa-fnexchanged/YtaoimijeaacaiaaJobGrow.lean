/- toJob and Ahead, told by what they lay. -/
import Derived.Test.YtaoimijeaacaiaaJobCmp
import Derived.Shelf.SlSortCmp.QuietGrown
namespace Go.Proofs.Ytaoimijeaacaiaa
open Go.RowKit Go.Sort

theorem toJob_grow (i c l d t r a : Int) (w : World) :
    Calls Try.prog 65 #[.agg #[.int .i64 i, .int .i64 c, .int .i64 l, .int .i64 d, .int .i64 t, .int .i64 r, .int .i64 a]] w fun e w' => e = .returned (.agg #[.int .i64 i, .int .i64 c, .int .i64 l, .int .i64 d, .int .i64 t, .int .i64 r, .int .i64 a]) ∧ ∃ q os', w' = grow (w.drewN q) os' := by
  go_enter Try.func65, Try.ntmps65
  go_wp2
  exact bodyPost_ret (v := .agg #[.int .i64 i, .int .i64 c, .int .i64 l, .int .i64 d, .int .i64 t, .int .i64 r, .int .i64 a]) (by simp [results, Try.results65, go_sem]) rfl ⟨rfl, by rw [alloc_eq_grow, alloc_eq_grow, alloc_eq_grow, grow_grow, grow_grow]; exact ⟨0, _, rfl⟩⟩

set_option maxHeartbeats 1000000 in
theorem specAhead_grow (i c l d t r a i' c' l' d' t' r' a' : Int) (w : World) :
    Calls Try.prog 23 #[.agg #[.int .i64 i, .int .i64 c, .int .i64 l, .int .i64 d, .int .i64 t, .int .i64 r, .int .i64 a], .agg #[.int .i64 i', .int .i64 c', .int .i64 l', .int .i64 d', .int .i64 t', .int .i64 r', .int .i64 a']] w fun e w' => e = .returned (.bool (aheadB i r a i' r' a')) ∧ ∃ q os', w' = grow (w.drewN q) os' := by
  have hw : ∀ A B, ∃ q os', (w.alloc A).alloc B = grow (w.drewN q) os' := fun A B => by rw [alloc_eq_grow, alloc_eq_grow, grow_grow]; exact ⟨0, _, rfl⟩
  unfold aheadB
  by_cases c1 : r = r'
  · subst c1
    rw [if_neg (by simp)]
    by_cases c2 : a = a'
    · subst c2
      rw [if_neg (by simp)]
      go_enter Try.func23, Try.ntmps23
      go_wp2
      go_ret
      exact ⟨rfl, hw _ _⟩
    · rw [if_pos c2]
      have c2' : (a != a') = true := by simpa using c2
      clear c2
      go_enter Try.func23, Try.ntmps23
      go_wp2
      go_ret
      exact ⟨rfl, hw _ _⟩
  · rw [if_pos c1]
    have c1' : (r != r') = true := by simpa using c1
    clear c1
    go_enter Try.func23, Try.ntmps23
    go_wp2
    go_ret
    exact ⟨rfl, hw _ _⟩

set_option maxHeartbeats 1000000 in
theorem implAhead_grow (i c l d t r a i' c' l' d' t' r' a' : Int) (w : World) :
    Calls Try.prog 22 #[.agg #[.int .i64 i, .int .i64 c, .int .i64 l, .int .i64 d, .int .i64 t, .int .i64 r, .int .i64 a], .agg #[.int .i64 i', .int .i64 c', .int .i64 l', .int .i64 d', .int .i64 t', .int .i64 r', .int .i64 a']] w fun e w' => e = .returned (.bool (aheadB i r a i' r' a')) ∧ ∃ q os', w' = grow (w.drewN q) os' := by
  have hw : ∀ A B q os, ∃ q' os', grow (((w.alloc A).alloc B).drewN q) os = grow (w.drewN q') os' := fun A B q os => by rw [alloc_eq_grow, alloc_eq_grow, grow_grow]; exact ⟨q, #[A] ++ #[B] ++ os, by show grow (grow (w.drewN q) (#[A] ++ #[B])) os = _; rw [grow_grow]⟩
  rw [← inQ_ahead]
  go_enter Try.func22, Try.ntmps22
  go_wp2_with (go_at_call 53; refine (inQueue_any _ _ _ _ _ _ _ _ _ _ _ _ _ _ _).mono ?_; rintro e w' ⟨rfl, q, os, rfl⟩)
  go_ret
  exact ⟨rfl, hw _ _ _ _⟩

end Go.Proofs.Ytaoimijeaacaiaa
