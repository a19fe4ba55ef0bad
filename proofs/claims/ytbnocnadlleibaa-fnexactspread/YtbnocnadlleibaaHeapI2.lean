/- Less and Swap of the program's heap. -/
import Derived.Test.YtbnocnadlleibaaHeapI
namespace Go.Proofs.Ytbnocnadlleibaa
open Go.RowKit Go.Sort

def orM (x y : Int) : Int := if x ≠ 0 then x else y

theorem or2m_any (B : Nat) (x y : Int) (w : World) (h0 : w.cell? ⟨B, 0, none⟩ = some (.int .i64 x)) (h1 : w.cell? ⟨B, 1, none⟩ = some (.int .i64 y)) :
    Calls Try.prog 74 #[.slice (some ⟨B, 0, none⟩) 2 2] w fun e w' => e = .returned (.int .i64 (orM x y)) ∧ w' = w := by
  unfold orM
  by_cases c0 : x = 0
  · have d0 : (x != 0) = false := by simpa using c0
    rw [if_neg (by simpa using c0)]
    clear c0
    by_cases c1 : y = 0
    · have d1 : (y != 0) = false := by simpa using c1
      have HZ : Hid (y = 0) := c1
      clear c1
      go_enter Try.func74, Try.ntmps74
      go_wp2
      refine wp_loop_rounds 3 ?_
      rw [rounds_succ]
      go_wp2
      rw [rounds_succ]
      go_wp2
      rw [rounds_succ]
      go_wp2
      go_ret
      exact ⟨by rw [HZ.out]; rfl, rfl⟩
    · have d1 : (y != 0) = true := by simpa using c1
      clear c1
      go_enter Try.func74, Try.ntmps74
      go_wp2
      refine wp_loop_rounds 3 ?_
      rw [rounds_succ]
      go_wp2
      rw [rounds_succ]
      go_wp2
      go_ret
      exact ⟨rfl, rfl⟩
  · have d0 : (x != 0) = true := by simpa using c0
    rw [if_pos (by simpa using c0)]
    clear c0
    go_enter Try.func74, Try.ntmps74
    go_wp2
    refine wp_loop_rounds 3 ?_
    rw [rounds_succ]
    go_wp2
    go_ret
    exact ⟨rfl, rfl⟩

theorem new2m_0 (W : World) (x y : Value) (T : TypeId) : ((W.alloc (.cells #[x, y] T)).drew).cell? ⟨W.heap.size, 0, none⟩ = some x := by
  show (W.alloc (.cells #[x, y] T)).cell? _ = _
  rw [Joins.cell_alloc_mark_at _ _ _ _ _ _ rfl]; rfl
theorem new2m_1 (W : World) (x y : Value) (T : TypeId) : ((W.alloc (.cells #[x, y] T)).drew).cell? ⟨W.heap.size, 1, none⟩ = some y := by
  show (W.alloc (.cells #[x, y] T)).cell? _ = _
  rw [Joins.cell_alloc_mark_at _ _ _ _ _ _ rfl]; rfl

/-- does the program's heap hold the one ahead of the other -/
def mltB (a b : Int × Int) : Bool := decide (orM (cmpI a.2 b.2) (cmpI a.1 b.1) < 0)
theorem mltB_iff {a b : Int × Int} : mltB a b = true ↔ mlt a b := by
  unfold mltB mlt orM
  rw [decide_eq_true_iff]
  by_cases h : a.2 = b.2
  · rw [if_neg (fun h1 => h1 (cmpI_zero.2 h)), cmpI_neg]; omega
  · rw [if_pos (fun h1 => h (cmpI_zero.1 h1)), cmpI_neg]; omega

set_option maxRecDepth 8000 in
set_option maxHeartbeats 4000000 in
theorem less_any (g n cap i j : Nat) (x y : Int × Int) (w : World) (hi : i < n) (hj : j < n)
    (x0 : w.cell? ⟨g, i * 2, none⟩ = some (.int .i64 x.1)) (x1 : w.cell? ⟨g, i * 2 + 1, none⟩ = some (.int .i64 x.2))
    (y0 : w.cell? ⟨g, j * 2, none⟩ = some (.int .i64 y.1)) (y1 : w.cell? ⟨g, j * 2 + 1, none⟩ = some (.int .i64 y.2)) :
    Calls Try.prog 119 #[.slice (some ⟨g, 0, none⟩) n cap, .int .i64 i, .int .i64 j] w fun e w' => e = .returned (.bool (mltB x y)) ∧ Below w.heap.size w w' := by
  unfold mltB
  have hi' : (i : Int) < (n : Int) := by omega
  have hj' : (j : Int) < (n : Int) := by omega
  go_enter Try.func119, Try.ntmps119
  go_wp2_with fail
  refine wp_region_still_tail 22 (by kernel_rfl) (by kernel_rfl) ?_
  simp only [List.take_succ_cons, List.take_zero, List.drop_succ_cons, List.drop_zero]
  change wpStill _ _ w.drew (fun a' => wpList _ _ _ _ a' w.drew) _ _
  repeat still_step
  still_call (compare_any _ _ _)
  repeat still_step
  still_call (compare_any _ _ _)
  repeat still_step
  refine wpStill_nil ?_
  go_wp2_with (go_at_call 74; refine Calls.mono (or2m_any w.heap.size (cmpI x.2 y.2) (cmpI x.1 y.1) _ (new2m_0 _ _ _ _) (new2m_1 _ _ _ _)) ?_; rintro e w' ⟨rfl, rfl⟩)
  go_ret
  exact ⟨rfl, (Below.refl _ _).drew.alloc (Nat.le_refl _) _⟩

end Go.Proofs.Ytbnocnadlleibaa
