/- The order of a queue: cmp.Compare, cmp.Or, inQueue; Ahead of the program. -/
import Derived.Test.YtmgeknddnamjlaaJobOk
import Derived.StillTailTactics
import Derived.Lib.SmallJoins
import Derived.Sort.Grow
namespace Go.Proofs.Ytmgeknddnamjlaa
open Go.RowKit Go.Sort

def cmpI (a b : Int) : Int := if a < b then -1 else if b < a then 1 else 0
def or3 (x y z : Int) : Int := if x ≠ 0 then x else if y ≠ 0 then y else z

theorem cmpI_bd (a b : Int) : -1 ≤ cmpI a b ∧ cmpI a b ≤ 1 := by unfold cmpI; split <;> (try split) <;> omega

theorem isNaN_any (x : Int) (w : World) :
    Calls Try.prog 81 #[.int .i64 x] w fun e w' => e = .returned (.bool false) ∧ w' = w := by
  go_enter Try.func81, Try.ntmps81
  go_wp2
  go_ret
  exact ⟨rfl, rfl⟩

theorem compare_any (a b : Int) (w : World) :
    Calls Try.prog 75 #[.int .i64 a, .int .i64 b] w fun e w' => e = .returned (.int .i64 (cmpI a b)) ∧ w' = w := by
  unfold cmpI
  by_cases c1 : a < b
  · rw [if_pos c1]
    go_enter Try.func75, Try.ntmps75
    go_wp2_with (go_at_call 81; refine (isNaN_any _ _).mono ?_; rintro e w' ⟨rfl, rfl⟩)
    go_ret
    exact ⟨rfl, rfl⟩
  · rw [if_neg c1]
    by_cases c2 : b < a
    · rw [if_pos c2]
      go_enter Try.func75, Try.ntmps75
      go_wp2_with (go_at_call 81; refine (isNaN_any _ _).mono ?_; rintro e w' ⟨rfl, rfl⟩)
      go_ret
      exact ⟨rfl, rfl⟩
    · rw [if_neg c2]
      go_enter Try.func75, Try.ntmps75
      go_wp2_with (go_at_call 81; refine (isNaN_any _ _).mono ?_; rintro e w' ⟨rfl, rfl⟩)
      go_ret
      exact ⟨rfl, rfl⟩

theorem or_any (B : Nat) (x y z : Int) (w : World) (h0 : w.cell? ⟨B, 0, none⟩ = some (.int .i64 x)) (h1 : w.cell? ⟨B, 1, none⟩ = some (.int .i64 y)) (h2 : w.cell? ⟨B, 2, none⟩ = some (.int .i64 z)) :
    Calls Try.prog 74 #[.slice (some ⟨B, 0, none⟩) 3 3] w fun e w' => e = .returned (.int .i64 (or3 x y z)) ∧ w' = w := by
  unfold or3
  by_cases c0 : x = 0
  · have d0 : (x != 0) = false := by simpa using c0
    rw [if_neg (by simpa using c0)]
    by_cases c1 : y = 0
    · have d1 : (y != 0) = false := by simpa using c1
      rw [if_neg (by simpa using c1)]
      clear c0 c1
      by_cases c2 : z = 0
      · have d2 : (z != 0) = false := by simpa using c2
        have HZ : Hid (z = 0) := c2
        clear c2
        go_enter Try.func74, Try.ntmps74
        go_wp2
        refine wp_loop_rounds 4 ?_
        rw [rounds_succ]
        go_wp2
        rw [rounds_succ]
        go_wp2
        rw [rounds_succ]
        go_wp2
        rw [rounds_succ]
        go_wp2
        go_ret
        exact ⟨by rw [HZ.out]; rfl, rfl⟩
      · have d2 : (z != 0) = true := by simpa using c2
        clear c2
        go_enter Try.func74, Try.ntmps74
        go_wp2
        refine wp_loop_rounds 4 ?_
        rw [rounds_succ]
        go_wp2
        rw [rounds_succ]
        go_wp2
        rw [rounds_succ]
        go_wp2
        go_ret
        exact ⟨rfl, rfl⟩
    · have d1 : (y != 0) = true := by simpa using c1
      rw [if_pos (by simpa using c1)]
      clear c0 c1
      go_enter Try.func74, Try.ntmps74
      go_wp2
      refine wp_loop_rounds 4 ?_
      rw [rounds_succ]
      go_wp2
      rw [rounds_succ]
      go_wp2
      go_ret
      exact ⟨rfl, rfl⟩
  · have d0 : (x != 0) = true := by simpa using c0
    rw [if_pos (by simpa using c0)]
    clear c0
    go_enter Try.func74, Try.ntmps74
    go_wp2
    refine wp_loop_rounds 4 ?_
    rw [rounds_succ]
    go_wp2
    go_ret
    exact ⟨rfl, rfl⟩

theorem new1_0 (W : World) (x y z : Value) (T : TypeId) : ((W.alloc (.cells #[x, y, z] T)).drew).cell? ⟨W.heap.size, 0, none⟩ = some x := by
  show (W.alloc (.cells #[x, y, z] T)).cell? _ = _
  rw [Joins.cell_alloc_mark_at _ _ _ _ _ _ rfl]; rfl

theorem new1_1 (W : World) (x y z : Value) (T : TypeId) : ((W.alloc (.cells #[x, y, z] T)).drew).cell? ⟨W.heap.size, 1, none⟩ = some y := by
  show (W.alloc (.cells #[x, y, z] T)).cell? _ = _
  rw [Joins.cell_alloc_mark_at _ _ _ _ _ _ rfl]; rfl

theorem new1_2 (W : World) (x y z : Value) (T : TypeId) : ((W.alloc (.cells #[x, y, z] T)).drew).cell? ⟨W.heap.size, 2, none⟩ = some z := by
  show (W.alloc (.cells #[x, y, z] T)).cell? _ = _
  rw [Joins.cell_alloc_mark_at _ _ _ _ _ _ rfl]; rfl

/-- what inQueue tells -/
def inQ (i r a i' r' a' : Int) : Int := or3 (cmpI r' r) (cmpI a a') (cmpI i i')

theorem cmpI_zero {a b : Int} : cmpI a b = 0 ↔ a = b := by unfold cmpI; split <;> (try split) <;> omega
theorem cmpI_neg {a b : Int} : cmpI a b < 0 ↔ a < b := by unfold cmpI; split <;> (try split) <;> omega

theorem inQ_ahead (i r a i' r' a' : Int) : decide (inQ i r a i' r' a' < 0) = aheadB i r a i' r' a' := by
  unfold inQ or3 aheadB
  by_cases c1 : r = r'
  · have e : ¬ (cmpI r' r ≠ 0) := fun h => h (cmpI_zero.2 c1.symm)
    have d : ¬ (r ≠ r') := fun h => h c1
    rw [if_neg e, if_neg d]
    by_cases c2 : a = a'
    · have e : ¬ (cmpI a a' ≠ 0) := fun h => h (cmpI_zero.2 c2)
      have d : ¬ (a ≠ a') := fun h => h c2
      rw [if_neg e, if_neg d]
      exact decide_eq_decide.2 cmpI_neg
    · have e : cmpI a a' ≠ 0 := fun h => c2 (cmpI_zero.1 h)
      rw [if_pos e, if_pos c2]
      exact decide_eq_decide.2 cmpI_neg
  · have e : cmpI r' r ≠ 0 := fun h => c1 (cmpI_zero.1 h).symm
    rw [if_pos e, if_pos c1]
    exact decide_eq_decide.2 cmpI_neg

theorem below_grow (w : World) (q : Nat) (os : Array Obj) : Below w.heap.size w (grow (w.drewN q) os) :=
  ⟨rfl, rfl, rfl, by simp, fun k hk => by rw [heap_grow_old _ _ (by simpa using hk)]; rfl⟩

end Go.Proofs.Ytmgeknddnamjlaa
