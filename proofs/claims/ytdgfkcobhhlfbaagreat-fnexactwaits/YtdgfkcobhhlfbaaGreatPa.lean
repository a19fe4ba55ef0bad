/- Several texts in one. -/
import Derived.Test.YtdgfkcobhhlfbaaGreatJobIn
import Derived.Test.YtdgfkcobhhlfbaaGreatTime
import Derived.Test.YtdgfkcobhhlfbaaGreatMem
import Derived.StillTailTactics
import Derived.Lib.SmallJoins
import Derived.Sort.Grow
import Derived.Shelf.SlSortCmp.QuietGrown
import Derived.Sort.Statements
/- JobOk and Ahead, of the model and of the program. -/
namespace Go.Proofs.YtdgfkcobhhlfbaaGreat
open Go.RowKit

/-- a right job -/
def jobB (i c l d t r a : Int) : Bool := inB i 1 1000000 && inB c 1 1000 && inB l 1 10000 && okB d && inB t 0 1000 && inB r 0 9 && okB a
/-- is a ahead of b -/
def aheadB (i r a i' r' a' : Int) : Bool := if r ≠ r' then decide (r' < r) else if a ≠ a' then decide (a < a') else decide (i < i')

set_option maxHeartbeats 1000000 in
theorem specJobOk_any (i c l d t r a : Int) (w : World) :
    Calls Tryz.prog 52 #[.agg #[.int .i64 i, .int .i64 c, .int .i64 l, .int .i64 d, .int .i64 t, .int .i64 r, .int .i64 a]] w fun e w' => e = .returned (.bool (jobB i c l d t r a)) ∧ Below w.heap.size w w' := by

  rcases h0 : inB i 1 1000000 with _ | _
  · have E : jobB i c l d t r a = false := by unfold jobB; simp [h0]
    rw [E]; clear E
    go_enter Tryz.func52, Tryz.ntmps52
    go_wp2_with (first | (go_at_call 29; refine (l1In_any _ _ _ _).mono ?_; rintro e w' ⟨rfl, rfl⟩) | (go_at_call 72; refine (specOk_any _ _).mono ?_; rintro e w' ⟨rfl, rfl⟩))
    go_ret
    exact ⟨rfl, (Below.refl _ _).alloc (by simp) _⟩
  rcases h1 : inB c 1 1000 with _ | _
  · have E : jobB i c l d t r a = false := by unfold jobB; simp [h1]
    rw [E]; clear E
    go_enter Tryz.func52, Tryz.ntmps52
    go_wp2_with (first | (go_at_call 29; refine (l1In_any _ _ _ _).mono ?_; rintro e w' ⟨rfl, rfl⟩) | (go_at_call 72; refine (specOk_any _ _).mono ?_; rintro e w' ⟨rfl, rfl⟩))
    go_ret
    exact ⟨rfl, (Below.refl _ _).alloc (by simp) _⟩
  rcases h2 : inB l 1 10000 with _ | _
  · have E : jobB i c l d t r a = false := by unfold jobB; simp [h2]
    rw [E]; clear E
    go_enter Tryz.func52, Tryz.ntmps52
    go_wp2_with (first | (go_at_call 29; refine (l1In_any _ _ _ _).mono ?_; rintro e w' ⟨rfl, rfl⟩) | (go_at_call 72; refine (specOk_any _ _).mono ?_; rintro e w' ⟨rfl, rfl⟩))
    go_ret
    exact ⟨rfl, (Below.refl _ _).alloc (by simp) _⟩
  rcases h3 : okB d with _ | _
  · have E : jobB i c l d t r a = false := by unfold jobB; simp [h3]
    rw [E]; clear E
    go_enter Tryz.func52, Tryz.ntmps52
    go_wp2_with (first | (go_at_call 29; refine (l1In_any _ _ _ _).mono ?_; rintro e w' ⟨rfl, rfl⟩) | (go_at_call 72; refine (specOk_any _ _).mono ?_; rintro e w' ⟨rfl, rfl⟩))
    go_ret
    exact ⟨rfl, (Below.refl _ _).alloc (by simp) _⟩
  rcases h4 : okB a with _ | _
  · have E : jobB i c l d t r a = false := by unfold jobB; simp [h4]
    rw [E]; clear E
    go_enter Tryz.func52, Tryz.ntmps52
    go_wp2_with (first | (go_at_call 29; refine (l1In_any _ _ _ _).mono ?_; rintro e w' ⟨rfl, rfl⟩) | (go_at_call 72; refine (specOk_any _ _).mono ?_; rintro e w' ⟨rfl, rfl⟩))
    go_ret
    exact ⟨rfl, (Below.refl _ _).alloc (by simp) _⟩
  rcases h5 : inB t 0 1000 with _ | _
  · have E : jobB i c l d t r a = false := by unfold jobB; simp [h5]
    rw [E]; clear E
    go_enter Tryz.func52, Tryz.ntmps52
    go_wp2_with (first | (go_at_call 29; refine (l1In_any _ _ _ _).mono ?_; rintro e w' ⟨rfl, rfl⟩) | (go_at_call 72; refine (specOk_any _ _).mono ?_; rintro e w' ⟨rfl, rfl⟩))
    go_ret
    exact ⟨rfl, (Below.refl _ _).alloc (by simp) _⟩
  rcases h6 : inB r 0 9 with _ | _
  · have E : jobB i c l d t r a = false := by unfold jobB; simp [h6]
    rw [E]; clear E
    go_enter Tryz.func52, Tryz.ntmps52
    go_wp2_with (first | (go_at_call 29; refine (l1In_any _ _ _ _).mono ?_; rintro e w' ⟨rfl, rfl⟩) | (go_at_call 72; refine (specOk_any _ _).mono ?_; rintro e w' ⟨rfl, rfl⟩))
    go_ret
    exact ⟨rfl, (Below.refl _ _).alloc (by simp) _⟩
  have E : jobB i c l d t r a = true := by unfold jobB; simp [h0, h1, h2, h3, h4, h5, h6]
  rw [E]; clear E
  go_enter Tryz.func52, Tryz.ntmps52
  go_wp2_with (first | (go_at_call 29; refine (l1In_any _ _ _ _).mono ?_; rintro e w' ⟨rfl, rfl⟩) | (go_at_call 72; refine (specOk_any _ _).mono ?_; rintro e w' ⟨rfl, rfl⟩))
  go_ret
  exact ⟨rfl, (Below.refl _ _).alloc (by simp) _⟩

set_option maxHeartbeats 1000000 in
theorem implJobOk_any (i c l d t r a : Int) (w : World) :
    Calls Tryz.prog 67 #[.agg #[.int .i64 i, .int .i64 c, .int .i64 l, .int .i64 d, .int .i64 t, .int .i64 r, .int .i64 a]] w fun e w' => e = .returned (.bool (jobB i c l d t r a)) ∧ Below w.heap.size w w' := by

  rcases h0 : inB i 1 1000000 with _ | _
  · have E : jobB i c l d t r a = false := by unfold jobB; simp [h0]
    rw [E]; clear E
    go_enter Tryz.func67, Tryz.ntmps67
    go_wp2_with (first | (go_at_call 39; refine (within_any _ _ _ _).mono ?_; rintro e w' ⟨rfl, rfl⟩) | (go_at_call 81; refine (implOk_any _ _).mono ?_; rintro e w' ⟨rfl, rfl⟩))
    go_ret
    exact ⟨rfl, (Below.refl _ _).alloc (by simp) _⟩
  rcases h1 : inB c 1 1000 with _ | _
  · have E : jobB i c l d t r a = false := by unfold jobB; simp [h1]
    rw [E]; clear E
    go_enter Tryz.func67, Tryz.ntmps67
    go_wp2_with (first | (go_at_call 39; refine (within_any _ _ _ _).mono ?_; rintro e w' ⟨rfl, rfl⟩) | (go_at_call 81; refine (implOk_any _ _).mono ?_; rintro e w' ⟨rfl, rfl⟩))
    go_ret
    exact ⟨rfl, (Below.refl _ _).alloc (by simp) _⟩
  rcases h2 : inB l 1 10000 with _ | _
  · have E : jobB i c l d t r a = false := by unfold jobB; simp [h2]
    rw [E]; clear E
    go_enter Tryz.func67, Tryz.ntmps67
    go_wp2_with (first | (go_at_call 39; refine (within_any _ _ _ _).mono ?_; rintro e w' ⟨rfl, rfl⟩) | (go_at_call 81; refine (implOk_any _ _).mono ?_; rintro e w' ⟨rfl, rfl⟩))
    go_ret
    exact ⟨rfl, (Below.refl _ _).alloc (by simp) _⟩
  rcases h3 : okB d with _ | _
  · have E : jobB i c l d t r a = false := by unfold jobB; simp [h3]
    rw [E]; clear E
    go_enter Tryz.func67, Tryz.ntmps67
    go_wp2_with (first | (go_at_call 39; refine (within_any _ _ _ _).mono ?_; rintro e w' ⟨rfl, rfl⟩) | (go_at_call 81; refine (implOk_any _ _).mono ?_; rintro e w' ⟨rfl, rfl⟩))
    go_ret
    exact ⟨rfl, (Below.refl _ _).alloc (by simp) _⟩
  rcases h4 : inB t 0 1000 with _ | _
  · have E : jobB i c l d t r a = false := by unfold jobB; simp [h4]
    rw [E]; clear E
    go_enter Tryz.func67, Tryz.ntmps67
    go_wp2_with (first | (go_at_call 39; refine (within_any _ _ _ _).mono ?_; rintro e w' ⟨rfl, rfl⟩) | (go_at_call 81; refine (implOk_any _ _).mono ?_; rintro e w' ⟨rfl, rfl⟩))
    go_ret
    exact ⟨rfl, (Below.refl _ _).alloc (by simp) _⟩
  rcases h5 : inB r 0 9 with _ | _
  · have E : jobB i c l d t r a = false := by unfold jobB; simp [h5]
    rw [E]; clear E
    go_enter Tryz.func67, Tryz.ntmps67
    go_wp2_with (first | (go_at_call 39; refine (within_any _ _ _ _).mono ?_; rintro e w' ⟨rfl, rfl⟩) | (go_at_call 81; refine (implOk_any _ _).mono ?_; rintro e w' ⟨rfl, rfl⟩))
    go_ret
    exact ⟨rfl, (Below.refl _ _).alloc (by simp) _⟩
  rcases h6 : okB a with _ | _
  · have E : jobB i c l d t r a = false := by unfold jobB; simp [h6]
    rw [E]; clear E
    go_enter Tryz.func67, Tryz.ntmps67
    go_wp2_with (first | (go_at_call 39; refine (within_any _ _ _ _).mono ?_; rintro e w' ⟨rfl, rfl⟩) | (go_at_call 81; refine (implOk_any _ _).mono ?_; rintro e w' ⟨rfl, rfl⟩))
    go_ret
    exact ⟨rfl, (Below.refl _ _).alloc (by simp) _⟩
  have E : jobB i c l d t r a = true := by unfold jobB; simp [h0, h1, h2, h3, h4, h5, h6]
  rw [E]; clear E
  go_enter Tryz.func67, Tryz.ntmps67
  go_wp2_with (first | (go_at_call 39; refine (within_any _ _ _ _).mono ?_; rintro e w' ⟨rfl, rfl⟩) | (go_at_call 81; refine (implOk_any _ _).mono ?_; rintro e w' ⟨rfl, rfl⟩))
  go_ret
  exact ⟨rfl, (Below.refl _ _).alloc (by simp) _⟩

set_option maxHeartbeats 1000000 in
theorem specAhead_any (i c l d t r a i' c' l' d' t' r' a' : Int) (w : World) :
    Calls Tryz.prog 54 #[.agg #[.int .i64 i, .int .i64 c, .int .i64 l, .int .i64 d, .int .i64 t, .int .i64 r, .int .i64 a], .agg #[.int .i64 i', .int .i64 c', .int .i64 l', .int .i64 d', .int .i64 t', .int .i64 r', .int .i64 a']] w fun e w' => e = .returned (.bool (aheadB i r a i' r' a')) ∧ Below w.heap.size w w' := by
  unfold aheadB
  by_cases c1 : r = r'
  · subst c1
    rw [if_neg (by simp)]
    by_cases c2 : a = a'
    · subst c2
      rw [if_neg (by simp)]
      go_enter Tryz.func54, Tryz.ntmps54
      go_wp2
      go_ret
      exact ⟨rfl, ((Below.refl _ _).alloc (by simp) _).alloc (by simp) _⟩
    · rw [if_pos c2]
      have c2' : (a != a') = true := by simpa using c2
      clear c2
      go_enter Tryz.func54, Tryz.ntmps54
      go_wp2
      go_ret
      exact ⟨rfl, ((Below.refl _ _).alloc (by simp) _).alloc (by simp) _⟩
  · rw [if_pos c1]
    have c1' : (r != r') = true := by simpa using c1
    clear c1
    go_enter Tryz.func54, Tryz.ntmps54
    go_wp2
    go_ret
    exact ⟨rfl, ((Below.refl _ _).alloc (by simp) _).alloc (by simp) _⟩

end Go.Proofs.YtdgfkcobhhlfbaaGreat

/- cmp.Compare and cmp.Or over numbers; worlds that have only grown. -/
namespace Go.Proofs.YtdgfkcobhhlfbaaGreat
open Go.RowKit Go.Sort

def cmpI (a b : Int) : Int := if a < b then -1 else if b < a then 1 else 0
def or3 (x y z : Int) : Int := if x ≠ 0 then x else if y ≠ 0 then y else z

theorem cmpI_bd (a b : Int) : -1 ≤ cmpI a b ∧ cmpI a b ≤ 1 := by unfold cmpI; split <;> (try split) <;> omega

theorem isNaN_any (x : Int) (w : World) :
    Calls Tryz.prog 82 #[.int .i64 x] w fun e w' => e = .returned (.bool false) ∧ w' = w := by
  go_enter Tryz.func82, Tryz.ntmps82
  go_wp2
  go_ret
  exact ⟨rfl, rfl⟩

theorem compare_any (a b : Int) (w : World) :
    Calls Tryz.prog 69 #[.int .i64 a, .int .i64 b] w fun e w' => e = .returned (.int .i64 (cmpI a b)) ∧ w' = w := by
  unfold cmpI
  by_cases c1 : a < b
  · rw [if_pos c1]
    go_enter Tryz.func69, Tryz.ntmps69
    go_wp2_with (go_at_call 82; refine (isNaN_any _ _).mono ?_; rintro e w' ⟨rfl, rfl⟩)
    go_ret
    exact ⟨rfl, rfl⟩
  · rw [if_neg c1]
    by_cases c2 : b < a
    · rw [if_pos c2]
      go_enter Tryz.func69, Tryz.ntmps69
      go_wp2_with (go_at_call 82; refine (isNaN_any _ _).mono ?_; rintro e w' ⟨rfl, rfl⟩)
      go_ret
      exact ⟨rfl, rfl⟩
    · rw [if_neg c2]
      go_enter Tryz.func69, Tryz.ntmps69
      go_wp2_with (go_at_call 82; refine (isNaN_any _ _).mono ?_; rintro e w' ⟨rfl, rfl⟩)
      go_ret
      exact ⟨rfl, rfl⟩

theorem or_any (B : Nat) (x y z : Int) (w : World) (h0 : w.cell? ⟨B, 0, none⟩ = some (.int .i64 x)) (h1 : w.cell? ⟨B, 1, none⟩ = some (.int .i64 y)) (h2 : w.cell? ⟨B, 2, none⟩ = some (.int .i64 z)) :
    Calls Tryz.prog 68 #[.slice (some ⟨B, 0, none⟩) 3 3] w fun e w' => e = .returned (.int .i64 (or3 x y z)) ∧ w' = w := by
  unfold or3
  by_cases c0 : x = 0
  · have d0 : (x != 0) = false := by simpa using c0
    rw [if_neg (by simpa using c0)]
    by_cases c1 : y = 0
    · have d1 : (y != 0) = false := by simpa using c1
      rw [if_neg (by simpa using c1)]
      clear c0 c1
      by_cases c2 : z = 0
      · have d2 : (z != 0) = false := by simpa using c2
        have HZ : Hid (z = 0) := c2
        clear c2
        go_enter Tryz.func68, Tryz.ntmps68
        go_wp2
        refine wp_loop_rounds 4 ?_
        rw [rounds_succ]
        go_wp2
        rw [rounds_succ]
        go_wp2
        rw [rounds_succ]
        go_wp2
        rw [rounds_succ]
        go_wp2
        go_ret
        exact ⟨by rw [HZ.out]; rfl, rfl⟩
      · have d2 : (z != 0) = true := by simpa using c2
        clear c2
        go_enter Tryz.func68, Tryz.ntmps68
        go_wp2
        refine wp_loop_rounds 4 ?_
        rw [rounds_succ]
        go_wp2
        rw [rounds_succ]
        go_wp2
        rw [rounds_succ]
        go_wp2
        go_ret
        exact ⟨rfl, rfl⟩
    · have d1 : (y != 0) = true := by simpa using c1
      rw [if_pos (by simpa using c1)]
      clear c0 c1
      go_enter Tryz.func68, Tryz.ntmps68
      go_wp2
      refine wp_loop_rounds 4 ?_
      rw [rounds_succ]
      go_wp2
      rw [rounds_succ]
      go_wp2
      go_ret
      exact ⟨rfl, rfl⟩
  · have d0 : (x != 0) = true := by simpa using c0
    rw [if_pos (by simpa using c0)]
    clear c0
    go_enter Tryz.func68, Tryz.ntmps68
    go_wp2
    refine wp_loop_rounds 4 ?_
    rw [rounds_succ]
    go_wp2
    go_ret
    exact ⟨rfl, rfl⟩

theorem new1_0 (W : World) (x y z : Value) (T : TypeId) : ((W.alloc (.cells #[x, y, z] T)).drew).cell? ⟨W.heap.size, 0, none⟩ = some x := by
  show (W.alloc (.cells #[x, y, z] T)).cell? _ = _
  rw [Joins.cell_alloc_mark_at _ _ _ _ _ _ rfl]; rfl

theorem new1_1 (W : World) (x y z : Value) (T : TypeId) : ((W.alloc (.cells #[x, y, z] T)).drew).cell? ⟨W.heap.size, 1, none⟩ = some y := by
  show (W.alloc (.cells #[x, y, z] T)).cell? _ = _
  rw [Joins.cell_alloc_mark_at _ _ _ _ _ _ rfl]; rfl

theorem new1_2 (W : World) (x y z : Value) (T : TypeId) : ((W.alloc (.cells #[x, y, z] T)).drew).cell? ⟨W.heap.size, 2, none⟩ = some z := by
  show (W.alloc (.cells #[x, y, z] T)).cell? _ = _
  rw [Joins.cell_alloc_mark_at _ _ _ _ _ _ rfl]; rfl

theorem cmpI_zero {a b : Int} : cmpI a b = 0 ↔ a = b := by unfold cmpI; split <;> (try split) <;> omega
theorem cmpI_neg {a b : Int} : cmpI a b < 0 ↔ a < b := by unfold cmpI; split <;> (try split) <;> omega

theorem below_grow (w : World) (q : Nat) (os : Array Obj) : Below w.heap.size w (grow (w.drewN q) os) :=
  ⟨rfl, rfl, rfl, by simp, fun k hk => by rw [heap_grow_old _ _ (by simpa using hk)]; rfl⟩

def or2 (x y : Int) : Int := if x ≠ 0 then x else y

theorem or2_lt (a b c d : Int) : decide (or2 (cmpI a b) (cmpI c d) < 0) = decide (a < b ∨ (a = b ∧ c < d)) := by
  apply decide_eq_decide.2
  unfold or2
  by_cases h : a = b
  · rw [if_neg (fun h1 => h1 (cmpI_zero.2 h)), cmpI_neg]
    constructor
    · exact fun h1 => Or.inr ⟨h, h1⟩
    · intro h1; omega
  · rw [if_pos (fun h1 => h (cmpI_zero.1 h1)), cmpI_neg]
    constructor
    · exact fun h1 => Or.inl h1
    · intro h1; omega

/-- so many draws, some blocks laid behind -/
def GrS (w W : World) : Prop := ∃ q os, W = grow (w.drewN q) os
theorem GrS.refl (w : World) : GrS w w := ⟨0, #[], by rw [grow_empty]; rfl⟩
theorem GrS.grow {w W : World} (h : GrS w W) (q : Nat) (os' : Array Obj) : GrS w (Sort.grow (W.drewN q) os') := by
  obtain ⟨q0, os, rfl⟩ := h
  exact ⟨q0 + q, os ++ os', by show Sort.grow (Sort.grow ((w.drewN q0).drewN q) os) os' = _; rw [grow_grow, World.drewN_drewN]⟩
theorem GrS.drew {w W : World} (h : GrS w W) : GrS w W.drew := by
  have := h.grow 1 #[]
  rwa [grow_empty] at this
theorem GrS.alloc {w W : World} (h : GrS w W) (o : Obj) : GrS w (W.alloc o) := by
  have := h.grow 0 #[o]
  rw [alloc_eq_grow]; exact this
theorem GrS.trans {a b c : World} (h : GrS a b) (k : GrS b c) : GrS a c := by
  obtain ⟨q, os, rfl⟩ := k
  exact h.grow q os
theorem GrS.below {w W : World} (h : GrS w W) : Below w.heap.size w W := by
  obtain ⟨q, os, rfl⟩ := h
  exact below_grow w q os
theorem GrS.cell {w W : World} (h : GrS w W) {a : Addr} (ha : a.block < w.heap.size) : W.cell? a = w.cell? a := h.below.cell ha

theorem or2_any (B : Nat) (x y : Int) (w : World) (h0 : w.cell? ⟨B, 0, none⟩ = some (.int .i64 x)) (h1 : w.cell? ⟨B, 1, none⟩ = some (.int .i64 y)) :
    Calls Tryz.prog 68 #[.slice (some ⟨B, 0, none⟩) 2 2] w fun e w' => e = .returned (.int .i64 (or2 x y)) ∧ w' = w := by
  unfold or2
  by_cases c0 : x = 0
  · have d0 : (x != 0) = false := by simpa using c0
    rw [if_neg (by simpa using c0)]
    clear c0
    by_cases c1 : y = 0
    · have d1 : (y != 0) = false := by simpa using c1
      have HZ : Hid (y = 0) := c1
      clear c1
      go_enter Tryz.func68, Tryz.ntmps68
      go_wp2
      refine wp_loop_rounds 3 ?_
      rw [rounds_succ]
      go_wp2
      rw [rounds_succ]
      go_wp2
      rw [rounds_succ]
      go_wp2
      go_ret
      exact ⟨by rw [HZ.out]; rfl, rfl⟩
    · have d1 : (y != 0) = true := by simpa using c1
      clear c1
      go_enter Tryz.func68, Tryz.ntmps68
      go_wp2
      refine wp_loop_rounds 3 ?_
      rw [rounds_succ]
      go_wp2
      rw [rounds_succ]
      go_wp2
      go_ret
      exact ⟨rfl, rfl⟩
  · have d0 : (x != 0) = true := by simpa using c0
    rw [if_pos (by simpa using c0)]
    clear c0
    go_enter Tryz.func68, Tryz.ntmps68
    go_wp2
    refine wp_loop_rounds 3 ?_
    rw [rounds_succ]
    go_wp2
    go_ret
    exact ⟨rfl, rfl⟩

theorem new2_0 (W : World) (x y : Value) (T : TypeId) : (W.alloc (.cells #[x, y] T)).cell? ⟨W.heap.size, 0, none⟩ = some x := by
  rw [Joins.cell_alloc_mark_at _ _ _ _ _ _ rfl]; rfl
theorem new2_1 (W : World) (x y : Value) (T : TypeId) : (W.alloc (.cells #[x, y] T)).cell? ⟨W.heap.size, 1, none⟩ = some y := by
  rw [Joins.cell_alloc_mark_at _ _ _ _ _ _ rfl]; rfl

end Go.Proofs.YtdgfkcobhhlfbaaGreat

/- The order of a queue: cmp.Compare, cmp.Or, inQueue; Ahead of the program. -/
namespace Go.Proofs.YtdgfkcobhhlfbaaGreat
open Go.RowKit Go.Sort

/-- what inQueue tells -/
def inQ (i r a i' r' a' : Int) : Int := or3 (cmpI r' r) (cmpI a a') (cmpI i i')

set_option maxRecDepth 8000 in
set_option maxHeartbeats 4000000 in
theorem inQueue_any (i c l d t r a i' c' l' d' t' r' a' : Int) (w : World) :
    Calls Tryz.prog 46 #[.agg #[.int .i64 i, .int .i64 c, .int .i64 l, .int .i64 d, .int .i64 t, .int .i64 r, .int .i64 a], .agg #[.int .i64 i', .int .i64 c', .int .i64 l', .int .i64 d', .int .i64 t', .int .i64 r', .int .i64 a']] w fun e w' => e = .returned (.int .i64 (inQ i r a i' r' a')) ∧ ∃ q os', w' = grow (w.drewN q) os' := by
  unfold inQ
  go_enter Tryz.func46, Tryz.ntmps46
  go_wp2
  have k0 : ((w.alloc (.cells #[.int .i64 i, .int .i64 c, .int .i64 l, .int .i64 d, .int .i64 t, .int .i64 r, .int .i64 a] 49)).alloc (.cells #[.int .i64 i', .int .i64 c', .int .i64 l', .int .i64 d', .int .i64 t', .int .i64 r', .int .i64 a'] 49)).cell? ⟨w.heap.size, 0, none⟩ = some (.int .i64 i) := by simp
  have k1 : ((w.alloc (.cells #[.int .i64 i, .int .i64 c, .int .i64 l, .int .i64 d, .int .i64 t, .int .i64 r, .int .i64 a] 49)).alloc (.cells #[.int .i64 i', .int .i64 c', .int .i64 l', .int .i64 d', .int .i64 t', .int .i64 r', .int .i64 a'] 49)).cell? ⟨w.heap.size, 5, none⟩ = some (.int .i64 r) := by simp
  have k2 : ((w.alloc (.cells #[.int .i64 i, .int .i64 c, .int .i64 l, .int .i64 d, .int .i64 t, .int .i64 r, .int .i64 a] 49)).alloc (.cells #[.int .i64 i', .int .i64 c', .int .i64 l', .int .i64 d', .int .i64 t', .int .i64 r', .int .i64 a'] 49)).cell? ⟨w.heap.size, 6, none⟩ = some (.int .i64 a) := by simp
  have k3 : ((w.alloc (.cells #[.int .i64 i, .int .i64 c, .int .i64 l, .int .i64 d, .int .i64 t, .int .i64 r, .int .i64 a] 49)).alloc (.cells #[.int .i64 i', .int .i64 c', .int .i64 l', .int .i64 d', .int .i64 t', .int .i64 r', .int .i64 a'] 49)).cell? ⟨w.heap.size + 1, 0, none⟩ = some (.int .i64 i') := by simp
  have k4 : ((w.alloc (.cells #[.int .i64 i, .int .i64 c, .int .i64 l, .int .i64 d, .int .i64 t, .int .i64 r, .int .i64 a] 49)).alloc (.cells #[.int .i64 i', .int .i64 c', .int .i64 l', .int .i64 d', .int .i64 t', .int .i64 r', .int .i64 a'] 49)).cell? ⟨w.heap.size + 1, 5, none⟩ = some (.int .i64 r') := by simp
  have k5 : ((w.alloc (.cells #[.int .i64 i, .int .i64 c, .int .i64 l, .int .i64 d, .int .i64 t, .int .i64 r, .int .i64 a] 49)).alloc (.cells #[.int .i64 i', .int .i64 c', .int .i64 l', .int .i64 d', .int .i64 t', .int .i64 r', .int .i64 a'] 49)).cell? ⟨w.heap.size + 1, 6, none⟩ = some (.int .i64 a') := by simp
  have HW : Hid ((w.alloc (.cells #[.int .i64 i, .int .i64 c, .int .i64 l, .int .i64 d, .int .i64 t, .int .i64 r, .int .i64 a] 49)).alloc (.cells #[.int .i64 i', .int .i64 c', .int .i64 l', .int .i64 d', .int .i64 t', .int .i64 r', .int .i64 a'] 49) = grow w #[(.cells #[.int .i64 i, .int .i64 c, .int .i64 l, .int .i64 d, .int .i64 t, .int .i64 r, .int .i64 a] 49), (.cells #[.int .i64 i', .int .i64 c', .int .i64 l', .int .i64 d', .int .i64 t', .int .i64 r', .int .i64 a'] 49)]) := by unfold Hid; rw [alloc_eq_grow, alloc_eq_grow, grow_grow]; rfl
  generalize (w.alloc (.cells #[.int .i64 i, .int .i64 c, .int .i64 l, .int .i64 d, .int .i64 t, .int .i64 r, .int .i64 a] 49)).alloc (.cells #[.int .i64 i', .int .i64 c', .int .i64 l', .int .i64 d', .int .i64 t', .int .i64 r', .int .i64 a'] 49) = W at k0 k1 k2 k3 k4 k5 HW ⊢
  refine wp_region_still_tail 15 (by kernel_rfl) (by kernel_rfl) ?_
  simp only [List.take_succ_cons, List.take_zero, List.drop_succ_cons, List.drop_zero]
  change wpStill _ _ W.drew (fun a' => wpList _ _ _ _ a' W.drew) _ _
  repeat still_step
  still_call (compare_any _ _ _)
  repeat still_step
  still_call (compare_any _ _ _)
  repeat still_step
  still_call (compare_any _ _ _)
  refine wpStill_nil ?_
  go_wp2_with (go_at_call 68; refine Calls.mono (or_any W.heap.size (cmpI r' r) (cmpI a a') (cmpI i i') _ (new1_0 _ _ _ _ _) (new1_1 _ _ _ _ _) (new1_2 _ _ _ _ _)) ?_; rintro e w' ⟨rfl, rfl⟩)
  go_ret
  refine ⟨rfl, ?_⟩
  rw [HW.out, alloc_eq_grow, grow_grow]
  exact ⟨1, _, rfl⟩

theorem inQ_ahead (i r a i' r' a' : Int) : decide (inQ i r a i' r' a' < 0) = aheadB i r a i' r' a' := by
  unfold inQ or3 aheadB
  by_cases c1 : r = r'
  · have e : ¬ (cmpI r' r ≠ 0) := fun h => h (cmpI_zero.2 c1.symm)
    have d : ¬ (r ≠ r') := fun h => h c1
    rw [if_neg e, if_neg d]
    by_cases c2 : a = a'
    · have e : ¬ (cmpI a a' ≠ 0) := fun h => h (cmpI_zero.2 c2)
      have d : ¬ (a ≠ a') := fun h => h c2
      rw [if_neg e, if_neg d]
      exact decide_eq_decide.2 cmpI_neg
    · have e : cmpI a a' ≠ 0 := fun h => c2 (cmpI_zero.1 h)
      rw [if_pos e, if_pos c2]
      exact decide_eq_decide.2 cmpI_neg
  · have e : cmpI r' r ≠ 0 := fun h => c1 (cmpI_zero.1 h).symm
    rw [if_pos e, if_pos c1]
    exact decide_eq_decide.2 cmpI_neg

end Go.Proofs.YtdgfkcobhhlfbaaGreat

/- toJob and Ahead, told by what they lay. -/
namespace Go.Proofs.YtdgfkcobhhlfbaaGreat
open Go.RowKit Go.Sort

theorem toJob_grow (i c l d t r a : Int) (w : World) :
    Calls Tryz.prog 55 #[.agg #[.int .i64 i, .int .i64 c, .int .i64 l, .int .i64 d, .int .i64 t, .int .i64 r, .int .i64 a]] w fun e w' => e = .returned (.agg #[.int .i64 i, .int .i64 c, .int .i64 l, .int .i64 d, .int .i64 t, .int .i64 r, .int .i64 a]) ∧ ∃ q os', w' = grow (w.drewN q) os' := by
  go_enter Tryz.func55, Tryz.ntmps55
  go_wp2
  exact bodyPost_ret (v := .agg #[.int .i64 i, .int .i64 c, .int .i64 l, .int .i64 d, .int .i64 t, .int .i64 r, .int .i64 a]) (by simp [results, Tryz.results55, go_sem]) rfl ⟨rfl, by rw [alloc_eq_grow, alloc_eq_grow, alloc_eq_grow, grow_grow, grow_grow]; exact ⟨0, _, rfl⟩⟩

set_option maxHeartbeats 1000000 in
theorem specAhead_grow (i c l d t r a i' c' l' d' t' r' a' : Int) (w : World) :
    Calls Tryz.prog 54 #[.agg #[.int .i64 i, .int .i64 c, .int .i64 l, .int .i64 d, .int .i64 t, .int .i64 r, .int .i64 a], .agg #[.int .i64 i', .int .i64 c', .int .i64 l', .int .i64 d', .int .i64 t', .int .i64 r', .int .i64 a']] w fun e w' => e = .returned (.bool (aheadB i r a i' r' a')) ∧ ∃ q os', w' = grow (w.drewN q) os' := by
  have hw : ∀ A B, ∃ q os', (w.alloc A).alloc B = grow (w.drewN q) os' := fun A B => by rw [alloc_eq_grow, alloc_eq_grow, grow_grow]; exact ⟨0, _, rfl⟩
  unfold aheadB
  by_cases c1 : r = r'
  · subst c1
    rw [if_neg (by simp)]
    by_cases c2 : a = a'
    · subst c2
      rw [if_neg (by simp)]
      go_enter Tryz.func54, Tryz.ntmps54
      go_wp2
      go_ret
      exact ⟨rfl, hw _ _⟩
    · rw [if_pos c2]
      have c2' : (a != a') = true := by simpa using c2
      clear c2
      go_enter Tryz.func54, Tryz.ntmps54
      go_wp2
      go_ret
      exact ⟨rfl, hw _ _⟩
  · rw [if_pos c1]
    have c1' : (r != r') = true := by simpa using c1
    clear c1
    go_enter Tryz.func54, Tryz.ntmps54
    go_wp2
    go_ret
    exact ⟨rfl, hw _ _⟩

end Go.Proofs.YtdgfkcobhhlfbaaGreat

/- JobsOk, of the model and of the program; numberOf. -/
namespace Go.Proofs.YtdgfkcobhhlfbaaGreat
open Go.RowKit Go.Sort

def jok (j : Jb) : Bool := jobB j.id j.cores j.long j.due j.wt j.rank j.at_
/-- the first k jobs are right, no two with one id -/
def jokTo (ls : List Jb) (k : Nat) : Prop := ∀ i, i < k → jok (jg ls i) = true ∧ ∀ h, h < i → (jg ls h).id ≠ (jg ls i).id
/-- right jobs -/
structure JsOk (ls : List Jb) : Prop where
  n : ls.length ≤ 40
  ok : jokTo ls ls.length
noncomputable def jsB (ls : List Jb) : Bool := @decide (JsOk ls) (Classical.propDecidable _)
theorem jsB_t {ls : List Jb} (h : jsB ls = true) : JsOk ls := @of_decide_eq_true _ (Classical.propDecidable _) h
theorem jsB_f {ls : List Jb} (h : jsB ls = false) : ¬ JsOk ls := @of_decide_eq_false _ (Classical.propDecidable _) h
theorem jsB_mk {ls : List Jb} (h : JsOk ls) : jsB ls = true := @decide_eq_true _ (Classical.propDecidable _) h
theorem jsB_no {ls : List Jb} (h : ¬ JsOk ls) : jsB ls = false := @decide_eq_false _ (Classical.propDecidable _) h

theorem jokTo_succ {ls : List Jb} {k : Nat} (h : jokTo ls k) (g : jok (jg ls k) = true) (d : ∀ h, h < k → (jg ls h).id ≠ (jg ls k).id) : jokTo ls (k + 1) := by
  intro i hi
  by_cases e : i = k
  · subst e; exact ⟨g, d⟩
  · exact h i (by omega)

/-- r is where the first of the first n jobs with this id stands, -1 where there is none -/
def IsNum (ls : List Jb) (n : Nat) (id r : Int) : Prop :=
  (r = -1 ∧ ∀ i, i < n → (jg ls i).id ≠ id) ∨ ∃ k : Nat, r = k ∧ k < n ∧ (jg ls k).id = id ∧ ∀ i, i < k → (jg ls i).id ≠ id

theorem IsNum.uniq {ls : List Jb} {n : Nat} {id r s : Int} (h : IsNum ls n id r) (g : IsNum ls n id s) : r = s := by
  rcases h with ⟨rfl, h1⟩ | ⟨k, rfl, h1, h2, h3⟩
  · rcases g with ⟨rfl, _⟩ | ⟨m, rfl, g1, g2, _⟩
    · rfl
    · exact absurd g2 (h1 m g1)
  · rcases g with ⟨rfl, g1⟩ | ⟨m, rfl, g1, g2, g3⟩
    · exact absurd h2 (g1 k h1)
    · have e : k = m := by
        rcases Nat.lt_trichotomy k m with h | h | h
        · exact absurd h2 (g3 k h)
        · exact h
        · exact absurd g2 (h3 m h)
      rw [e]

theorem JobS.pre {w : World} {a : Option Addr} {n cap : Nat} {ls : List Jb} (h : JobS w a n cap ls) {m : Nat} (hm : m ≤ n) : JobS w a m cap (ls.take m) := by
  have hl := h.len
  have e : ∀ i, i < m → jg (ls.take m) i = jg ls i := fun i hi => by simp [jg, hi]
  refine ⟨by simp; omega, Nat.le_trans hm h.le, h.mx, h.nil, fun i hi => by rw [e i hi]; exact h.wf i (by omega), fun h0 => ?_⟩
  obtain ⟨b, off, ha, hb, hat⟩ := h.at_ (by omega)
  refine ⟨b, off, ha, hb, fun i hi c hc => ?_⟩
  have hi' : i < m := by have : (ls.take m).length = m := by simp; omega
                         omega
  rw [e i hi']
  exact hat i (by omega) c hc

set_option maxHeartbeats 1000000 in
theorem implJobOk_grow (i c l d t r a : Int) (w : World) :
    Calls Tryz.prog 67 #[.agg #[.int .i64 i, .int .i64 c, .int .i64 l, .int .i64 d, .int .i64 t, .int .i64 r, .int .i64 a]] w fun e w' => e = .returned (.bool (jobB i c l d t r a)) ∧ ∃ q os', w' = grow (w.drewN q) os' := by
  have hw : ∀ o, ∃ q os', w.alloc o = grow (w.drewN q) os' := fun o => by rw [alloc_eq_grow]; exact ⟨0, _, rfl⟩
  rcases h0 : inB i 1 1000000 with _ | _
  · have E : jobB i c l d t r a = false := by unfold jobB; simp [h0]
    rw [E]; clear E
    go_enter Tryz.func67, Tryz.ntmps67
    go_wp2_with (first | (go_at_call 39; refine (within_any _ _ _ _).mono ?_; rintro e w' ⟨rfl, rfl⟩) | (go_at_call 81; refine (implOk_any _ _).mono ?_; rintro e w' ⟨rfl, rfl⟩))
    go_ret
    exact ⟨rfl, hw _⟩
  rcases h1 : inB c 1 1000 with _ | _
  · have E : jobB i c l d t r a = false := by unfold jobB; simp [h1]
    rw [E]; clear E
    go_enter Tryz.func67, Tryz.ntmps67
    go_wp2_with (first | (go_at_call 39; refine (within_any _ _ _ _).mono ?_; rintro e w' ⟨rfl, rfl⟩) | (go_at_call 81; refine (implOk_any _ _).mono ?_; rintro e w' ⟨rfl, rfl⟩))
    go_ret
    exact ⟨rfl, hw _⟩
  rcases h2 : inB l 1 10000 with _ | _
  · have E : jobB i c l d t r a = false := by unfold jobB; simp [h2]
    rw [E]; clear E
    go_enter Tryz.func67, Tryz.ntmps67
    go_wp2_with (first | (go_at_call 39; refine (within_any _ _ _ _).mono ?_; rintro e w' ⟨rfl, rfl⟩) | (go_at_call 81; refine (implOk_any _ _).mono ?_; rintro e w' ⟨rfl, rfl⟩))
    go_ret
    exact ⟨rfl, hw _⟩
  rcases h3 : okB d with _ | _
  · have E : jobB i c l d t r a = false := by unfold jobB; simp [h3]
    rw [E]; clear E
    go_enter Tryz.func67, Tryz.ntmps67
    go_wp2_with (first | (go_at_call 39; refine (within_any _ _ _ _).mono ?_; rintro e w' ⟨rfl, rfl⟩) | (go_at_call 81; refine (implOk_any _ _).mono ?_; rintro e w' ⟨rfl, rfl⟩))
    go_ret
    exact ⟨rfl, hw _⟩
  rcases h4 : inB t 0 1000 with _ | _
  · have E : jobB i c l d t r a = false := by unfold jobB; simp [h4]
    rw [E]; clear E
    go_enter Tryz.func67, Tryz.ntmps67
    go_wp2_with (first | (go_at_call 39; refine (within_any _ _ _ _).mono ?_; rintro e w' ⟨rfl, rfl⟩) | (go_at_call 81; refine (implOk_any _ _).mono ?_; rintro e w' ⟨rfl, rfl⟩))
    go_ret
    exact ⟨rfl, hw _⟩
  rcases h5 : inB r 0 9 with _ | _
  · have E : jobB i c l d t r a = false := by unfold jobB; simp [h5]
    rw [E]; clear E
    go_enter Tryz.func67, Tryz.ntmps67
    go_wp2_with (first | (go_at_call 39; refine (within_any _ _ _ _).mono ?_; rintro e w' ⟨rfl, rfl⟩) | (go_at_call 81; refine (implOk_any _ _).mono ?_; rintro e w' ⟨rfl, rfl⟩))
    go_ret
    exact ⟨rfl, hw _⟩
  rcases h6 : okB a with _ | _
  · have E : jobB i c l d t r a = false := by unfold jobB; simp [h6]
    rw [E]; clear E
    go_enter Tryz.func67, Tryz.ntmps67
    go_wp2_with (first | (go_at_call 39; refine (within_any _ _ _ _).mono ?_; rintro e w' ⟨rfl, rfl⟩) | (go_at_call 81; refine (implOk_any _ _).mono ?_; rintro e w' ⟨rfl, rfl⟩))
    go_ret
    exact ⟨rfl, hw _⟩
  have E : jobB i c l d t r a = true := by unfold jobB; simp [h0, h1, h2, h3, h4, h5, h6]
  rw [E]; clear E
  go_enter Tryz.func67, Tryz.ntmps67
  go_wp2_with (first | (go_at_call 39; refine (within_any _ _ _ _).mono ?_; rintro e w' ⟨rfl, rfl⟩) | (go_at_call 81; refine (implOk_any _ _).mono ?_; rintro e w' ⟨rfl, rfl⟩))
  go_ret
  exact ⟨rfl, hw _⟩

end Go.Proofs.YtdgfkcobhhlfbaaGreat

/- JobsOk, of the model and of the program. -/
namespace Go.Proofs.YtdgfkcobhhlfbaaGreat
open Go.RowKit Go.Sort

theorem js_no_ok {ls : List Jb} {k : Nat} (hk : k < ls.length) (h : jok (jg ls k) = false) : jsB ls = false := jsB_no fun p => by
  have := (p.ok k hk).1; rw [h] at this; cases this
theorem js_no_id {ls : List Jb} {k m : Nat} (hk : k < ls.length) (hm : m < k) (h : (jg ls m).id = (jg ls k).id) : jsB ls = false := jsB_no fun p => (p.ok k hk).2 m hm h

theorem ok_job (x : Jb) (w : World) :
    Calls Tryz.prog 67 #[.agg #[.int .i64 x.id, .int .i64 x.cores, .int .i64 x.long, .int .i64 x.due, .int .i64 x.wt, .int .i64 x.rank, .int .i64 x.at_]] w fun e w' => e = .returned (.bool (jok x)) ∧ ∃ q os', w' = grow (w.drewN q) os' := implJobOk_grow _ _ _ _ _ _ _ w

set_option maxHeartbeats 1000000 in
theorem specJobsOk_any (a : Option Addr) (n cap : Nat) (ls : List Jb) (w : World) (h : JobS w a n cap ls) :
    Calls Tryz.prog 31 #[.slice a n cap] w fun e w' => e = .returned (.bool (jsB ls)) ∧ Below w.heap.size w w' := by
  have hm := h.mx
  have hle := h.le
  have hlen := h.len
  unfold maxLen at hm
  by_cases c1 : 40 < n
  · rw [jsB_no fun p => by have := p.n; omega]
    go_enter Tryz.func31, Tryz.ntmps31
    go_wp2
    go_ret
    exact ⟨rfl, Below.refl _ _⟩
  · go_enter Tryz.func31, Tryz.ntmps31
    go_wp2
    go_loopw [3] (fun i wr => ∃ k : Nat, k ≤ n ∧ i = .int .i64 k ∧ jokTo ls k ∧ Below w.heap.size w wr) (fun i _ => n - (intOf i).toNat)
    case atStart => exact ⟨0, by omega, rfl, fun i hi => by omega, Below.refl _ _⟩
    case round =>
      obtain ⟨k, hk, rfl, hok, hw⟩ := hrel
      by_cases hlt : k < n
      · obtain ⟨b, off, rfl, hbw, hat⟩ := h.at_ (by omega)
        obtain ⟨hc0, hc1, hc2, hc3, hc4, hc5, hc6⟩ := (hat.below hw hbw).job (i := k) (by omega)
        have hlt' : (k : Int) < (n : Int) := by omega
        rcases hj : jok (jg ls k) with _ | _
        · have E := js_no_ok (by omega) hj
          unfold jok at hj
          go_wp2_with (go_at_call 52; refine (specJobOk_any _ _ _ _ _ _ _ _).mono ?_; rw [hj]; rintro e w1 ⟨rfl, hb1⟩)
          go_ret
          exact ⟨by rw [E]; rfl, hw.then hb1 hw.size⟩
        · have HJ : Hid (jok (jg ls k) = true) := hj
          unfold jok at hj
          go_wp2_with (go_at_call 52; refine (specJobOk_any _ _ _ _ _ _ _ _).mono ?_; rw [hj]; rintro e w1 ⟨rfl, hb1⟩)
          have hw1 := hw.then hb1 hw.size
          clear hj hc0 hc1 hc2 hc3 hc4 hc5 hc6
          go_loopw [4] (fun i wr => ∃ m : Nat, m ≤ k ∧ i = .int .i64 m ∧ (∀ x, x < m → (jg ls x).id ≠ (jg ls k).id) ∧ Below w.heap.size w wr) (fun i _ => k - (intOf i).toNat)
          case atStart => exact ⟨0, by omega, rfl, fun i hi => by omega, hw1⟩
          case round =>
            obtain ⟨m, hmk, rfl, hno, hwi⟩ := hrel
            by_cases hmt : m < k
            · have hm0 := (hat.below hwi hbw) m (by omega) 0 (by omega)
              have hk0 := (hat.below hwi hbw) k (by omega) 0 (by omega)
              simp only [jc, Nat.add_zero] at hm0 hk0
              have hmt' : (m : Int) < (k : Int) := by omega
              have hmn' : (m : Int) < (n : Int) := by omega
              by_cases hc : (jg ls m).id = (jg ls k).id
              · have E := js_no_id (by omega) hmt hc
                have hc' : ((jg ls m).id == (jg ls k).id) = true := by simpa using hc
                clear hc
                go_wp2
                go_quiet (fail)
                go_wp2
                go_ret
                exact ⟨by rw [E]; rfl, hwi.drewN _⟩
              · have hc' : ((jg ls m).id == (jg ls k).id) = false := by simpa using hc
                go_wp2
                go_quiet (fail)
                go_wp2
                go_roundw
                case rel => exact ⟨m + 1, by omega, by go_num, fun x hx => by (by_cases e : x = m; (subst e; exact hc); exact hno x (by omega)), hwi.drewN _⟩
                case measure => simp [intOf]; omega
            · have e : m = k := by omega
              subst e
              go_wp2
              go_roundw
              case rel => exact ⟨m + 1, by omega, by go_num, jokTo_succ hok HJ.out hno, hwi⟩
              case measure => simp [intOf]; omega
      · have e : k = n := by omega
        subst e
        go_wp2
        go_ret
        exact ⟨by rw [jsB_mk ⟨by omega, by rw [hlen]; exact hok⟩]; rfl, hw⟩

end Go.Proofs.YtdgfkcobhhlfbaaGreat

/- At most forty, each right, no two with one Id: the program's look at them, a function of any type, by a closure; at jobs. -/
namespace Go.Proofs.YtdgfkcobhhlfbaaGreat
open Go.RowKit Go.Sort

/-- is there one with this id among the first n? -/
def jhas (ls : List Jb) (n : Nat) (id : Int) : Bool := (List.range n).any fun i => cmpI id (jg ls i).id == 0
theorem jhas_t {ls : List Jb} {n : Nat} {id : Int} (h : jhas ls n id = true) : ∃ i, i < n ∧ (jg ls i).id = id := by
  obtain ⟨i, hi, h1⟩ := List.any_eq_true.1 h
  exact ⟨i, by simpa using hi, (cmpI_zero.1 (by simpa using h1)).symm⟩
theorem jhas_f {ls : List Jb} {n : Nat} {id : Int} (h : jhas ls n id = false) : ∀ i, i < n → (jg ls i).id ≠ id := by
  intro i hi e
  have := List.any_eq_false.1 h i (by simpa using hi)
  exact this (by simpa using cmpI_zero.2 e.symm)
theorem jhas_mk {ls : List Jb} {n i : Nat} {id : Int} (hi : i < n) (e : (jg ls i).id = id) : jhas ls n id = true :=
  List.any_eq_true.2 ⟨i, by simpa using hi, by simpa using cmpI_zero.2 e.symm⟩
theorem jhas_no {ls : List Jb} {n : Nat} {id : Int} (h : ∀ i, i < n → (jg ls i).id ≠ id) : jhas ls n id = false := by
  rw [Bool.eq_false_iff]; intro h1
  obtain ⟨i, hi, h2⟩ := jhas_t h1
  exact h i hi h2
theorem jhas_pre {ls : List Jb} {k : Nat} {id : Int} : jhas (ls.take k) k id = jhas ls k id := by
  have e : ∀ i, i < k → jg (ls.take k) i = jg ls i := fun i hi => by simp [jg, hi]
  rcases h : jhas ls k id with _ | _
  · exact jhas_no fun i hi => by rw [e i hi]; exact jhas_f h i hi
  · obtain ⟨i, hi, h2⟩ := jhas_t h
    exact jhas_mk hi (by rw [e i hi]; exact h2)

theorem byId_job (x y : Jb) (w : World) :
    Calls Tryz.prog 60 #[.agg #[.int .i64 x.id, .int .i64 x.cores, .int .i64 x.long, .int .i64 x.due, .int .i64 x.wt, .int .i64 x.rank, .int .i64 x.at_], .agg #[.int .i64 y.id, .int .i64 y.cores, .int .i64 y.long, .int .i64 y.due, .int .i64 y.wt, .int .i64 y.rank, .int .i64 y.at_]] w fun e w' => e = .returned (.int .i64 (cmpI x.id y.id)) ∧ ∃ q os', w' = grow (w.drewN q) os' := by
  have hw : ∀ A B, GrS w ((w.alloc A).alloc B) := fun A B => ((GrS.refl w).alloc A).alloc B
  go_enter Tryz.func60, Tryz.ntmps60
  go_wp2_with (go_at_call 69; refine (compare_any _ _ _).mono ?_; rintro e w' ⟨rfl, rfl⟩)
  go_ret
  exact ⟨rfl, hw _ _⟩

set_option maxHeartbeats 1000000 in
theorem same_job (one oth : Jb) (B1 B2 : Nat) (w : World) (h1 : w.cell? ⟨B1, 0, none⟩ = some (.func (.func 60) #[] #[])) (h2 : ∀ c, c < 7 → w.cell? ⟨B2, c, none⟩ = some (.int .i64 (jc one c))) :
    Calls Tryz.prog 79 #[.agg #[.int .i64 oth.id, .int .i64 oth.cores, .int .i64 oth.long, .int .i64 oth.due, .int .i64 oth.wt, .int .i64 oth.rank, .int .i64 oth.at_], .pointer (some ⟨B1, 0, none⟩), .pointer (some ⟨B2, 0, none⟩)] w fun e w' => e = .returned (.bool (cmpI one.id oth.id == 0)) ∧ ∃ q os', w' = grow (w.drewN q) os' := by
  obtain ⟨W0, hW0⟩ : ∃ W0, W0 = w.alloc (.cells #[.int .i64 oth.id, .int .i64 oth.cores, .int .i64 oth.long, .int .i64 oth.due, .int .i64 oth.wt, .int .i64 oth.rank, .int .i64 oth.at_] 49) := ⟨_, rfl⟩
  have l1 : B1 < w.heap.size := World.block_lt_of_cell? w _ h1
  have l2 : B2 < w.heap.size := World.block_lt_of_cell? w _ (h2 0 (by omega))
  have hl1 : B1 < W0.heap.size := by rw [hW0]; simp; omega
  have hl2 : B2 < W0.heap.size := by rw [hW0]; simp; omega
  have hl3 : w.heap.size < W0.heap.size := by rw [hW0]; simp
  have HG : Hid (GrS w W0) := by unfold Hid; rw [hW0]; exact (GrS.refl w).alloc _
  have b0 : ∀ b o, b < w.heap.size → W0.cell? ⟨b, o, none⟩ = w.cell? ⟨b, o, none⟩ := fun b o hb => by rw [hW0]; exact World.cell?_alloc_lt _ _ _ hb
  have R0 : W0.cell? ⟨B1, 0, none⟩ = some (.func (.func 60) #[] #[]) := ((b0 B1 0 l1).trans h1)
  have P0 : W0.cell? ⟨B2, 0, none⟩ = some (.int .i64 one.id) := ((b0 B2 0 l2).trans (h2 0 (by omega)))
  have P1 : W0.cell? ⟨B2, 1, none⟩ = some (.int .i64 one.cores) := ((b0 B2 1 l2).trans (h2 1 (by omega)))
  have P2 : W0.cell? ⟨B2, 2, none⟩ = some (.int .i64 one.long) := ((b0 B2 2 l2).trans (h2 2 (by omega)))
  have P3 : W0.cell? ⟨B2, 3, none⟩ = some (.int .i64 one.due) := ((b0 B2 3 l2).trans (h2 3 (by omega)))
  have P4 : W0.cell? ⟨B2, 4, none⟩ = some (.int .i64 one.wt) := ((b0 B2 4 l2).trans (h2 4 (by omega)))
  have P5 : W0.cell? ⟨B2, 5, none⟩ = some (.int .i64 one.rank) := ((b0 B2 5 l2).trans (h2 5 (by omega)))
  have P6 : W0.cell? ⟨B2, 6, none⟩ = some (.int .i64 one.at_) := ((b0 B2 6 l2).trans (h2 6 (by omega)))
  have Q0 : W0.cell? ⟨w.heap.size, 0, none⟩ = some (.int .i64 oth.id) := (by rw [hW0]; simp)
  have Q1 : W0.cell? ⟨w.heap.size, 1, none⟩ = some (.int .i64 oth.cores) := (by rw [hW0]; simp)
  have Q2 : W0.cell? ⟨w.heap.size, 2, none⟩ = some (.int .i64 oth.long) := (by rw [hW0]; simp)
  have Q3 : W0.cell? ⟨w.heap.size, 3, none⟩ = some (.int .i64 oth.due) := (by rw [hW0]; simp)
  have Q4 : W0.cell? ⟨w.heap.size, 4, none⟩ = some (.int .i64 oth.wt) := (by rw [hW0]; simp)
  have Q5 : W0.cell? ⟨w.heap.size, 5, none⟩ = some (.int .i64 oth.rank) := (by rw [hW0]; simp)
  have Q6 : W0.cell? ⟨w.heap.size, 6, none⟩ = some (.int .i64 oth.at_) := (by rw [hW0]; simp)
  clear h1 h2 b0
  subst hW0
  go_enter Tryz.func79, Tryz.ntmps79
  go_wp2_with (go_at_call 60; refine (byId_job one oth _).mono ?_; rintro e w' ⟨rfl, hg'⟩)
  go_ret
  exact ⟨rfl, HG.out.trans hg'⟩

set_option maxHeartbeats 1000000 in
theorem index_job (a : Option Addr) (n cap : Nat) (ls : List Jb) (one : Jb) (B1 B2 : Nat) (w : World) (h : JobS w a n cap ls) (h1 : w.cell? ⟨B1, 0, none⟩ = some (.func (.func 60) #[] #[])) (h2 : ∀ c, c < 7 → w.cell? ⟨B2, c, none⟩ = some (.int .i64 (jc one c))) :
    Calls Tryz.prog 88 #[.slice a n cap, .func (.func 79) #[] #[.pointer (some ⟨B1, 0, none⟩), .pointer (some ⟨B2, 0, none⟩)]] w
      fun e w' => ∃ r : Int, e = .returned (.int .i64 r) ∧ -1 ≤ r ∧ (0 ≤ r ↔ jhas ls n one.id = true) ∧ GrS w w' := by
  have hm := h.mx
  have hle := h.le
  have hlen := h.len
  unfold maxLen at hm
  have l1 : B1 < w.heap.size := World.block_lt_of_cell? w _ h1
  have l2 : B2 < w.heap.size := World.block_lt_of_cell? w _ (h2 0 (by omega))
  go_enter Tryz.func88, Tryz.ntmps88
  go_wp2
  go_loopw [8] (fun i wr => ∃ k : Nat, k ≤ n ∧ i = .int .i64 k ∧ (∀ m, m < k → (jg ls m).id ≠ one.id) ∧ GrS w wr) (fun i _ => n - (intOf i).toNat)
  case atStart => exact ⟨0, by omega, rfl, fun m hm => by omega, GrS.refl _⟩
  case round =>
    obtain ⟨k, hk, rfl, hno, hwr⟩ := hrel
    rename World => wr
    have hbel : Below w.heap.size w wr := hwr.below
    have h1r : wr.cell? ⟨B1, 0, none⟩ = some (.func (.func 60) #[] #[]) := (hwr.cell (a := ⟨B1, 0, none⟩) l1).trans h1
    have h2r : ∀ c, c < 7 → wr.cell? ⟨B2, c, none⟩ = some (.int .i64 (jc one c)) := fun c hc => (hwr.cell (a := ⟨B2, c, none⟩) l2).trans (h2 c hc)
    by_cases hlt : k < n
    · obtain ⟨b, off, rfl, hbw, hat⟩ := h.at_ (by omega)
      have Hj := (hat.below hbel hbw).job (i := k) (by omega)
      obtain ⟨hc0, hc1, hc2, hc3, hc4, hc5, hc6⟩ := Hj
      have hlt' : (k : Int) < (n : Int) := by omega
      clear hbel
      by_cases hc : (jg ls k).id = one.id
      · have hc' : (cmpI one.id (jg ls k).id == 0) = true := by simpa using cmpI_zero.2 hc.symm
        have HC : Hid ((jg ls k).id = one.id) := hc
        clear hc
        go_wp2_with (go_at_call 79; refine (same_job one (jg ls k) B1 B2 _ h1r h2r).mono ?_; rw [hc']; rintro e w' ⟨rfl, hg'⟩)
        go_ret
        exact ⟨_, rfl, by omega, ⟨fun _ => jhas_mk hlt HC.out, fun _ => by omega⟩, hwr.trans hg'⟩
      · have hc' : (cmpI one.id (jg ls k).id == 0) = false := by
          rw [Bool.eq_false_iff]; intro h9; exact hc (cmpI_zero.1 (by simpa using h9)).symm
        go_wp2_with (go_at_call 79; refine (same_job one (jg ls k) B1 B2 _ h1r h2r).mono ?_; rw [hc']; rintro e w' ⟨rfl, hg'⟩)
        go_roundw
        case rel => exact ⟨k + 1, by omega, by go_num, fun m hm => by (by_cases e : m = k; (subst e; exact hc); exact hno m (by omega)), hwr.trans hg'⟩
        case measure => simp [intOf]; omega
    · have e : k = n := by omega
      subst e
      go_wp2
      go_ret
      exact ⟨_, rfl, by omega, ⟨fun h9 => by omega, fun h9 => by rw [jhas_no hno] at h9; cases h9⟩, hwr⟩

set_option maxHeartbeats 1000000 in
theorem contains_job (a : Option Addr) (n cap : Nat) (ls : List Jb) (one : Jb) (B1 B2 : Nat) (w : World) (h : JobS w a n cap ls) (h1 : w.cell? ⟨B1, 0, none⟩ = some (.func (.func 60) #[] #[])) (h2 : ∀ c, c < 7 → w.cell? ⟨B2, c, none⟩ = some (.int .i64 (jc one c))) :
    Calls Tryz.prog 80 #[.slice a n cap, .func (.func 79) #[] #[.pointer (some ⟨B1, 0, none⟩), .pointer (some ⟨B2, 0, none⟩)]] w
      fun e w' => e = .returned (.bool (jhas ls n one.id)) ∧ ∃ q os', w' = grow (w.drewN q) os' := by
  have HI := index_job a n cap ls one B1 B2 w h h1 h2
  clear h1 h2
  rcases hh : jhas ls n one.id with _ | _
  · rw [hh] at HI
    go_enter Tryz.func80, Tryz.ntmps80
    go_wp2_with (go_at_call 88; refine HI.mono ?_; rintro e w' ⟨r, rfl, hr, hi, hg⟩; have hr0 : ¬ 0 ≤ r := fun h9 => nomatch hi.1 h9)
    go_ret
    exact ⟨by first | rfl | (congr 2; simpa using hr0), hg⟩
  · rw [hh] at HI
    go_enter Tryz.func80, Tryz.ntmps80
    go_wp2_with (go_at_call 88; refine HI.mono ?_; rintro e w' ⟨r, rfl, hr, hi, hg⟩; have hr0 : 0 ≤ r := hi.2 rfl)
    go_ret
    exact ⟨by first | rfl | (congr 2; simpa using hr0), hg⟩

set_option maxRecDepth 8000 in
set_option maxHeartbeats 2000000 in
theorem fewUnlike_job (a : Option Addr) (n cap : Nat) (ls : List Jb) (w : World) (h : JobS w a n cap ls) :
    Calls Tryz.prog 66 #[.slice a n cap, .func (.func 67) #[] #[], .func (.func 60) #[] #[]] w fun e w' => e = .returned (.bool (jsB ls)) ∧ Below w.heap.size w w' := by
  have hm := h.mx
  have hle := h.le
  have hlen := h.len
  unfold maxLen at hm
  by_cases c1 : 40 < n
  · rw [jsB_no fun p => by have := p.n; omega]
    go_enter Tryz.func66, Tryz.ntmps66
    go_wp2
    go_ret
    exact ⟨rfl, box_below0⟩
  · obtain ⟨W1, hW1⟩ : ∃ W1, W1 = w.alloc (.cells #[.func (.func 60) #[] #[]] 78) := ⟨_, rfl⟩
    have B1 : Below w.heap.size w W1 := by rw [hW1]; exact box_below0
    have h1 := h.below B1
    have z1 : w.heap.size < W1.heap.size := by rw [hW1]; simp
    have f1 : W1.cell? ⟨w.heap.size, 0, none⟩ = some (.func (.func 60) #[] #[]) := by rw [hW1]; simp
    go_enter Tryz.func66, Tryz.ntmps66
    go_wp2
    rw [← hW1]
    clear hW1
    go_loopw [15] (fun i wr => ∃ k : Nat, k ≤ n ∧ i = .int .i64 k ∧ jokTo ls k ∧ Below W1.heap.size W1 wr) (fun i _ => n - (intOf i).toNat)
    case atStart => exact ⟨0, by omega, rfl, fun i hi => by omega, Below.refl _ _⟩
    case round =>
      obtain ⟨k, hk, rfl, hok, hw⟩ := hrel
      rename World => wr
      have hww : Below w.heap.size w wr := B1.then hw (by omega)
      by_cases hlt : k < n
      · obtain ⟨b, off, rfl, hbw, hat⟩ := h1.at_ (by omega)
        have Hj := (hat.below hw hbw).job (i := k) (by omega)
        obtain ⟨hc0, hc1, hc2, hc3, hc4, hc5, hc6⟩ := Hj
        have hlt' : (k : Int) < (n : Int) := by omega
        obtain ⟨W2, hW2⟩ : ∃ W2, W2 = wr.alloc (.cells #[.int .i64 (jg ls k).id, .int .i64 (jg ls k).cores, .int .i64 (jg ls k).long, .int .i64 (jg ls k).due, .int .i64 (jg ls k).wt, .int .i64 (jg ls k).rank, .int .i64 (jg ls k).at_] 49) := ⟨_, rfl⟩
        have B2 : Below wr.heap.size wr W2 := by rw [hW2]; exact box_below0
        have z2 : wr.heap.size < W2.heap.size := by rw [hW2]; simp
        have f2 : ∀ c, c < 7 → W2.cell? ⟨wr.heap.size, c, none⟩ = some (.int .i64 (jc (jg ls k) c)) := fun c hc => by
          rw [hW2]
          obtain rfl | rfl | rfl | rfl | rfl | rfl | rfl : c = 0 ∨ c = 1 ∨ c = 2 ∨ c = 3 ∨ c = 4 ∨ c = 5 ∨ c = 6 := by omega
          all_goals simp [jc]
        have fr : W2.cell? ⟨w.heap.size, 0, none⟩ = some (.func (.func 60) #[] #[]) := (B2.cell (p := ⟨w.heap.size, 0, none⟩) (by have := hw.size; simp; omega)).trans ((hw.cell (p := ⟨w.heap.size, 0, none⟩) (by simpa using z1)).trans f1)
        have HS : JobS W2 (some ⟨b, off, none⟩) k cap (ls.take k) := (h1.below (hw.then B2 hw.size)).pre (by omega)
        have hwe : Hid (∀ W, GrS W2 W → Below w.heap.size w W) := fun W hW => (hww.then B2 hww.size).then hW.below (by have := hww.size; have := B2.size; omega)
        have hwk : Hid (∀ W, GrS W2 W → Below W1.heap.size W1 W) := fun W hW => (hw.then B2 hw.size).then hW.below (by have := hw.size; have := B2.size; omega)
        have CN : ∀ W, GrS W2 W → Calls Tryz.prog 80 #[.slice (some ⟨b, off, none⟩) k cap, .func (.func 79) #[] #[.pointer (some ⟨w.heap.size, 0, none⟩), .pointer (some ⟨wr.heap.size, 0, none⟩)]] W fun e w' => e = .returned (.bool (jhas ls k (jg ls k).id)) ∧ ∃ q os', w' = grow (W.drewN q) os' := fun W hW => by
          rw [← jhas_pre]
          exact contains_job _ _ _ _ (jg ls k) _ _ _ (HS.below hW.below) ((hW.cell (a := ⟨w.heap.size, 0, none⟩) (by have := hw.size; simp; omega)).trans fr) (fun c hc => (hW.cell (a := ⟨wr.heap.size, c, none⟩) z2).trans (f2 c hc))
        have hkc : (k : Int) ≤ (cap : Int) := by omega
        have hk0 : (0 : Int) ≤ (k : Int) := by omega
        clear f1 f2 fr HS hat hbw h1
        rcases hj : jok (jg ls k) with _ | _
        · have E := js_no_ok (by omega) hj
          have CJ : ∀ W, Calls Tryz.prog 67 #[.agg #[.int .i64 (jg ls k).id, .int .i64 (jg ls k).cores, .int .i64 (jg ls k).long, .int .i64 (jg ls k).due, .int .i64 (jg ls k).wt, .int .i64 (jg ls k).rank, .int .i64 (jg ls k).at_]] W fun e w' => e = .returned (.bool false) ∧ ∃ q os', w' = grow (W.drewN q) os' := fun W => by have := ok_job (jg ls k) W; rwa [hj] at this
          clear hj CN
          go_wp2_with (first | (go_at_call 67; refine (CJ _).mono ?_; rintro e w3 ⟨rfl, hg3⟩; rw [← hW2] at hg3))
          go_ret
          exact ⟨by rw [E]; rfl, hwe.out _ hg3⟩
        · have HJ : Hid (jok (jg ls k) = true) := hj
          have CJ : ∀ W, Calls Tryz.prog 67 #[.agg #[.int .i64 (jg ls k).id, .int .i64 (jg ls k).cores, .int .i64 (jg ls k).long, .int .i64 (jg ls k).due, .int .i64 (jg ls k).wt, .int .i64 (jg ls k).rank, .int .i64 (jg ls k).at_]] W fun e w' => e = .returned (.bool true) ∧ ∃ q os', w' = grow (W.drewN q) os' := fun W => by have := ok_job (jg ls k) W; rwa [hj] at this
          clear hj
          rcases hh : jhas ls k (jg ls k).id with _ | _
          · have HN : Hid (∀ i, i < k → (jg ls i).id ≠ (jg ls k).id) := jhas_f hh
            rw [hh] at CN
            clear hh
            go_wp2_with (first | (go_at_call 67; refine (CJ _).mono ?_; rintro e w3 ⟨rfl, hg3⟩; rw [← hW2] at hg3) | (go_at_call 80; refine (CN _ hg3).mono ?_; rintro e w4 ⟨rfl, hg4⟩))
            go_roundw
            case rel => exact ⟨k + 1, by omega, by go_num, jokTo_succ hok HJ.out HN.out, hwk.out _ (GrS.trans hg3 hg4)⟩
            case measure => simp [intOf]; omega
          · obtain ⟨m, hmk, hid⟩ := jhas_t hh
            have E := js_no_id (by omega) hmk hid
            rw [hh] at CN
            clear hh hid
            go_wp2_with (first | (go_at_call 67; refine (CJ _).mono ?_; rintro e w3 ⟨rfl, hg3⟩; rw [← hW2] at hg3) | (go_at_call 80; refine (CN _ hg3).mono ?_; rintro e w4 ⟨rfl, hg4⟩))
            go_ret
            exact ⟨by rw [E]; rfl, hwe.out _ (GrS.trans hg3 hg4)⟩
      · have e : k = n := by omega
        subst e
        go_wp2
        go_ret
        exact ⟨by rw [jsB_mk ⟨by omega, by rw [hlen]; exact hok⟩]; rfl, hww⟩

end Go.Proofs.YtdgfkcobhhlfbaaGreat

/- JobsOk of the program. -/
namespace Go.Proofs.YtdgfkcobhhlfbaaGreat
open Go.RowKit Go.Sort

noncomputable def numI (ls : List Jb) (n : Nat) (id : Int) : Int := Classical.epsilon (IsNum ls n id)
theorem numI_eq {ls : List Jb} {n : Nat} {id r : Int} (h : IsNum ls n id r) : r = numI ls n id := h.uniq (Classical.epsilon_spec ⟨r, h⟩)
theorem isNum_some (ls : List Jb) (id : Int) : ∀ n, ∃ r, IsNum ls n id r
  | 0 => ⟨-1, Or.inl ⟨rfl, fun i hi => by omega⟩⟩
  | n + 1 => by
    obtain ⟨r, h⟩ := isNum_some ls id n
    rcases h with ⟨rfl, h1⟩ | ⟨k, rfl, h1, h2, h3⟩
    · by_cases e : (jg ls n).id = id
      · exact ⟨n, Or.inr ⟨n, rfl, by omega, e, h1⟩⟩
      · exact ⟨-1, Or.inl ⟨rfl, fun i hi => by (by_cases e' : i = n; (subst e'; exact e); exact h1 i (by omega))⟩⟩
    · exact ⟨k, Or.inr ⟨k, rfl, by omega, h2, h3⟩⟩
theorem numI_is (ls : List Jb) (n : Nat) (id : Int) : IsNum ls n id (numI ls n id) := Classical.epsilon_spec (isNum_some ls id n)
theorem IsNum.pre {ls : List Jb} {n m : Nat} {id r : Int} (h : IsNum (ls.take m) n id r) (hn : n ≤ m) : IsNum ls n id r := by
  have e : ∀ i, i < n → jg (ls.take m) i = jg ls i := fun i hi => by simp [jg, show i < m by omega]
  rcases h with ⟨rfl, h1⟩ | ⟨k, rfl, h1, h2, h3⟩
  · exact Or.inl ⟨rfl, fun i hi => by rw [← e i hi]; exact h1 i hi⟩
  · exact Or.inr ⟨k, rfl, h1, by rw [← e k h1]; exact h2, fun i hi => by rw [← e i (by omega)]; exact h3 i hi⟩

theorem implJobsOk_any (a : Option Addr) (n cap : Nat) (ls : List Jb) (w : World) (h : JobS w a n cap ls) :
    Calls Tryz.prog 45 #[.slice a n cap] w fun e w' => e = .returned (.bool (jsB ls)) ∧ Below w.heap.size w w' := by
  go_enter Tryz.func45, Tryz.ntmps45
  go_wp2_with (go_at_call 66; refine (fewUnlike_job _ _ _ _ _ h).mono ?_; rintro e w1 ⟨rfl, hb1⟩)
  go_ret
  exact ⟨rfl, hb1⟩

end Go.Proofs.YtdgfkcobhhlfbaaGreat

/- Rows of jobs: their cells, who is ahead; no sort. -/
namespace Go.Proofs.YtdgfkcobhhlfbaaGreat
open Go.RowKit Go.Sort

theorem jl_len (x : Jb) : (jl x).length = 7 := rfl
theorem jl_one (x : Jb) : ∀ v ∈ jl x, v.oneCell' = true := by
  intro v hv
  simp [jl] at hv
  rcases hv with rfl | rfl | rfl | rfl | rfl | rfl | rfl <;> rfl
theorem jl_at (x : Jb) (c : Nat) (h : c < 7) : (jl x)[c]! = .int .i64 (jc x c) := by
  obtain rfl | rfl | rfl | rfl | rfl | rfl | rfl : c = 0 ∨ c = 1 ∨ c = 2 ∨ c = 3 ∨ c = 4 ∨ c = 5 ∨ c = 6 := by omega
  all_goals rfl
theorem jg_arr [Inhabited Jb] (d : Array Jb) (i : Nat) (h : i < d.size) : jg d.toList i = d[i]! := by
  rw [getElem!_pos d i h]
  simp [jg, h]

/-- all jobs' cells, in a row -/
def jcells (l : List Jb) : List Value := l.flatMap jl
theorem jcells_len : ∀ l : List Jb, (jcells l).length = l.length * 7
  | [] => rfl
  | x :: r => by
    have := jcells_len r
    show (jl x ++ jcells r).length = (r.length + 1) * 7
    rw [List.length_append, jl_len]; omega
theorem jcells_at : ∀ (l : List Jb) (i c : Nat), i < l.length → c < 7 → (jcells l)[i * 7 + c]? = some (.int .i64 (jc (jg l i) c))
  | x :: r, 0, c, _, hc => by
    show (jl x ++ jcells r)[0 * 7 + c]? = _
    rw [List.getElem?_append_left (by rw [jl_len]; omega)]
    obtain rfl | rfl | rfl | rfl | rfl | rfl | rfl : c = 0 ∨ c = 1 ∨ c = 2 ∨ c = 3 ∨ c = 4 ∨ c = 5 ∨ c = 6 := by omega
    all_goals rfl
  | x :: r, i + 1, c, h, hc => by
    show (jl x ++ jcells r)[(i + 1) * 7 + c]? = _
    rw [List.getElem?_append_right (by rw [jl_len]; omega), jl_len, show (i + 1) * 7 + c - 7 = i * 7 + c by omega]
    exact jcells_at r i c (by simpa using h) hc
theorem jcells_one (l : List Jb) : ∀ v ∈ jcells l, v.oneCell' = true := by
  intro v hv
  obtain ⟨x, _, hx⟩ := List.mem_flatMap.1 hv
  exact jl_one x v hx
theorem jcells_get {l : List Jb} {j : Nat} {v : Value} (h : (jcells l)[j]? = some v) : j / 7 < l.length ∧ v = .int .i64 (jc (jg l (j / 7)) (j % 7)) := by
  have hl := jcells_len l
  have hjl : j < l.length * 7 := by
    rcases Nat.lt_or_ge j (jcells l).length with h1 | h1
    · omega
    · rw [List.getElem?_eq_none h1] at h; cases h
  have h1 := jcells_at l (j / 7) (j % 7) (by omega) (by omega)
  rw [show j / 7 * 7 + j % 7 = j by omega, h] at h1
  exact ⟨by omega, Option.some.inj h1⟩

theorem ahead_iff {i r a i' r' a' : Int} : aheadB i r a i' r' a' = true ↔ r' < r ∨ (r = r' ∧ (a < a' ∨ (a = a' ∧ i < i'))) := by
  unfold aheadB
  by_cases c1 : r = r'
  · rw [if_neg (by simpa using c1)]
    by_cases c2 : a = a'
    · rw [if_neg (by simpa using c2)]; simp; omega
    · rw [if_pos c2]; simp; omega
  · rw [if_pos c1]; simp; omega

/-- one job ahead of another -/
def jlt (x y : Jb) : Bool := aheadB x.id x.rank x.at_ y.id y.rank y.at_
theorem swo_jlt : SWO jlt := by
  refine ⟨fun x => ?_, fun x y z h1 h2 => ?_, fun x y z h1 h2 => ?_⟩
  · rw [Bool.eq_false_iff]; intro h; have := ahead_iff.1 h; omega
  · have := ahead_iff.1 h1; have := ahead_iff.1 h2; exact ahead_iff.2 (by omega)
  · rw [Bool.eq_false_iff] at h1 h2 ⊢
    intro h
    have h3 := ahead_iff.1 h
    have h1' := mt ahead_iff.2 h1
    have h2' := mt ahead_iff.2 h2
    omega

/-- sorted: no later one ahead of an earlier one -/
def jsorted (l : List Jb) : Prop := ∀ i j, i < j → j < l.length → jlt (jg l j) (jg l i) = false

theorem JobS.nil_ (w : World) : JobS w none 0 0 [] := ⟨rfl, Nat.le_refl _, Nat.zero_le _, fun _ => rfl, fun i hi => by omega, fun h => by omega⟩

theorem markNilJ_any (k0 : Int) (w : World) :
    Calls Tryz.prog 11 #[.slice none 0 0, .int .i64 k0] w fun e w' => e = .returned (.int .i64 k0) ∧ w' = w := by
  go_enter Tryz.func11, Tryz.ntmps11
  go_wp2
  refine wp_loop_rounds 1 ?_
  rw [rounds_succ]
  go_wp2
  go_ret
  exact ⟨rfl, rfl⟩

theorem heldNilJ_any (k0 : Int) (w : World) :
    Calls Tryz.prog 12 #[.slice none 0 0, .int .i64 k0] w fun e w' => e = .returned (.int .i64 k0) ∧ w' = w := by
  go_enter Tryz.func12, Tryz.ntmps12
  go_wp2
  refine wp_loop_rounds 1 ?_
  rw [rounds_succ]
  go_wp2
  go_ret
  exact ⟨rfl, rfl⟩

end Go.Proofs.YtdgfkcobhhlfbaaGreat
