/- cmp.Compare and cmp.Or over numbers; worlds that have only grown. -/
import Derived.Test.YtmaojjjdepgaeaaMem
import Derived.StillTailTactics
import Derived.Lib.SmallJoins
import Derived.Sort.Grow
namespace Go.Proofs.Ytmaojjjdepgaeaa
open Go.RowKit Go.Sort

def cmpI (a b : Int) : Int := if a < b then -1 else if b < a then 1 else 0
def or3 (x y z : Int) : Int := if x ≠ 0 then x else if y ≠ 0 then y else z

theorem cmpI_bd (a b : Int) : -1 ≤ cmpI a b ∧ cmpI a b ≤ 1 := by unfold cmpI; split <;> (try split) <;> omega

theorem isNaN_any (x : Int) (w : World) :
    Calls Try.prog 115 #[.int .i64 x] w fun e w' => e = .returned (.bool false) ∧ w' = w := by
  go_enter Try.func115, Try.ntmps115
  go_wp2
  go_ret
  exact ⟨rfl, rfl⟩

theorem compare_any (a b : Int) (w : World) :
    Calls Try.prog 99 #[.int .i64 a, .int .i64 b] w fun e w' => e = .returned (.int .i64 (cmpI a b)) ∧ w' = w := by
  unfold cmpI
  by_cases c1 : a < b
  · rw [if_pos c1]
    go_enter Try.func99, Try.ntmps99
    go_wp2_with (go_at_call 115; refine (isNaN_any _ _).mono ?_; rintro e w' ⟨rfl, rfl⟩)
    go_ret
    exact ⟨rfl, rfl⟩
  · rw [if_neg c1]
    by_cases c2 : b < a
    · rw [if_pos c2]
      go_enter Try.func99, Try.ntmps99
      go_wp2_with (go_at_call 115; refine (isNaN_any _ _).mono ?_; rintro e w' ⟨rfl, rfl⟩)
      go_ret
      exact ⟨rfl, rfl⟩
    · rw [if_neg c2]
      go_enter Try.func99, Try.ntmps99
      go_wp2_with (go_at_call 115; refine (isNaN_any _ _).mono ?_; rintro e w' ⟨rfl, rfl⟩)
      go_ret
      exact ⟨rfl, rfl⟩

theorem or_any (B : Nat) (x y z : Int) (w : World) (h0 : w.cell? ⟨B, 0, none⟩ = some (.int .i64 x)) (h1 : w.cell? ⟨B, 1, none⟩ = some (.int .i64 y)) (h2 : w.cell? ⟨B, 2, none⟩ = some (.int .i64 z)) :
    Calls Try.prog 104 #[.slice (some ⟨B, 0, none⟩) 3 3] w fun e w' => e = .returned (.int .i64 (or3 x y z)) ∧ w' = w := by
  unfold or3
  by_cases c0 : x = 0
  · have d0 : (x != 0) = false := by simpa using c0
    rw [if_neg (by simpa using c0)]
    by_cases c1 : y = 0
    · have d1 : (y != 0) = false := by simpa using c1
      rw [if_neg (by simpa using c1)]
      clear c0 c1
      by_cases c2 : z = 0
      · have d2 : (z != 0) = false := by simpa using c2
        have HZ : Hid (z = 0) := c2
        clear c2
        go_enter Try.func104, Try.ntmps104
        go_wp2
        refine wp_loop_rounds 4 ?_
        rw [rounds_succ]
        go_wp2
        rw [rounds_succ]
        go_wp2
        rw [rounds_succ]
        go_wp2
        rw [rounds_succ]
        go_wp2
        go_ret
        exact ⟨by rw [HZ.out]; rfl, rfl⟩
      · have d2 : (z != 0) = true := by simpa using c2
        clear c2
        go_enter Try.func104, Try.ntmps104
        go_wp2
        refine wp_loop_rounds 4 ?_
        rw [rounds_succ]
        go_wp2
        rw [rounds_succ]
        go_wp2
        rw [rounds_succ]
        go_wp2
        go_ret
        exact ⟨rfl, rfl⟩
    · have d1 : (y != 0) = true := by simpa using c1
      rw [if_pos (by simpa using c1)]
      clear c0 c1
      go_enter Try.func104, Try.ntmps104
      go_wp2
      refine wp_loop_rounds 4 ?_
      rw [rounds_succ]
      go_wp2
      rw [rounds_succ]
      go_wp2
      go_ret
      exact ⟨rfl, rfl⟩
  · have d0 : (x != 0) = true := by simpa using c0
    rw [if_pos (by simpa using c0)]
    clear c0
    go_enter Try.func104, Try.ntmps104
    go_wp2
    refine wp_loop_rounds 4 ?_
    rw [rounds_succ]
    go_wp2
    go_ret
    exact ⟨rfl, rfl⟩

theorem new1_0 (W : World) (x y z : Value) (T : TypeId) : ((W.alloc (.cells #[x, y, z] T)).drew).cell? ⟨W.heap.size, 0, none⟩ = some x := by
  show (W.alloc (.cells #[x, y, z] T)).cell? _ = _
  rw [Joins.cell_alloc_mark_at _ _ _ _ _ _ rfl]; rfl

theorem new1_1 (W : World) (x y z : Value) (T : TypeId) : ((W.alloc (.cells #[x, y, z] T)).drew).cell? ⟨W.heap.size, 1, none⟩ = some y := by
  show (W.alloc (.cells #[x, y, z] T)).cell? _ = _
  rw [Joins.cell_alloc_mark_at _ _ _ _ _ _ rfl]; rfl

theorem new1_2 (W : World) (x y z : Value) (T : TypeId) : ((W.alloc (.cells #[x, y, z] T)).drew).cell? ⟨W.heap.size, 2, none⟩ = some z := by
  show (W.alloc (.cells #[x, y, z] T)).cell? _ = _
  rw [Joins.cell_alloc_mark_at _ _ _ _ _ _ rfl]; rfl

theorem cmpI_zero {a b : Int} : cmpI a b = 0 ↔ a = b := by unfold cmpI; split <;> (try split) <;> omega
theorem cmpI_neg {a b : Int} : cmpI a b < 0 ↔ a < b := by unfold cmpI; split <;> (try split) <;> omega

theorem below_grow (w : World) (q : Nat) (os : Array Obj) : Below w.heap.size w (grow (w.drewN q) os) :=
  ⟨rfl, rfl, rfl, by simp, fun k hk => by rw [heap_grow_old _ _ (by simpa using hk)]; rfl⟩

def or2 (x y : Int) : Int := if x ≠ 0 then x else y

theorem or2_lt (a b c d : Int) : decide (or2 (cmpI a b) (cmpI c d) < 0) = decide (a < b ∨ (a = b ∧ c < d)) := by
  apply decide_eq_decide.2
  unfold or2
  by_cases h : a = b
  · rw [if_neg (fun h1 => h1 (cmpI_zero.2 h)), cmpI_neg]
    constructor
    · exact fun h1 => Or.inr ⟨h, h1⟩
    · intro h1; omega
  · rw [if_pos (fun h1 => h (cmpI_zero.1 h1)), cmpI_neg]
    constructor
    · exact fun h1 => Or.inl h1
    · intro h1; omega

/-- so many draws, some blocks laid behind -/
def GrS (w W : World) : Prop := ∃ q os, W = grow (w.drewN q) os
theorem GrS.refl (w : World) : GrS w w := ⟨0, #[], by rw [grow_empty]; rfl⟩
theorem GrS.grow {w W : World} (h : GrS w W) (q : Nat) (os' : Array Obj) : GrS w (Sort.grow (W.drewN q) os') := by
  obtain ⟨q0, os, rfl⟩ := h
  exact ⟨q0 + q, os ++ os', by show Sort.grow (Sort.grow ((w.drewN q0).drewN q) os) os' = _; rw [grow_grow, World.drewN_drewN]⟩
theorem GrS.drew {w W : World} (h : GrS w W) : GrS w W.drew := by
  have := h.grow 1 #[]
  rwa [grow_empty] at this
theorem GrS.alloc {w W : World} (h : GrS w W) (o : Obj) : GrS w (W.alloc o) := by
  have := h.grow 0 #[o]
  rw [alloc_eq_grow]; exact this
theorem GrS.trans {a b c : World} (h : GrS a b) (k : GrS b c) : GrS a c := by
  obtain ⟨q, os, rfl⟩ := k
  exact h.grow q os
theorem GrS.below {w W : World} (h : GrS w W) : Below w.heap.size w W := by
  obtain ⟨q, os, rfl⟩ := h
  exact below_grow w q os
theorem GrS.cell {w W : World} (h : GrS w W) {a : Addr} (ha : a.block < w.heap.size) : W.cell? a = w.cell? a := h.below.cell ha

theorem or2_any (B : Nat) (x y : Int) (w : World) (h0 : w.cell? ⟨B, 0, none⟩ = some (.int .i64 x)) (h1 : w.cell? ⟨B, 1, none⟩ = some (.int .i64 y)) :
    Calls Try.prog 104 #[.slice (some ⟨B, 0, none⟩) 2 2] w fun e w' => e = .returned (.int .i64 (or2 x y)) ∧ w' = w := by
  unfold or2
  by_cases c0 : x = 0
  · have d0 : (x != 0) = false := by simpa using c0
    rw [if_neg (by simpa using c0)]
    clear c0
    by_cases c1 : y = 0
    · have d1 : (y != 0) = false := by simpa using c1
      have HZ : Hid (y = 0) := c1
      clear c1
      go_enter Try.func104, Try.ntmps104
      go_wp2
      refine wp_loop_rounds 3 ?_
      rw [rounds_succ]
      go_wp2
      rw [rounds_succ]
      go_wp2
      rw [rounds_succ]
      go_wp2
      go_ret
      exact ⟨by rw [HZ.out]; rfl, rfl⟩
    · have d1 : (y != 0) = true := by simpa using c1
      clear c1
      go_enter Try.func104, Try.ntmps104
      go_wp2
      refine wp_loop_rounds 3 ?_
      rw [rounds_succ]
      go_wp2
      rw [rounds_succ]
      go_wp2
      go_ret
      exact ⟨rfl, rfl⟩
  · have d0 : (x != 0) = true := by simpa using c0
    rw [if_pos (by simpa using c0)]
    clear c0
    go_enter Try.func104, Try.ntmps104
    go_wp2
    refine wp_loop_rounds 3 ?_
    rw [rounds_succ]
    go_wp2
    go_ret
    exact ⟨rfl, rfl⟩

theorem new2_0 (W : World) (x y : Value) (T : TypeId) : (W.alloc (.cells #[x, y] T)).cell? ⟨W.heap.size, 0, none⟩ = some x := by
  rw [Joins.cell_alloc_mark_at _ _ _ _ _ _ rfl]; rfl
theorem new2_1 (W : World) (x y : Value) (T : TypeId) : (W.alloc (.cells #[x, y] T)).cell? ⟨W.heap.size, 1, none⟩ = some y := by
  rw [Joins.cell_alloc_mark_at _ _ _ _ _ _ rfl]; rfl

end Go.Proofs.Ytmaojjjdepgaeaa
