/- cmp.Compare and cmp.Or over numbers; worlds that have only grown. -/
import Derived.Test.YtkkbfblgnejonaaMem
import Derived.StillTailTactics
import Derived.Lib.SmallJoins
import Derived.Sort.Grow
namespace Go.Proofs.Ytkkbfblgnejonaa
open Go.RowKit Go.Sort

def cmpI (a b : Int) : Int := if a < b then -1 else if b < a then 1 else 0
def or3 (x y z : Int) : Int := if x ≠ 0 then x else if y ≠ 0 then y else z

theorem cmpI_bd (a b : Int) : -1 ≤ cmpI a b ∧ cmpI a b ≤ 1 := by unfold cmpI; split <;> (try split) <;> omega

theorem new1_0 (W : World) (x y z : Value) (T : TypeId) : ((W.alloc (.cells #[x, y, z] T)).drew).cell? ⟨W.heap.size, 0, none⟩ = some x := by
  show (W.alloc (.cells #[x, y, z] T)).cell? _ = _
  rw [Joins.cell_alloc_mark_at _ _ _ _ _ _ rfl]; rfl

theorem new1_1 (W : World) (x y z : Value) (T : TypeId) : ((W.alloc (.cells #[x, y, z] T)).drew).cell? ⟨W.heap.size, 1, none⟩ = some y := by
  show (W.alloc (.cells #[x, y, z] T)).cell? _ = _
  rw [Joins.cell_alloc_mark_at _ _ _ _ _ _ rfl]; rfl

theorem new1_2 (W : World) (x y z : Value) (T : TypeId) : ((W.alloc (.cells #[x, y, z] T)).drew).cell? ⟨W.heap.size, 2, none⟩ = some z := by
  show (W.alloc (.cells #[x, y, z] T)).cell? _ = _
  rw [Joins.cell_alloc_mark_at _ _ _ _ _ _ rfl]; rfl

theorem cmpI_zero {a b : Int} : cmpI a b = 0 ↔ a = b := by unfold cmpI; split <;> (try split) <;> omega
theorem cmpI_neg {a b : Int} : cmpI a b < 0 ↔ a < b := by unfold cmpI; split <;> (try split) <;> omega

theorem below_grow (w : World) (q : Nat) (os : Array Obj) : Below w.heap.size w (grow (w.drewN q) os) :=
  ⟨rfl, rfl, rfl, by simp, fun k hk => by rw [heap_grow_old _ _ (by simpa using hk)]; rfl⟩

def or2 (x y : Int) : Int := if x ≠ 0 then x else y

theorem or2_lt (a b c d : Int) : decide (or2 (cmpI a b) (cmpI c d) < 0) = decide (a < b ∨ (a = b ∧ c < d)) := by
  apply decide_eq_decide.2
  unfold or2
  by_cases h : a = b
  · rw [if_neg (fun h1 => h1 (cmpI_zero.2 h)), cmpI_neg]
    constructor
    · exact fun h1 => Or.inr ⟨h, h1⟩
    · intro h1; omega
  · rw [if_pos (fun h1 => h (cmpI_zero.1 h1)), cmpI_neg]
    constructor
    · exact fun h1 => Or.inl h1
    · intro h1; omega

/-- so many draws, some blocks laid behind -/
def GrS (w W : World) : Prop := ∃ q os, W = grow (w.drewN q) os
theorem GrS.refl (w : World) : GrS w w := ⟨0, #[], by rw [grow_empty]; rfl⟩
theorem GrS.grow {w W : World} (h : GrS w W) (q : Nat) (os' : Array Obj) : GrS w (Sort.grow (W.drewN q) os') := by
  obtain ⟨q0, os, rfl⟩ := h
  exact ⟨q0 + q, os ++ os', by show Sort.grow (Sort.grow ((w.drewN q0).drewN q) os) os' = _; rw [grow_grow, World.drewN_drewN]⟩
theorem GrS.drew {w W : World} (h : GrS w W) : GrS w W.drew := by
  have := h.grow 1 #[]
  rwa [grow_empty] at this
theorem GrS.alloc {w W : World} (h : GrS w W) (o : Obj) : GrS w (W.alloc o) := by
  have := h.grow 0 #[o]
  rw [alloc_eq_grow]; exact this
theorem GrS.trans {a b c : World} (h : GrS a b) (k : GrS b c) : GrS a c := by
  obtain ⟨q, os, rfl⟩ := k
  exact h.grow q os
theorem GrS.below {w W : World} (h : GrS w W) : Below w.heap.size w W := by
  obtain ⟨q, os, rfl⟩ := h
  exact below_grow w q os
theorem GrS.cell {w W : World} (h : GrS w W) {a : Addr} (ha : a.block < w.heap.size) : W.cell? a = w.cell? a := h.below.cell ha

theorem new2_0 (W : World) (x y : Value) (T : TypeId) : (W.alloc (.cells #[x, y] T)).cell? ⟨W.heap.size, 0, none⟩ = some x := by
  rw [Joins.cell_alloc_mark_at _ _ _ _ _ _ rfl]; rfl
theorem new2_1 (W : World) (x y : Value) (T : TypeId) : (W.alloc (.cells #[x, y] T)).cell? ⟨W.heap.size, 1, none⟩ = some y := by
  rw [Joins.cell_alloc_mark_at _ _ _ _ _ _ rfl]; rfl

end Go.Proofs.Ytkkbfblgnejonaa
