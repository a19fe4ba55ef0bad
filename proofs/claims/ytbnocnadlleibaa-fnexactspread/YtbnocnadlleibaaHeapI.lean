/- The program's heap of machines: its methods, and how the library comes to them. -/
import Derived.Test.YtbnocnadlleibaaHeapMath
import Derived.Test.YtbnocnadlleibaaJobCmp
import Derived.Test.YtbnocnadlleibaaStepApp
import Derived.Test.YtbnocnadlleibaaJobIn
namespace Go.Proofs.Ytbnocnadlleibaa
open Go.RowKit Go.Sort

/-- a machine as it lies -/
def ml (y : Int × Int) : List Value := [.int .i64 y.1, .int .i64 y.2]
def mcells (ys : List (Int × Int)) : List Value := ys.flatMap ml

theorem mcells_len (ys : List (Int × Int)) : (mcells ys).length = ys.length * 2 := by
  induction ys with
  | nil => rfl
  | cons y r ih => unfold mcells at *; rw [List.flatMap_cons, List.length_append, ih, List.length_cons]; simp [ml]; omega
theorem mcells_app (a b : List (Int × Int)) : mcells (a ++ b) = mcells a ++ mcells b := by simp [mcells]
theorem mcells_at : ∀ (ys : List (Int × Int)) (i : Nat), i < ys.length → (mcells ys)[i * 2]? = some (.int .i64 (mg ys i).1) ∧ (mcells ys)[i * 2 + 1]? = some (.int .i64 (mg ys i).2)
  | [], _, h => absurd h (by simp)
  | y :: r, 0, _ => by simp [mcells, ml, mg]
  | y :: r, i + 1, h => by
    have := mcells_at r i (by simpa using h)
    have e : mcells (y :: r) = ml y ++ mcells r := by simp [mcells]
    rw [e, show (i + 1) * 2 = 2 + i * 2 by omega, show 2 + i * 2 + 1 = 2 + (i * 2 + 1) by omega, List.getElem?_append_right (by simp [ml]), List.getElem?_append_right (by simp [ml])]
    simp only [ml, List.length_cons, List.length_nil, Nat.zero_add, Nat.add_sub_cancel_left]
    exact this
theorem mcells_set : ∀ (ys : List (Int × Int)) (i : Nat) (x : Int × Int), i < ys.length → mcells (ys.set i x) = ((mcells ys).set (i * 2) (.int .i64 x.1)).set (i * 2 + 1) (.int .i64 x.2)
  | [], _, _, h => absurd h (by simp)
  | y :: r, 0, x, _ => by simp [mcells, ml]
  | y :: r, i + 1, x, h => by
    have ih := mcells_set r i x (by simpa using h)
    have e : ∀ r, mcells (y :: r) = .int .i64 y.1 :: .int .i64 y.2 :: mcells r := fun r => by simp [mcells, ml]
    rw [List.set_cons_succ, e, e, ih, show (i + 1) * 2 = i * 2 + 1 + 1 by omega, show i * 2 + 1 + 1 + 1 = (i * 2 + 1) + 1 + 1 by omega]
    simp [List.set_cons_succ]

/-- block P is the heap's box, block g its row: ys -/
structure HeapW (w : World) (base P g cap : Nat) (ys : List (Int × Int)) : Prop where
  box : w.heap[P]? = some (.cells #[.slice (some ⟨g, 0, none⟩) ys.length cap] 75 (0, 0))
  own : w.ownsRow base 78 2 (.slice (some ⟨g, 0, none⟩) ys.length cap) ys.length (mcells ys)
  ne : P ≠ g
  ge : base ≤ P

theorem HeapW.cell {w : World} {base P g cap : Nat} {ys : List (Int × Int)} (h : HeapW w base P g cap ys) {i : Nat} (hi : i < ys.length) :
    w.cell? ⟨g, i * 2, none⟩ = some (.int .i64 (mg ys i).1) ∧ w.cell? ⟨g, i * 2 + 1, none⟩ = some (.int .i64 (mg ys i).2) := by
  obtain ⟨h1, h2⟩ := mcells_at ys i hi
  exact ⟨(h.own.cellAt _ (by omega)).trans h1, (h.own.cellAt _ (by omega)).trans h2⟩
theorem HeapW.free {w : World} {base P g cap : Nat} {ys : List (Int × Int)} (h : HeapW w base P g cap ys) (j : Nat) : w.frozen? ⟨g, j, none⟩ = false := h.own.frozenAt j
theorem HeapW.lt {w : World} {base P g cap : Nat} {ys : List (Int × Int)} (h : HeapW w base P g cap ys) : base ≤ g ∧ g < w.heap.size ∧ P < w.heap.size := by
  have := h.own.lt g rfl
  exact ⟨this.1, this.2, lt_of_block h.box⟩
theorem HeapW.keep {w w' : World} {base P g cap : Nat} {ys : List (Int × Int)} (h : HeapW w base P g cap ys) (h1 : w'.heap[P]? = w.heap[P]?) (h2 : w'.heap[g]? = w.heap[g]?) : HeapW w' base P g cap ys := by
  refine ⟨h1.trans h.box, ⟨h.own.1, ?_⟩, h.ne, h.ge⟩
  rcases h.own.2 with ⟨e, _⟩ | ⟨g', cap', cur, e, hb, hg, r⟩
  · cases e
  · have e' := e
    injection e with e1 _ e3
    injection e1 with e1
    injection e1 with e1 _ _
    subst e1
    exact .inr ⟨g, cap', cur, e', hb, h2.trans hg, r⟩
theorem HeapW.below {w w' : World} {base P g cap : Nat} {ys : List (Int × Int)} (h : HeapW w base P g cap ys) (hb : Below w.heap.size w w') : HeapW w' base P g cap ys :=
  h.keep (hb.block P h.lt.2.2) (hb.block g h.lt.2.1)

/-! ### how the methods are found -/
def HT : TypeId := 54
theorem m0Len (p : Nat) (w : World) : (method 242 54 (.pointer (some ⟨p, 0, none⟩)) "Len").run Try.prog w = (do let r ← loadVar 75 ⟨p, 0, none⟩; pure (118, r)).run Try.prog w := by kernel_rfl
theorem m0Less (p : Nat) (w : World) : (method 242 54 (.pointer (some ⟨p, 0, none⟩)) "Less").run Try.prog w = (do let r ← loadVar 75 ⟨p, 0, none⟩; pure (119, r)).run Try.prog w := by kernel_rfl
theorem m0Swap (p : Nat) (w : World) : (method 242 54 (.pointer (some ⟨p, 0, none⟩)) "Swap").run Try.prog w = (do let r ← loadVar 75 ⟨p, 0, none⟩; pure (122, r)).run Try.prog w := by kernel_rfl
theorem load_heap {p : Nat} {a : Option Addr} {n c : Nat} {w : World} (h : w.cell? ⟨p, 0, none⟩ = some (.slice a n c)) : (loadVar 75 ⟨p, 0, none⟩).run Try.prog w = .ok (.slice a n c) w := by go_simp
theorem mLen {p : Nat} {a : Option Addr} {n c : Nat} {w : World} (h : w.cell? ⟨p, 0, none⟩ = some (.slice a n c)) : (method 242 54 (.pointer (some ⟨p, 0, none⟩)) "Len").run Try.prog w = .ok (118, .slice a n c) w := by
  rw [m0Len]; simp [load_heap h]
theorem mLess {p : Nat} {a : Option Addr} {n c : Nat} {w : World} (h : w.cell? ⟨p, 0, none⟩ = some (.slice a n c)) : (method 242 54 (.pointer (some ⟨p, 0, none⟩)) "Less").run Try.prog w = .ok (119, .slice a n c) w := by
  rw [m0Less]; simp [load_heap h]
theorem mSwap {p : Nat} {a : Option Addr} {n c : Nat} {w : World} (h : w.cell? ⟨p, 0, none⟩ = some (.slice a n c)) : (method 242 54 (.pointer (some ⟨p, 0, none⟩)) "Swap").run Try.prog w = .ok (122, .slice a n c) w := by
  rw [m0Swap]; simp [load_heap h]
theorem mPush (p : Nat) (w : World) : (method 242 54 (.pointer (some ⟨p, 0, none⟩)) "Push").run Try.prog w = .ok (121, .pointer (some ⟨p, 0, none⟩)) w := by kernel_rfl
theorem mPop (p : Nat) (w : World) : (method 242 54 (.pointer (some ⟨p, 0, none⟩)) "Pop").run Try.prog w = .ok (120, .pointer (some ⟨p, 0, none⟩)) w := by kernel_rfl
theorem nLen (p : Nat) (w : World) : (nilAhead 242 54 (.pointer (some ⟨p, 0, none⟩)) "Len").run Try.prog w = .ok (some false) w := by kernel_rfl
theorem nLess (p : Nat) (w : World) : (nilAhead 242 54 (.pointer (some ⟨p, 0, none⟩)) "Less").run Try.prog w = .ok (some false) w := by kernel_rfl
theorem nSwap (p : Nat) (w : World) : (nilAhead 242 54 (.pointer (some ⟨p, 0, none⟩)) "Swap").run Try.prog w = .ok (some false) w := by kernel_rfl
theorem nPush (p : Nat) (w : World) : (nilAhead 242 54 (.pointer (some ⟨p, 0, none⟩)) "Push").run Try.prog w = .ok (some false) w := by kernel_rfl
theorem nPop (p : Nat) (w : World) : (nilAhead 242 54 (.pointer (some ⟨p, 0, none⟩)) "Pop").run Try.prog w = .ok (some false) w := by kernel_rfl

theorem mLen_any (a : Option Addr) (n c : Nat) (w : World) :
    Calls Try.prog 118 #[.slice a n c] w fun e w' => e = .returned (.int .i64 n) ∧ w' = w := by
  go_enter Try.func118, Try.ntmps118
  go_wp2
  go_ret
  exact ⟨rfl, rfl⟩

end Go.Proofs.Ytbnocnadlleibaa
