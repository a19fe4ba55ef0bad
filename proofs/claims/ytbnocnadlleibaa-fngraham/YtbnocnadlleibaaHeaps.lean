/- Several texts in one. -/
import Derived.Test.YtbnocnadlleibaaHeapMath
import Derived.Test.YtbnocnadlleibaaJobCmp
import Derived.Test.YtbnocnadlleibaaStepApp
import Derived.Test.YtbnocnadlleibaaJobIn
import Derived.BigRegion
import Derived.Test.YtbnocnadlleibaaInts
import Derived.Deep.RegionLaw
import Derived.Shelf.Abstract
import Derived.Test.YtbnocnadlleibaaJobsOkI
import Derived.Test.YtbnocnadlleibaaIntRow
/- The program's heap of machines: its methods, and how the library comes to them. -/
namespace Go.Proofs.Ytbnocnadlleibaa
open Go.RowKit Go.Sort

/-- a machine as it lies -/
def ml (y : Int × Int) : List Value := [.int .i64 y.1, .int .i64 y.2]
def mcells (ys : List (Int × Int)) : List Value := ys.flatMap ml

theorem mcells_len (ys : List (Int × Int)) : (mcells ys).length = ys.length * 2 := by
  induction ys with
  | nil => rfl
  | cons y r ih => unfold mcells at *; rw [List.flatMap_cons, List.length_append, ih, List.length_cons]; simp [ml]; omega
theorem mcells_app (a b : List (Int × Int)) : mcells (a ++ b) = mcells a ++ mcells b := by simp [mcells]
theorem mcells_at : ∀ (ys : List (Int × Int)) (i : Nat), i < ys.length → (mcells ys)[i * 2]? = some (.int .i64 (mg ys i).1) ∧ (mcells ys)[i * 2 + 1]? = some (.int .i64 (mg ys i).2)
  | [], _, h => absurd h (by simp)
  | y :: r, 0, _ => by simp [mcells, ml, mg]
  | y :: r, i + 1, h => by
    have := mcells_at r i (by simpa using h)
    have e : mcells (y :: r) = ml y ++ mcells r := by simp [mcells]
    rw [e, show (i + 1) * 2 = 2 + i * 2 by omega, show 2 + i * 2 + 1 = 2 + (i * 2 + 1) by omega, List.getElem?_append_right (by simp [ml]), List.getElem?_append_right (by simp [ml])]
    simp only [ml, List.length_cons, List.length_nil, Nat.zero_add, Nat.add_sub_cancel_left]
    exact this
theorem mcells_set : ∀ (ys : List (Int × Int)) (i : Nat) (x : Int × Int), i < ys.length → mcells (ys.set i x) = ((mcells ys).set (i * 2) (.int .i64 x.1)).set (i * 2 + 1) (.int .i64 x.2)
  | [], _, _, h => absurd h (by simp)
  | y :: r, 0, x, _ => by simp [mcells, ml]
  | y :: r, i + 1, x, h => by
    have ih := mcells_set r i x (by simpa using h)
    have e : ∀ r, mcells (y :: r) = .int .i64 y.1 :: .int .i64 y.2 :: mcells r := fun r => by simp [mcells, ml]
    rw [List.set_cons_succ, e, e, ih, show (i + 1) * 2 = i * 2 + 1 + 1 by omega, show i * 2 + 1 + 1 + 1 = (i * 2 + 1) + 1 + 1 by omega]
    simp [List.set_cons_succ]

/-- block P is the heap's box, block g its row: ys -/
structure HeapW (w : World) (base P g cap : Nat) (ys : List (Int × Int)) : Prop where
  box : w.heap[P]? = some (.cells #[.slice (some ⟨g, 0, none⟩) ys.length cap] 75 (0, 0))
  own : w.ownsRow base 78 2 (.slice (some ⟨g, 0, none⟩) ys.length cap) ys.length (mcells ys)
  ne : P ≠ g
  ge : base ≤ P

theorem HeapW.cell {w : World} {base P g cap : Nat} {ys : List (Int × Int)} (h : HeapW w base P g cap ys) {i : Nat} (hi : i < ys.length) :
    w.cell? ⟨g, i * 2, none⟩ = some (.int .i64 (mg ys i).1) ∧ w.cell? ⟨g, i * 2 + 1, none⟩ = some (.int .i64 (mg ys i).2) := by
  obtain ⟨h1, h2⟩ := mcells_at ys i hi
  exact ⟨(h.own.cellAt _ (by omega)).trans h1, (h.own.cellAt _ (by omega)).trans h2⟩
theorem HeapW.free {w : World} {base P g cap : Nat} {ys : List (Int × Int)} (h : HeapW w base P g cap ys) (j : Nat) : w.frozen? ⟨g, j, none⟩ = false := h.own.frozenAt j
theorem HeapW.lt {w : World} {base P g cap : Nat} {ys : List (Int × Int)} (h : HeapW w base P g cap ys) : base ≤ g ∧ g < w.heap.size ∧ P < w.heap.size := by
  have := h.own.lt g rfl
  exact ⟨this.1, this.2, lt_of_block h.box⟩
theorem HeapW.keep {w w' : World} {base P g cap : Nat} {ys : List (Int × Int)} (h : HeapW w base P g cap ys) (h1 : w'.heap[P]? = w.heap[P]?) (h2 : w'.heap[g]? = w.heap[g]?) : HeapW w' base P g cap ys := by
  refine ⟨h1.trans h.box, ⟨h.own.1, ?_⟩, h.ne, h.ge⟩
  rcases h.own.2 with ⟨e, _⟩ | ⟨g', cap', cur, e, hb, hg, r⟩
  · cases e
  · have e' := e
    injection e with e1 _ e3
    injection e1 with e1
    injection e1 with e1 _ _
    subst e1
    exact .inr ⟨g, cap', cur, e', hb, h2.trans hg, r⟩
theorem HeapW.below {w w' : World} {base P g cap : Nat} {ys : List (Int × Int)} (h : HeapW w base P g cap ys) (hb : Below w.heap.size w w') : HeapW w' base P g cap ys :=
  h.keep (hb.block P h.lt.2.2) (hb.block g h.lt.2.1)

/-! ### how the methods are found -/
def HT : TypeId := 54
theorem m0Len (p : Nat) (w : World) : (method 242 54 (.pointer (some ⟨p, 0, none⟩)) "Len").run Try.prog w = (do let r ← loadVar 75 ⟨p, 0, none⟩; pure (118, r)).run Try.prog w := by kernel_rfl
theorem m0Less (p : Nat) (w : World) : (method 242 54 (.pointer (some ⟨p, 0, none⟩)) "Less").run Try.prog w = (do let r ← loadVar 75 ⟨p, 0, none⟩; pure (119, r)).run Try.prog w := by kernel_rfl
theorem m0Swap (p : Nat) (w : World) : (method 242 54 (.pointer (some ⟨p, 0, none⟩)) "Swap").run Try.prog w = (do let r ← loadVar 75 ⟨p, 0, none⟩; pure (122, r)).run Try.prog w := by kernel_rfl
theorem load_heap {p : Nat} {a : Option Addr} {n c : Nat} {w : World} (h : w.cell? ⟨p, 0, none⟩ = some (.slice a n c)) : (loadVar 75 ⟨p, 0, none⟩).run Try.prog w = .ok (.slice a n c) w := by go_simp
theorem mLen {p : Nat} {a : Option Addr} {n c : Nat} {w : World} (h : w.cell? ⟨p, 0, none⟩ = some (.slice a n c)) : (method 242 54 (.pointer (some ⟨p, 0, none⟩)) "Len").run Try.prog w = .ok (118, .slice a n c) w := by
  rw [m0Len]; simp [load_heap h]
theorem mLess {p : Nat} {a : Option Addr} {n c : Nat} {w : World} (h : w.cell? ⟨p, 0, none⟩ = some (.slice a n c)) : (method 242 54 (.pointer (some ⟨p, 0, none⟩)) "Less").run Try.prog w = .ok (119, .slice a n c) w := by
  rw [m0Less]; simp [load_heap h]
theorem mSwap {p : Nat} {a : Option Addr} {n c : Nat} {w : World} (h : w.cell? ⟨p, 0, none⟩ = some (.slice a n c)) : (method 242 54 (.pointer (some ⟨p, 0, none⟩)) "Swap").run Try.prog w = .ok (122, .slice a n c) w := by
  rw [m0Swap]; simp [load_heap h]
theorem mPush (p : Nat) (w : World) : (method 242 54 (.pointer (some ⟨p, 0, none⟩)) "Push").run Try.prog w = .ok (121, .pointer (some ⟨p, 0, none⟩)) w := by kernel_rfl
theorem mPop (p : Nat) (w : World) : (method 242 54 (.pointer (some ⟨p, 0, none⟩)) "Pop").run Try.prog w = .ok (120, .pointer (some ⟨p, 0, none⟩)) w := by kernel_rfl
theorem nLen (p : Nat) (w : World) : (nilAhead 242 54 (.pointer (some ⟨p, 0, none⟩)) "Len").run Try.prog w = .ok (some false) w := by kernel_rfl
theorem nLess (p : Nat) (w : World) : (nilAhead 242 54 (.pointer (some ⟨p, 0, none⟩)) "Less").run Try.prog w = .ok (some false) w := by kernel_rfl
theorem nSwap (p : Nat) (w : World) : (nilAhead 242 54 (.pointer (some ⟨p, 0, none⟩)) "Swap").run Try.prog w = .ok (some false) w := by kernel_rfl
theorem nPush (p : Nat) (w : World) : (nilAhead 242 54 (.pointer (some ⟨p, 0, none⟩)) "Push").run Try.prog w = .ok (some false) w := by kernel_rfl
theorem nPop (p : Nat) (w : World) : (nilAhead 242 54 (.pointer (some ⟨p, 0, none⟩)) "Pop").run Try.prog w = .ok (some false) w := by kernel_rfl

theorem mLen_any (a : Option Addr) (n c : Nat) (w : World) :
    Calls Try.prog 118 #[.slice a n c] w fun e w' => e = .returned (.int .i64 n) ∧ w' = w := by
  go_enter Try.func118, Try.ntmps118
  go_wp2
  go_ret
  exact ⟨rfl, rfl⟩

end Go.Proofs.Ytbnocnadlleibaa

/- Less and Swap of the program's heap. -/
namespace Go.Proofs.Ytbnocnadlleibaa
open Go.RowKit Go.Sort

def orM (x y : Int) : Int := if x ≠ 0 then x else y

theorem or2m_any (B : Nat) (x y : Int) (w : World) (h0 : w.cell? ⟨B, 0, none⟩ = some (.int .i64 x)) (h1 : w.cell? ⟨B, 1, none⟩ = some (.int .i64 y)) :
    Calls Try.prog 74 #[.slice (some ⟨B, 0, none⟩) 2 2] w fun e w' => e = .returned (.int .i64 (orM x y)) ∧ w' = w := by
  unfold orM
  by_cases c0 : x = 0
  · have d0 : (x != 0) = false := by simpa using c0
    rw [if_neg (by simpa using c0)]
    clear c0
    by_cases c1 : y = 0
    · have d1 : (y != 0) = false := by simpa using c1
      have HZ : Hid (y = 0) := c1
      clear c1
      go_enter Try.func74, Try.ntmps74
      go_wp2
      refine wp_loop_rounds 3 ?_
      rw [rounds_succ]
      go_wp2
      rw [rounds_succ]
      go_wp2
      rw [rounds_succ]
      go_wp2
      go_ret
      exact ⟨by rw [HZ.out]; rfl, rfl⟩
    · have d1 : (y != 0) = true := by simpa using c1
      clear c1
      go_enter Try.func74, Try.ntmps74
      go_wp2
      refine wp_loop_rounds 3 ?_
      rw [rounds_succ]
      go_wp2
      rw [rounds_succ]
      go_wp2
      go_ret
      exact ⟨rfl, rfl⟩
  · have d0 : (x != 0) = true := by simpa using c0
    rw [if_pos (by simpa using c0)]
    clear c0
    go_enter Try.func74, Try.ntmps74
    go_wp2
    refine wp_loop_rounds 3 ?_
    rw [rounds_succ]
    go_wp2
    go_ret
    exact ⟨rfl, rfl⟩

theorem new2m_0 (W : World) (x y : Value) (T : TypeId) : ((W.alloc (.cells #[x, y] T)).drew).cell? ⟨W.heap.size, 0, none⟩ = some x := by
  show (W.alloc (.cells #[x, y] T)).cell? _ = _
  rw [Joins.cell_alloc_mark_at _ _ _ _ _ _ rfl]; rfl
theorem new2m_1 (W : World) (x y : Value) (T : TypeId) : ((W.alloc (.cells #[x, y] T)).drew).cell? ⟨W.heap.size, 1, none⟩ = some y := by
  show (W.alloc (.cells #[x, y] T)).cell? _ = _
  rw [Joins.cell_alloc_mark_at _ _ _ _ _ _ rfl]; rfl

/-- does the program's heap hold the one ahead of the other -/
def mltB (a b : Int × Int) : Bool := decide (orM (cmpI a.2 b.2) (cmpI a.1 b.1) < 0)
theorem mltB_iff {a b : Int × Int} : mltB a b = true ↔ mlt a b := by
  unfold mltB mlt orM
  rw [decide_eq_true_iff]
  by_cases h : a.2 = b.2
  · rw [if_neg (fun h1 => h1 (cmpI_zero.2 h)), cmpI_neg]; omega
  · rw [if_pos (fun h1 => h (cmpI_zero.1 h1)), cmpI_neg]; omega

set_option maxRecDepth 8000 in
set_option maxHeartbeats 4000000 in
theorem less_any (g n cap i j : Nat) (x y : Int × Int) (w : World) (hi : i < n) (hj : j < n)
    (x0 : w.cell? ⟨g, i * 2, none⟩ = some (.int .i64 x.1)) (x1 : w.cell? ⟨g, i * 2 + 1, none⟩ = some (.int .i64 x.2))
    (y0 : w.cell? ⟨g, j * 2, none⟩ = some (.int .i64 y.1)) (y1 : w.cell? ⟨g, j * 2 + 1, none⟩ = some (.int .i64 y.2)) :
    Calls Try.prog 119 #[.slice (some ⟨g, 0, none⟩) n cap, .int .i64 i, .int .i64 j] w fun e w' => e = .returned (.bool (mltB x y)) ∧ Below w.heap.size w w' := by
  unfold mltB
  have hi' : (i : Int) < (n : Int) := by omega
  have hj' : (j : Int) < (n : Int) := by omega
  go_enter Try.func119, Try.ntmps119
  go_wp2_with fail
  refine wp_region_still_tail 22 (by kernel_rfl) (by kernel_rfl) ?_
  simp only [List.take_succ_cons, List.take_zero, List.drop_succ_cons, List.drop_zero]
  change wpStill _ _ w.drew (fun a' => wpList _ _ _ _ a' w.drew) _ _
  repeat still_step
  still_call (compare_any _ _ _)
  repeat still_step
  still_call (compare_any _ _ _)
  repeat still_step
  refine wpStill_nil ?_
  go_wp2_with (go_at_call 74; refine Calls.mono (or2m_any w.heap.size (cmpI x.2 y.2) (cmpI x.1 y.1) _ (new2m_0 _ _ _ _) (new2m_1 _ _ _ _)) ?_; rintro e w' ⟨rfl, rfl⟩)
  go_ret
  exact ⟨rfl, (Below.refl _ _).drew.alloc (Nat.le_refl _) _⟩

end Go.Proofs.Ytbnocnadlleibaa

/- Swap of the program's heap. -/
namespace Go.Proofs.Ytbnocnadlleibaa
open Go.RowKit Go.Sort

theorem cell_over {w : World} {a b : Addr} {u v v' : Value} (ha : w.cell? a = some v') (hb : w.cell? b = some v) (h : a = b → u = v) : (w.setCell a u).cell? b = some v := by
  by_cases e : a = b
  · subst e; rw [World.cell?_setCell_same _ _ _ ha, h rfl]
  · exact (World.cell?_setCell_other _ _ _ _ e).trans hb

set_option maxRecDepth 8000 in
set_option maxHeartbeats 4000000 in
theorem swap_any (g n cap i j : Nat) (x y : Int × Int) (w : World) (hi : i < n) (hj : j < n)
    (x0 : w.cell? ⟨g, i * 2, none⟩ = some (.int .i64 x.1)) (x1 : w.cell? ⟨g, i * 2 + 1, none⟩ = some (.int .i64 x.2))
    (y0 : w.cell? ⟨g, j * 2, none⟩ = some (.int .i64 y.1)) (y1 : w.cell? ⟨g, j * 2 + 1, none⟩ = some (.int .i64 y.2))
    (fz : ∀ k, w.frozen? ⟨g, k, none⟩ = false) :
    Calls Try.prog 122 #[.slice (some ⟨g, 0, none⟩) n cap, .int .i64 i, .int .i64 j] w fun e w' => e = .returned (.tuple #[]) ∧ ∃ q,
      w' = ((((w.setCell ⟨g, i * 2, none⟩ (.int .i64 y.1)).setCell ⟨g, i * 2 + 1, none⟩ (.int .i64 y.2)).setCell ⟨g, j * 2, none⟩ (.int .i64 x.1)).setCell ⟨g, j * 2 + 1, none⟩ (.int .i64 x.2)).drewN q := by
  have hi' : (i : Int) < (n : Int) := by omega
  have hj' : (j : Int) < (n : Int) := by omega
  have f0 := fz (i * 2)
  have f1 := fz (i * 2 + 1)
  have f2 := fz (j * 2)
  have f3 := fz (j * 2 + 1)
  clear fz
  have E : ∀ a b : Nat, (⟨g, a, none⟩ : Addr) = ⟨g, b, none⟩ → a = b := fun a b h => by injection h
  have q0 : ∀ b v, w.cell? ⟨g, b, none⟩ = some v → (b = i * 2 → v = .int .i64 y.1) → (b = i * 2 + 1 → v = .int .i64 y.2) → ((w.setCell ⟨g, i * 2, none⟩ (.int .i64 y.1)).setCell ⟨g, i * 2 + 1, none⟩ (.int .i64 y.2)).cell? ⟨g, b, none⟩ = some v := by
    intro b v hb h1 h2
    have e1 := cell_over (a := ⟨g, i * 2, none⟩) (u := .int .i64 y.1) x0 hb (fun e => (h1 (E _ _ e).symm).symm)
    exact cell_over (cell_over (v := .int .i64 x.2) x0 x1 (fun e => by have := E _ _ e; omega)) e1 (fun e => (h2 (E _ _ e).symm).symm)
  have s0 := q0 (j * 2) _ y0 (fun _ => rfl) (fun e => by omega)
  have s1 : ((w.setCell ⟨g, i * 2, none⟩ (.int .i64 y.1)).setCell ⟨g, i * 2 + 1, none⟩ (.int .i64 y.2)).cell? ⟨g, j * 2 + 1, none⟩ = some (.int .i64 y.2) := q0 (j * 2 + 1) _ y1 (fun e => by omega) (fun _ => rfl)
  clear E q0
  go_enter Try.func122, Try.ntmps122
  go_wp2_with fail
  go_region
  go_wp2
  go_end0
  exact ⟨rfl, 1, rfl⟩

end Go.Proofs.Ytbnocnadlleibaa

/- Push and Pop of the program's heap. -/
namespace Go.Proofs.Ytbnocnadlleibaa
open Go.RowKit Go.Sort

theorem infoMa : (Try.prog.info? 78).map (fun i => (i.zero, i.size, i.bytes)) = some (some (.agg #[.int .i64 0, .int .i64 0]), 2, 16) := by kernel_rfl

theorem newm_cells (W : World) (x : Int × Int) (T : TypeId) : ∀ i u, (ml x)[i]? = some u → ((W.alloc (.cells #[.int .i64 x.1, .int .i64 x.2] T)).drew).cell? ((⟨W.heap.size, 0, none⟩ : Addr).add i) = some u := by
  intro i u hi
  have hadd : (⟨W.heap.size, 0, none⟩ : Addr).add i = ⟨W.heap.size, i, none⟩ := by unfold Addr.add; split <;> simp_all
  rw [hadd]
  show (W.alloc (.cells #[.int .i64 x.1, .int .i64 x.2] T)).cell? _ = _
  rw [Joins.cell_alloc_mark_at _ _ _ _ _ _ rfl]
  show (List.toArray (ml x))[i]? = _
  rw [List.getElem?_toArray]
  exact hi
theorem ml_one (x : Int × Int) : ∀ u ∈ ml x, u.oneCell' = true := by simp [ml, Value.oneCell']

theorem asM (v : Value) (w : World) : (Instr.typeAssert (.iface 78 v) 20 78 false).run Try.prog w = .ok v w := by kernel_rfl

/-- what becomes of the heap: of the old blocks only the box and the row may turn, the row is the old one or new -/
structure Turn (w w' : World) (P g g' : Nat) : Prop where
  os : w'.os = w.os
  tape : w'.tape = w.tape
  output : w'.output = w.output
  size : w.heap.size ≤ w'.heap.size
  block : ∀ k, k < w.heap.size → k ≠ P → k ≠ g → w'.heap[k]? = w.heap[k]?
  row : g' = g ∨ w.heap.size ≤ g'

theorem Turn.refl (w : World) (P g : Nat) : Turn w w P g g := ⟨rfl, rfl, rfl, Nat.le_refl _, fun _ _ _ _ => rfl, Or.inl rfl⟩
theorem Turn.trans {a b c : World} {P g g' g'' : Nat} (h : Turn a b P g g') (k : Turn b c P g' g'') : Turn a c P g g'' :=
  ⟨k.os.trans h.os, k.tape.trans h.tape, k.output.trans h.output, Nat.le_trans h.size k.size, fun i hi h1 h2 => (k.block i (Nat.lt_of_lt_of_le hi h.size) h1 (by
    rcases h.row with e | e
    · omega
    · omega)).trans (h.block i hi h1 h2), by
    have := h.size
    rcases h.row with e | e <;> rcases k.row with e2 | e2
    · exact Or.inl (e2.trans e)
    · exact Or.inr (by omega)
    · exact Or.inr (by omega)
    · exact Or.inr (by omega)⟩
theorem Turn.of {a b : World} {P g : Nat} (h : Below a.heap.size a b) : Turn a b P g g := ⟨h.os, h.tape, h.output, h.size, fun k hk _ _ => h.block k hk, Or.inl rfl⟩
theorem Turn.ofRow {a b : World} {P g : Nat} (h : a.grownBy b (some g)) : Turn a b P g g := ⟨h.os, h.tape, h.output, h.size, fun k hk _ hg => h.block k hk (by simpa using hg), Or.inl rfl⟩
theorem Turn.below {a b : World} {P g g' base : Nat} (h : Turn a b P g g') (hP : base ≤ P) (hg : base ≤ g) (hs : base ≤ a.heap.size) : Below base a b :=
  ⟨h.os, h.tape, h.output, h.size, fun k hk => h.block k (by omega) (by omega) (by omega)⟩

/-- the heap, its row swapped -/
theorem swapH_any (base P g cap : Nat) (ys : List (Int × Int)) (i j : Nat) (w : World) (h : HeapW w base P g cap ys) (hi : i < ys.length) (hj : j < ys.length) :
    Calls Try.prog 122 #[.slice (some ⟨g, 0, none⟩) ys.length cap, .int .i64 i, .int .i64 j] w fun e w' => e = .returned (.tuple #[]) ∧ HeapW w' base P g cap (sw ys i j) ∧ Turn w w' P g g := by
  obtain ⟨x0, x1⟩ := h.cell hi
  obtain ⟨y0, y1⟩ := h.cell hj
  refine (swap_any g ys.length cap i j (mg ys i) (mg ys j) w hi hj x0 x1 y0 y1 h.free).mono ?_
  rintro e w' ⟨rfl, q, rfl⟩
  have o0 := h.own.stored (i * 2) (.int .i64 (mg ys j).1)
  have o1 := o0.1.stored (i * 2 + 1) (.int .i64 (mg ys j).2)
  have o2 := o1.1.stored (j * 2) (.int .i64 (mg ys i).1)
  have o3 := o2.1.stored (j * 2 + 1) (.int .i64 (mg ys i).2)
  have gr := ((o0.2.trans o1.2).trans o2.2).trans o3.2
  have em : mcells (sw ys i j) = ((((mcells ys).set (i * 2) (.int .i64 (mg ys j).1)).set (i * 2 + 1) (.int .i64 (mg ys j).2)).set (j * 2) (.int .i64 (mg ys i).1)).set (j * 2 + 1) (.int .i64 (mg ys i).2) := by
    unfold sw
    rw [mcells_set _ _ _ (by simpa using hj), mcells_set _ _ _ hi]
  refine ⟨rfl, ⟨?_, ?_, h.ne, h.ge⟩, Turn.ofRow ⟨gr.os, gr.tape, gr.output, gr.size, gr.block⟩⟩
  · rw [sw_len]; exact (gr.block P h.lt.2.2 (by simpa using h.ne)).trans h.box
  · rw [sw_len, em]; exact o3.1

theorem push_done {base P g cap g5 c5 : Nat} {ys : List (Int × Int)} {x : Int × Int} {w w5 : World} {o : Obj} (hP1 : P < w.heap.size) (hne : P ≠ g) (hPb : base ≤ P) (G5 : w.grownBy w5 (some g))
    (HB5 : w5.heap[P]? = some (.cells #[.slice (some ⟨g, 0, none⟩) ys.length cap] 75 (0, 0)))
    (own5 : w5.ownsRow base 78 2 (.slice (some ⟨g5, 0, none⟩) (ys.length + 1) c5) (ys.length + 1) (mcells ys ++ [.int .i64 x.1, .int .i64 x.2]))
    (at5 : (Value.slice (some ⟨g5, 0, none⟩) (ys.length + 1) c5).ownBlock = (Value.slice (some ⟨g, 0, none⟩) ys.length cap).ownBlock ∨ (Value.slice (some ⟨g5, 0, none⟩) (ys.length + 1) c5).ownBlock = some (w.alloc o).drew.heap.size) :
    HeapW (w5.setCell ⟨P, 0, none⟩ (.slice (some ⟨g5, 0, none⟩) (ys.length + 1) c5)) base P g5 c5 (ys ++ [x]) ∧ Turn w (w5.setCell ⟨P, 0, none⟩ (.slice (some ⟨g5, 0, none⟩) (ys.length + 1) c5)) P g g5 := by
  have hg : g5 = g ∨ w.heap.size + 1 = g5 := by
    rcases at5 with e | e
    · exact Or.inl (Option.some.inj e)
    · refine Or.inr ?_
      have : g5 = (w.alloc o).drew.heap.size := Option.some.inj e
      rw [this]; show _ = (w.alloc o).heap.size; simp
  have hP5 : P ≠ g5 := by omega
  have hsz : (w5.setCell ⟨P, 0, none⟩ (.slice (some ⟨g5, 0, none⟩) (ys.length + 1) c5)).heap.size = w5.heap.size := by simp [World.setCell]
  have hb : ∀ k, k ≠ P → (w5.setCell ⟨P, 0, none⟩ (.slice (some ⟨g5, 0, none⟩) (ys.length + 1) c5)).heap[k]? = w5.heap[k]? := fun k hk => Below.heap_setCell _ _ _ _ hk
  refine ⟨⟨?_, ?_, hP5, hPb⟩, ⟨G5.os, G5.tape, G5.output, by rw [hsz]; exact G5.size, fun k hk h1 h2 => (hb k h1).trans (G5.block k hk (by simpa using h2)), by omega⟩⟩
  · have := blk_set (j := 0) HB5 (.slice (some ⟨g5, 0, none⟩) (ys.length + 1) c5)
    rw [this]; simp
  · rw [List.length_append, mcells_app]
    refine ⟨own5.1, ?_⟩
    rcases own5.2 with ⟨e, _⟩ | ⟨g', c', cur, e, h1, h2, r⟩
    · cases e
    · have e' := e
      injection e with e1 _ e3
      injection e1 with e1
      injection e1 with e1 _ _
      subst e1 e3
      exact .inr ⟨g5, c5, cur, rfl, h1, (hb g5 (Ne.symm hP5)).trans h2, r⟩

set_option maxRecDepth 8000 in
set_option maxHeartbeats 4000000 in
theorem pushM_any (base P g cap : Nat) (ys : List (Int × Int)) (x : Int × Int) (w : World) (h : HeapW w base P g cap ys) (hb : base ≤ w.heap.size) (hn : ys.length ≤ 1048576) :
    Calls Try.prog 121 #[.pointer (some ⟨P, 0, none⟩), .iface 78 (.agg #[.int .i64 x.1, .int .i64 x.2])] w fun e w' => e = .returned (.tuple #[]) ∧ ∃ g' cap', HeapW w' base P g' cap' (ys ++ [x]) ∧ Turn w w' P g g' := by
  obtain ⟨i1, hj, hj0, hj1, hj2⟩ := info_parts infoMa
  obtain ⟨hg0, hg1, hP1⟩ := h.lt
  have hne := h.ne
  have hPb := h.ge
  have KP : w.cell? ⟨P, 0, none⟩ = some (.slice (some ⟨g, 0, none⟩) ys.length cap) := cell_of_one h.box
  have KA : Hid (∀ o, (w.alloc o).cell? ⟨P, 0, none⟩ = some (.slice (some ⟨g, 0, none⟩) ys.length cap)) := fun o => (World.cell?_alloc_lt _ _ _ (by simpa using hP1)).trans KP
  have HOP : Hid (∀ W, Below w.heap.size w W → W.ownsRow base 78 2 (.slice (some ⟨g, 0, none⟩) ys.length cap) ys.length (mcells ys)) := fun W hW => (h.below hW).own
  have HBX : Hid _ := h.box
  have Hk : Hid (∀ (W5 : World) (o : Obj), ((w.alloc o).drew).grownBy W5 (Value.slice (some ⟨g, 0, none⟩) ys.length cap).ownBlock → w.grownBy W5 (some g)) := fun W5 o hg =>
    ⟨hg.os, hg.tape, hg.output, Nat.le_trans (by simp) hg.size, fun r hr hne => (hg.block r (by simp; omega) (by simpa [Value.ownBlock] using hne)).trans (Below.heap_alloc _ _ _ hr)⟩
  clear h
  have as1 := asM
  go_enter Try.func121, Try.ntmps121
  go_wp2_with fail
  have KA' := KA.out
  go_region_law (refine step_append_own rfl (.tmp 7) (.tmp 10) 75 rfl base 78 i1 (.agg #[.int .i64 0, .int .i64 0]) 2 16 Try.underlying75 hj hj0 hj1 hj2 rfl (by decide) (.slice (some ⟨g, 0, none⟩) ys.length cap) ys.length (mcells ys) rfl (HOP.out _ (by first | exact ((Below.refl _ _).alloc (Nat.le_refl _) _).drew | exact (Below.refl _ _).drew.alloc (Nat.le_refl _) _)) ⟨w.heap.size, 0, none⟩ 1 1 [.int .i64 x.1, .int .i64 x.2] rfl rfl (newm_cells _ _ _) (ml_one x) (by unfold maxLen; omega) (by omega) (by simp; omega) ?_
                 intro v5 w5 own5 grow5 nil5 at5
                 have G5 := Hk.out _ _ grow5
                 have KB5 := (G5.block P hP1 (by simpa using hne)).trans HBX.out
                 have KP5 := cell_of_one KB5
                 have FP5 := free_of_one KB5
                 have HB5 : Hid _ := KB5
                 obtain ⟨g5, c5, rfl⟩ := own_form own5 (by omega)
                 clear nil5 KB5)
  all_goals
    have D := push_done (o := .cells #[.int .i64 x.1, .int .i64 x.2] 78) hP1 hne hPb G5 HB5.out own5 at5
    clear own5 at5 grow5
    go_end0
    exact ⟨rfl, g5, c5, D⟩

end Go.Proofs.Ytbnocnadlleibaa

/- Pop of the program's heap; what the library's up and down do. -/
namespace Go.Proofs.Ytbnocnadlleibaa
open Go.RowKit Go.Sort

theorem mcells_take (ys : List (Int × Int)) (n : Nat) : (mcells ys).take (n * 2) = mcells (ys.take n) := by
  induction ys generalizing n with
  | nil => simp [mcells]
  | cons y r ih =>
    cases n with
    | zero => simp [mcells]
    | succ n =>
      have e : ∀ r, mcells (y :: r) = .int .i64 y.1 :: .int .i64 y.2 :: mcells r := fun r => by simp [mcells, ml]
      rw [e, List.take_succ_cons, e, ← ih, show (n + 1) * 2 = n * 2 + 1 + 1 by omega, List.take_succ_cons, List.take_succ_cons]

theorem pop_done {base P g cap n : Nat} {ys : List (Int × Int)} {w : World} (o : Obj) (h : HeapW w base P g cap ys) (hn : ys.length = n + 1) :
    HeapW ((w.setCell ⟨P, 0, none⟩ (.slice (some ⟨g, 0, none⟩) n cap)).alloc o) base P g cap (ys.take n) ∧ Turn w ((w.setCell ⟨P, 0, none⟩ (.slice (some ⟨g, 0, none⟩) n cap)).alloc o) P g g := by
  obtain ⟨hg0, hg1, hP1⟩ := h.lt
  have hl : (ys.take n).length = n := by rw [List.length_take]; omega
  have hsz : (w.setCell ⟨P, 0, none⟩ (.slice (some ⟨g, 0, none⟩) n cap)).heap.size = w.heap.size := by simp [World.setCell]
  have ha : ∀ k, k < w.heap.size → ((w.setCell ⟨P, 0, none⟩ (.slice (some ⟨g, 0, none⟩) n cap)).alloc o).heap[k]? = (w.setCell ⟨P, 0, none⟩ (.slice (some ⟨g, 0, none⟩) n cap)).heap[k]? := fun k hk => Below.heap_alloc _ _ _ (by omega)
  have hb : ∀ k, k < w.heap.size → k ≠ P → ((w.setCell ⟨P, 0, none⟩ (.slice (some ⟨g, 0, none⟩) n cap)).alloc o).heap[k]? = w.heap[k]? := fun k hk hkP => (ha k hk).trans (Below.heap_setCell _ _ _ _ hkP)
  refine ⟨⟨?_, ?_, h.ne, h.ge⟩, ⟨rfl, rfl, rfl, by simp, fun k hk h1 _ => hb k hk h1, Or.inl rfl⟩⟩
  · rw [ha P hP1, blk_set (j := 0) h.box, hl]; simp
  · rw [hl, ← mcells_take]
    have hm := mcells_len ys
    refine ⟨by rw [List.length_take]; omega, ?_⟩
    rcases h.own.2 with ⟨e, _⟩ | ⟨g', c', cur, e, h1, h2, h3, h4, h5, h6⟩
    · cases e
    · injection e with e1 _ e3
      injection e1 with e1
      injection e1 with e1 _ _
      subst e1 e3
      refine .inr ⟨g, cap, cur, rfl, h1, (hb g hg1 (Ne.symm h.ne)).trans h2, by omega, h4, h5, ?_⟩
      rw [← h6, List.take_take, show min (n * 2) (ys.length * 2) = n * 2 by omega]

set_option maxRecDepth 8000 in
set_option maxHeartbeats 4000000 in
theorem popM_any (base P g cap n : Nat) (ys : List (Int × Int)) (w : World) (h : HeapW w base P g cap ys) (hn : ys.length = n + 1) (hc : cap ≤ maxLen) (hnc : n + 1 ≤ cap) :
    Calls Try.prog 120 #[.pointer (some ⟨P, 0, none⟩)] w fun e w' => e = .returned (.iface 78 (.agg #[.int .i64 (mg ys n).1, .int .i64 (mg ys n).2])) ∧ HeapW w' base P g cap (ys.take n) ∧ Turn w w' P g g := by
  obtain ⟨hg0, hg1, hP1⟩ := h.lt
  have hne := h.ne
  have hPb := h.ge
  obtain ⟨x0, x1⟩ := h.cell (i := n) (by omega)
  have KP := cell_of_one h.box
  have FP := free_of_one h.box
  rw [hn] at KP
  have HH : Hid (HeapW w base P g cap ys) := h
  clear h
  unfold maxLen at hc
  obtain ⟨x, hx⟩ : ∃ x, mg ys n = x := ⟨_, rfl⟩
  rw [hx] at x0 x1 ⊢
  go_enter Try.func120, Try.ntmps120
  go_wp2
  go_ret
  exact ⟨rfl, pop_done _ HH.out hn⟩

end Go.Proofs.Ytbnocnadlleibaa

/- The library's up. -/
namespace Go.Proofs.Ytbnocnadlleibaa
open Go.RowKit Go.Sort Go.Shelf

theorem lessH_any (base P g cap : Nat) (ys : List (Int × Int)) (i j : Nat) (w : World) (h : HeapW w base P g cap ys) (hi : i < ys.length) (hj : j < ys.length) :
    Calls Try.prog 119 #[.slice (some ⟨g, 0, none⟩) ys.length cap, .int .i64 i, .int .i64 j] w fun e w' => e = .returned (.bool (mltB (mg ys i) (mg ys j))) ∧ Below w.heap.size w w' := by
  obtain ⟨x0, x1⟩ := h.cell hi
  obtain ⟨y0, y1⟩ := h.cell hj
  exact less_any g ys.length cap i j _ _ w hi hj x0 x1 y0 y1

set_option maxRecDepth 8000 in
set_option maxHeartbeats 4000000 in
theorem up_any (base P g cap j0 : Nat) (ys0 : List (Int × Int)) (w : World) (h0 : HeapW w base P g cap ys0) (hn : ys0.length ≤ 1048576) (hj0 : j0 < ys0.length) (hu : UpI ys0 ys0.length j0) :
    Calls Try.prog 71 #[.iface 54 (.pointer (some ⟨P, 0, none⟩)), .int .i64 j0] w fun e w' => e = .returned (.tuple #[]) ∧ ∃ ys, HeapW w' base P g cap ys ∧ ys.Perm ys0 ∧ IsHp ys ys.length ∧ Turn w w' P g g := by
  have eLess := fun args w => enters_of Try.func119 (by kernel_rfl) rfl args w
  have eSwap := fun args w => enters_of Try.func122 (by kernel_rfl) rfl args w
  go_enter Try.func71, Try.ntmps71
  go_wp2
  go_loopw [1, 4] (fun s i wr => ∃ (j : Nat) (ys : List (Int × Int)), s = .int .i64 j ∧ j < ys0.length ∧ Hid (HeapW wr base P g cap ys) ∧ Hid (ys.Perm ys0) ∧ Hid (UpI ys ys0.length j) ∧ Hid (Turn w wr P g g)) (fun s _ _ => (intOf s).toNat)
  case atStart => exact ⟨j0, ys0, rfl, hj0, h0, List.Perm.refl _, hu, Turn.refl _ _ _⟩
  case round =>
    obtain ⟨j, ys, rfl, hj, HH, HP, HU, HT⟩ := hrel
    by_cases hz : j = 0
    · subst hz
      go_wp2
      go_end0
      exact ⟨rfl, ys, HH.out, HP.out, by rw [HP.out.length_eq]; exact HU.out.stop (Or.inl rfl), HT.out⟩
    · have hl : ys.length = ys0.length := HP.out.length_eq
      obtain ⟨p, hp⟩ : ∃ p : Nat, p = (j - 1) / 2 := ⟨_, rfl⟩
      have hq : ((j : Int) - 1).tdiv 2 = (p : Int) := by rw [Int.tdiv_eq_ediv_of_nonneg (by omega)]; omega
      have hpj : p < j := by omega
      have HPE : Hid (p = (j - 1) / 2) := hp
      clear hp
      have hne : ((p : Int) == (j : Int)) = false := by simp; omega
      have KP := cell_of_one HH.out.box
      have mL := mLess KP
      have nL := nLess P wr
      have CL := lessH_any base P g cap ys j p wr HH.out (by omega) (by omega)
      clear KP
      rw [hl] at mL CL
      have HL : Hid (ys.length = ys0.length) := hl
      clear hl
      cases hb : mltB (mg ys j) (mg ys p) with
      | true =>
        rw [hb] at CL
        have HU2 : Hid (UpI (sw ys p j) ys0.length p) := HU.out.step (by have := HL.out; omega) hj (by omega) HPE.out (mltB_iff.1 hb)
        go_wp2_with (first
          | (go_at_call 119; refine CL.mono ?_; rintro e w1 ⟨rfl, hb1⟩
             have H1 := HH.out.below hb1
             have KP1 := cell_of_one H1.box
             have mS := mSwap KP1
             have nS := nSwap P w1
             have CS := swapH_any base P g cap ys p j w1 H1 (by have := HL.out; omega) (by have := HL.out; omega)
             rw [HL.out] at mS CS
             have HT1 : Hid (Turn w w1 P g g) := HT.out.trans (Turn.of hb1)
             clear KP1 H1 CL mL nL)
          | (go_at_call 122; refine CS.mono ?_; rintro e w2 ⟨rfl, H2, T2⟩))
        have HT2 : Hid (Turn w w2 P g g) := HT1.out.trans T2
        have HH2 : Hid _ := H2
        have HP2 : Hid ((sw ys p j).Perm ys0) := (sw_perm (by have := HL.out; omega) (by have := HL.out; omega)).trans HP.out
        clear H2 T2
        go_roundw
        case rel => exact ⟨p, sw ys p j, rfl, by omega, HH2, HP2, HU2, HT2⟩
        case measure => simp [intOf]; omega
      | false =>
        rw [hb] at CL
        have HS : Hid (IsHp ys ys0.length) := HU.out.stop (Or.inr (fun h => by have := mltB_iff.2 h; rw [← HPE.out, hb] at this; cases this))
        go_wp2_with (first
          | (go_at_call 119; refine CL.mono ?_; rintro e w1 ⟨rfl, hb1⟩))
        go_end0
        exact ⟨rfl, ys, HH.out.below hb1, HP.out, by rw [HL.out]; exact HS.out, HT.out.trans (Turn.of hb1)⟩

end Go.Proofs.Ytbnocnadlleibaa

/- The library's down. -/
namespace Go.Proofs.Ytbnocnadlleibaa
open Go.RowKit Go.Sort Go.Shelf

set_option maxRecDepth 8000 in
set_option maxHeartbeats 8000000 in
theorem down_any (base P g cap n : Nat) (ys0 : List (Int × Int)) (w : World) (h0 : HeapW w base P g cap ys0) (hn : ys0.length ≤ 1048576) (hn0 : n ≤ ys0.length) (hd : DnI ys0 n 0) :
    Calls Try.prog 72 #[.iface 54 (.pointer (some ⟨P, 0, none⟩)), .int .i64 0, .int .i64 n] w fun e w' => ∃ b ys, e = .returned (.bool b) ∧ HeapW w' base P g cap ys ∧ ys.Perm ys0 ∧ IsHp ys n ∧ (∀ k, n ≤ k → mg ys k = mg ys0 k) ∧ Turn w w' P g g := by
  have eLess := fun args w => enters_of Try.func119 (by kernel_rfl) rfl args w
  have eSwap := fun args w => enters_of Try.func122 (by kernel_rfl) rfl args w
  go_enter Try.func72, Try.ntmps72
  go_wp2
  go_loopw [7, 8, 9, 10] (fun s _ _ _ wr => ∃ (i : Nat) (ys : List (Int × Int)), s = .int .i64 i ∧ (i < n ∨ i = 0) ∧ Hid (HeapW wr base P g cap ys) ∧ Hid (ys.Perm ys0) ∧ Hid (DnI ys n i) ∧ Hid (∀ k, n ≤ k → mg ys k = mg ys0 k) ∧ Hid (Turn w wr P g g)) (fun s _ _ _ _ => n - (intOf s).toNat)
  case atStart => exact ⟨0, ys0, rfl, Or.inr rfl, h0, List.Perm.refl _, hd, fun _ _ => rfl, Turn.refl _ _ _⟩
  case round =>
    obtain ⟨i, ys, rfl, hi, HH, HP, HD, HK, HT⟩ := hrel
    have HL : Hid (ys.length = ys0.length) := HP.out.length_eq
    by_cases c1 : 2 * i + 1 < n
    · have c1' : ¬ ((n : Int) ≤ 2 * (i : Int) + 1) := by omega
      have c1'' : ¬ (2 * (i : Int) + 1 < 0) := by omega
      have KP := cell_of_one HH.out.box
      have mL := mLess KP
      have nL := nLess P wr
      rw [HL.out] at mL
      by_cases c2 : 2 * i + 2 < n
      · have c2' : 2 * (i : Int) + 1 + 1 < (n : Int) := by omega
        have C2 : Calls Try.prog 119 #[.slice (some ⟨g, 0, none⟩) ys0.length cap, .int .i64 (2 * (i : Int) + 1 + 1), .int .i64 (2 * (i : Int) + 1)] wr fun e w' => e = .returned (.bool (mltB (mg ys (2 * i + 2)) (mg ys (2 * i + 1)))) ∧ Below wr.heap.size wr w' := by
          have := lessH_any base P g cap ys (2 * i + 2) (2 * i + 1) wr HH.out (by have := HL.out; omega) (by have := HL.out; omega)
          rw [HL.out, show 2 * i + 2 = 2 * i + 1 + 1 by omega] at this
          push_cast at this; exact this
        cases hb2 : mltB (mg ys (2 * i + 2)) (mg ys (2 * i + 1)) with
        | true =>
          rw [hb2] at C2
          clear KP
          go_wp2_with (go_at_call 119; refine C2.mono ?_; rintro e w1 ⟨rfl, hb1⟩; have H1 := HH.out.below hb1; have KP1 := cell_of_one H1.box; have mL1 := mLess KP1; have nL1 := nLess P w1; rw [HL.out] at mL1; have Hw : Hid _ := H1; have Tw : Hid (Turn w w1 P g g) := HT.out.trans (Turn.of hb1); clear H1 KP1 C2)
          clear mL nL
          have HKid : Hid (Kid ys n i (2 * i + 1 + 1)) := Kid.right c2 (mltB_iff.1 hb2)
          have CL : Calls Try.prog 119 #[.slice (some ⟨g, 0, none⟩) ys0.length cap, .int .i64 (2 * (i : Int) + 1 + 1), .int .i64 i] w1 fun e w' => e = .returned (.bool (mltB (mg ys (2 * i + 1 + 1)) (mg ys i))) ∧ Below w1.heap.size w1 w' := by
            have := lessH_any base P g cap ys (2 * i + 1 + 1) i w1 Hw.out (by have := HL.out; omega) (by have := HL.out; omega)
            rw [HL.out] at this; push_cast at this; exact this
          cases hb : mltB (mg ys (2 * i + 1 + 1)) (mg ys i) with
          | true =>
            rw [hb] at CL
            have HD2 : Hid (DnI (sw ys i (2 * i + 1 + 1)) n (2 * i + 1 + 1)) := HD.out.step (by have := HL.out; omega) HKid.out (mltB_iff.1 hb)
            have HK2 : Hid (∀ k, n ≤ k → mg (sw ys i (2 * i + 1 + 1)) k = mg ys0 k) := fun k hk => (sw_o (by omega) (by omega)).trans (HK.out k hk)
            have HP2 : Hid ((sw ys i (2 * i + 1 + 1)).Perm ys0) := (sw_perm (by have := HL.out; omega) (by have := HL.out; omega)).trans HP.out
            go_wp2_with (first
              | (go_at_call 119; refine CL.mono ?_; rintro e w3 ⟨rfl, hb3⟩
                 have H3 := Hw.out.below hb3
                 have KP3 := cell_of_one H3.box
                 have mS := mSwap KP3
                 have nS := nSwap P w3
                 have CS := swapH_any base P g cap ys i (2 * i + 1 + 1) w3 H3 (by have := HL.out; omega) (by have := HL.out; omega)
                 rw [HL.out] at mS CS
                 push_cast at CS
                 have HT3 : Hid (Turn w w3 P g g) := Tw.out.trans (Turn.of hb3)
                 clear KP3 H3 CL mL1 nL1)
              | (go_at_call 122; refine CS.mono ?_; rintro e w4 ⟨rfl, H4, T4⟩))
            have HT4 : Hid (Turn w w4 P g g) := HT3.out.trans T4
            have HH4 : Hid _ := H4
            clear H4 T4
            go_roundw
            case rel => exact ⟨2 * i + 1 + 1, sw ys i (2 * i + 1 + 1), by go_num, by omega, HH4, HP2, HD2, HK2, HT4⟩
            case measure => simp [intOf]; omega
          | false =>
            rw [hb] at CL
            have HS : Hid (IsHp ys n) := HD.out.stop HKid.out (fun h => by have := mltB_iff.2 h; rw [hb] at this; cases this)
            go_wp2_with (first
              | (go_at_call 119; refine CL.mono ?_; rintro e w3 ⟨rfl, hb3⟩))
            go_ret
            exact ⟨_, ys, rfl, Hw.out.below hb3, HP.out, HS.out, HK.out, Tw.out.trans (Turn.of hb3)⟩
        | false =>
          rw [hb2] at C2
          clear KP
          go_wp2_with (go_at_call 119; refine C2.mono ?_; rintro e w1 ⟨rfl, hb1⟩; have H1 := HH.out.below hb1; have KP1 := cell_of_one H1.box; have mL1 := mLess KP1; have nL1 := nLess P w1; rw [HL.out] at mL1; have Hw : Hid _ := H1; have Tw : Hid (Turn w w1 P g g) := HT.out.trans (Turn.of hb1); clear H1 KP1 C2)
          clear mL nL
          have HKid : Hid (Kid ys n i (2 * i + 1)) := Kid.left c2 (fun h => by have := mltB_iff.2 h; rw [hb2] at this; cases this)
          have CL : Calls Try.prog 119 #[.slice (some ⟨g, 0, none⟩) ys0.length cap, .int .i64 (2 * (i : Int) + 1), .int .i64 i] w1 fun e w' => e = .returned (.bool (mltB (mg ys (2 * i + 1)) (mg ys i))) ∧ Below w1.heap.size w1 w' := by
            have := lessH_any base P g cap ys (2 * i + 1) i w1 Hw.out (by have := HL.out; omega) (by have := HL.out; omega)
            rw [HL.out] at this; push_cast at this; exact this
          cases hb : mltB (mg ys (2 * i + 1)) (mg ys i) with
          | true =>
            rw [hb] at CL
            have HD2 : Hid (DnI (sw ys i (2 * i + 1)) n (2 * i + 1)) := HD.out.step (by have := HL.out; omega) HKid.out (mltB_iff.1 hb)
            have HK2 : Hid (∀ k, n ≤ k → mg (sw ys i (2 * i + 1)) k = mg ys0 k) := fun k hk => (sw_o (by omega) (by omega)).trans (HK.out k hk)
            have HP2 : Hid ((sw ys i (2 * i + 1)).Perm ys0) := (sw_perm (by have := HL.out; omega) (by have := HL.out; omega)).trans HP.out
            go_wp2_with (first
              | (go_at_call 119; refine CL.mono ?_; rintro e w3 ⟨rfl, hb3⟩
                 have H3 := Hw.out.below hb3
                 have KP3 := cell_of_one H3.box
                 have mS := mSwap KP3
                 have nS := nSwap P w3
                 have CS := swapH_any base P g cap ys i (2 * i + 1) w3 H3 (by have := HL.out; omega) (by have := HL.out; omega)
                 rw [HL.out] at mS CS
                 push_cast at CS
                 have HT3 : Hid (Turn w w3 P g g) := Tw.out.trans (Turn.of hb3)
                 clear KP3 H3 CL mL1 nL1)
              | (go_at_call 122; refine CS.mono ?_; rintro e w4 ⟨rfl, H4, T4⟩))
            have HT4 : Hid (Turn w w4 P g g) := HT3.out.trans T4
            have HH4 : Hid _ := H4
            clear H4 T4
            go_roundw
            case rel => exact ⟨2 * i + 1, sw ys i (2 * i + 1), by go_num, by omega, HH4, HP2, HD2, HK2, HT4⟩
            case measure => simp [intOf]; omega
          | false =>
            rw [hb] at CL
            have HS : Hid (IsHp ys n) := HD.out.stop HKid.out (fun h => by have := mltB_iff.2 h; rw [hb] at this; cases this)
            go_wp2_with (first
              | (go_at_call 119; refine CL.mono ?_; rintro e w3 ⟨rfl, hb3⟩))
            go_ret
            exact ⟨_, ys, rfl, Hw.out.below hb3, HP.out, HS.out, HK.out, Tw.out.trans (Turn.of hb3)⟩
      · have c2' : ¬ (2 * (i : Int) + 1 + 1 < (n : Int)) := by omega
        have Hw : Hid _ := HH.out
        have Tw : Hid _ := HT.out
        clear KP
        have HKid : Hid (Kid ys n i (2 * i + 1)) := Kid.one c1 c2
        have CL : Calls Try.prog 119 #[.slice (some ⟨g, 0, none⟩) ys0.length cap, .int .i64 (2 * (i : Int) + 1), .int .i64 i] wr fun e w' => e = .returned (.bool (mltB (mg ys (2 * i + 1)) (mg ys i))) ∧ Below wr.heap.size wr w' := by
          have := lessH_any base P g cap ys (2 * i + 1) i wr Hw.out (by have := HL.out; omega) (by have := HL.out; omega)
          rw [HL.out] at this; push_cast at this; exact this
        cases hb : mltB (mg ys (2 * i + 1)) (mg ys i) with
        | true =>
          rw [hb] at CL
          have HD2 : Hid (DnI (sw ys i (2 * i + 1)) n (2 * i + 1)) := HD.out.step (by have := HL.out; omega) HKid.out (mltB_iff.1 hb)
          have HK2 : Hid (∀ k, n ≤ k → mg (sw ys i (2 * i + 1)) k = mg ys0 k) := fun k hk => (sw_o (by omega) (by omega)).trans (HK.out k hk)
          have HP2 : Hid ((sw ys i (2 * i + 1)).Perm ys0) := (sw_perm (by have := HL.out; omega) (by have := HL.out; omega)).trans HP.out
          go_wp2_with (first
            | (go_at_call 119; refine CL.mono ?_; rintro e w3 ⟨rfl, hb3⟩
               have H3 := Hw.out.below hb3
               have KP3 := cell_of_one H3.box
               have mS := mSwap KP3
               have nS := nSwap P w3
               have CS := swapH_any base P g cap ys i (2 * i + 1) w3 H3 (by have := HL.out; omega) (by have := HL.out; omega)
               rw [HL.out] at mS CS
               push_cast at CS
               have HT3 : Hid (Turn w w3 P g g) := Tw.out.trans (Turn.of hb3)
               clear KP3 H3 CL mL nL)
            | (go_at_call 122; refine CS.mono ?_; rintro e w4 ⟨rfl, H4, T4⟩))
          have HT4 : Hid (Turn w w4 P g g) := HT3.out.trans T4
          have HH4 : Hid _ := H4
          clear H4 T4
          go_roundw
          case rel => exact ⟨2 * i + 1, sw ys i (2 * i + 1), by go_num, by omega, HH4, HP2, HD2, HK2, HT4⟩
          case measure => simp [intOf]; omega
        | false =>
          rw [hb] at CL
          have HS : Hid (IsHp ys n) := HD.out.stop HKid.out (fun h => by have := mltB_iff.2 h; rw [hb] at this; cases this)
          go_wp2_with (first
            | (go_at_call 119; refine CL.mono ?_; rintro e w3 ⟨rfl, hb3⟩))
          go_ret
          exact ⟨_, ys, rfl, Hw.out.below hb3, HP.out, HS.out, HK.out, Tw.out.trans (Turn.of hb3)⟩
    · have c1' : (n : Int) ≤ 2 * (i : Int) + 1 := by omega
      have HS : Hid (IsHp ys n) := HD.out.leaf c1
      go_wp2
      go_ret
      exact ⟨_, ys, rfl, HH.out, HP.out, HS.out, HK.out, HT.out⟩

end Go.Proofs.Ytbnocnadlleibaa

/- The library's Push and Pop over the program's heap. -/
namespace Go.Proofs.Ytbnocnadlleibaa
open Go.RowKit Go.Sort Go.Shelf

theorem HeapW.caps {w : World} {base P g cap : Nat} {ys : List (Int × Int)} (h : HeapW w base P g cap ys) : ys.length ≤ cap ∧ cap ≤ maxLen := by
  rcases h.own.2 with ⟨e, _⟩ | ⟨g', c', cur, e, h1, h2, h3, h4, _⟩
  · cases e
  · injection e with e1 _ e3
    subst e3
    exact ⟨h3, h4⟩

set_option maxRecDepth 8000 in
set_option maxHeartbeats 4000000 in
theorem heapPush_any (base P g cap : Nat) (ys : List (Int × Int)) (x : Int × Int) (w : World) (h : HeapW w base P g cap ys) (hb : base ≤ w.heap.size) (hn : ys.length < 1048576) (hh : IsHp ys ys.length) :
    Calls Try.prog 61 #[.iface 54 (.pointer (some ⟨P, 0, none⟩)), .iface 78 (.agg #[.int .i64 x.1, .int .i64 x.2])] w fun e w' => e = .returned (.tuple #[]) ∧ ∃ g' cap' zs, HeapW w' base P g' cap' zs ∧ zs.Perm (x :: ys) ∧ IsHp zs zs.length ∧ Turn w w' P g g' := by
  have ePush := fun args w => enters_of Try.func121 (by kernel_rfl) rfl args w
  have eLen := fun args w => enters_of Try.func118 (by kernel_rfl) rfl args w
  have mP := mPush P
  have nP := nPush P
  have nL := nLen P
  have CP := pushM_any base P g cap ys x w h hb (by omega)
  have HU : Hid (UpI (ys ++ [x]) (ys.length + 1) ys.length) := hh.push
  have hl : (ys ++ [x]).length = ys.length + 1 := by simp
  have HL : Hid _ := hl
  clear hl
  go_enter Try.func61, Try.ntmps61
  go_wp2_with (first
    | (go_at_call 121; refine CP.mono ?_; rintro e w1 ⟨rfl, g1, c1, H1, T1⟩
       have KP1 := cell_of_one H1.box
       have mL := mLen KP1
       rw [HL.out] at mL
       have HH1 : Hid _ := H1
       have HT1 : Hid _ := T1
       clear KP1 H1 T1 CP)
    | (go_at_call 118; refine (mLen_any _ _ _ _).mono ?_; rintro e w2 ⟨rfl, rfl⟩)
    | (go_at_call 71; refine (up_any base P g1 c1 ys.length (ys ++ [x]) _ HH1.out (by rw [HL.out]; omega) (by rw [HL.out]; omega) (by rw [HL.out]; exact HU.out)).mono ?_; rintro e w3 ⟨rfl, zs, H3, hp, hs, T3⟩))
  go_end0
  exact ⟨rfl, g1, c1, zs, H3, hp.trans (List.perm_append_singleton _ _), hs, HT1.out.trans T3⟩

set_option maxRecDepth 8000 in
set_option maxHeartbeats 4000000 in
theorem heapPop_any (base P g cap n : Nat) (ys : List (Int × Int)) (w : World) (h : HeapW w base P g cap ys) (hn : ys.length = n + 1) (hn1 : n < 1048576) (hh : IsHp ys ys.length) :
    Calls Try.prog 62 #[.iface 54 (.pointer (some ⟨P, 0, none⟩))] w fun e w' => e = .returned (.iface 78 (.agg #[.int .i64 (mg ys 0).1, .int .i64 (mg ys 0).2])) ∧ ∃ zs, HeapW w' base P g cap zs ∧ (mg ys 0 :: zs).Perm ys ∧ IsHp zs zs.length ∧ Turn w w' P g g := by
  have ePop := fun args w => enters_of Try.func120 (by kernel_rfl) rfl args w
  have eLen := fun args w => enters_of Try.func118 (by kernel_rfl) rfl args w
  have eSwap := fun args w => enters_of Try.func122 (by kernel_rfl) rfl args w
  have mP := mPop P
  have nP := nPop P
  have nL := nLen P
  have nS := nSwap P
  obtain ⟨hc0, hc1⟩ := h.caps
  have KP := cell_of_one h.box
  rw [hn] at KP
  have mL := mLen KP
  have mS := mSwap KP
  have CS := swapH_any base P g cap ys 0 n w h (by omega) (by omega)
  rw [hn] at CS
  have HD : Hid (DnI (sw ys 0 n) n 0) := IsHp.pop (by rw [← hn]; exact hh)
  have HL : Hid (ys.length = n + 1) := hn
  have hl2 : (sw ys 0 n).length = n + 1 := by rw [sw_len]; exact hn
  have HL2 : Hid _ := hl2
  have HX : Hid (mg (sw ys 0 n) n = mg ys 0) := sw_j (by omega)
  have HPs : Hid ((sw ys 0 n).Perm ys) := sw_perm (by omega) (by omega)
  have HC : Hid (n + 1 ≤ cap) := by unfold Hid; omega
  clear hl2 KP h
  rw [hn] at hc0
  clear hn
  obtain ⟨x, hx⟩ : ∃ x, mg ys 0 = x := ⟨_, rfl⟩
  rw [hx] at HX ⊢
  go_enter Try.func62, Try.ntmps62
  go_wp2_with (first
    | (go_at_call 118; refine (mLen_any _ _ _ _).mono ?_; rintro e w2 ⟨rfl, rfl⟩)
    | (go_at_call 122; refine CS.mono ?_; rintro e w1 ⟨rfl, H1, T1⟩
       have HH1 : Hid _ := H1
       have HT1 : Hid _ := T1
       clear H1 T1 CS mL mS)
    | (go_at_call 72; refine (down_any base P g cap n (sw ys 0 n) _ HH1.out (by rw [HL2.out]; omega) (by rw [HL2.out]; omega) HD.out).mono ?_; rintro e w3 ⟨b, zs, rfl, H3, hp, hs, hk, T3⟩
       have HH3 : Hid _ := H3
       have HT3 : Hid _ := T3
       have HP3 : Hid _ := hp
       have HS3 : Hid _ := hs
       have HX3 : Hid (mg zs n = x) := (hk n (Nat.le_refl _)).trans HX.out
       clear H3 T3 hp hs hk)
    | (go_at_call 120; refine (popM_any base P g cap n zs _ HH3.out (HP3.out.length_eq.trans HL2.out) hc1 HC.out).mono ?_; rw [HX3.out]; rintro e w4 ⟨rfl, H4, T4⟩))
  go_ret
  have hzl : (zs.take n).length = n := by rw [List.length_take, HP3.out.length_eq, HL2.out]; omega
  refine ⟨rfl, zs.take n, H4, ?_, by rw [hzl]; exact IsHp.take HS3.out, (HT1.out.trans HT3.out).trans T4⟩
  have := pop_perm (ys := ys) HL.out (HP3.out.trans HPs.out)
  rwa [HX3.out] at this

end Go.Proofs.Ytbnocnadlleibaa

/- The program's give, idle and Spread. -/
namespace Go.Proofs.Ytbnocnadlleibaa
open Go.RowKit Go.Sort Go.Shelf

set_option maxRecDepth 8000 in
set_option maxHeartbeats 4000000 in
theorem give_any (base P g cap n : Nat) (long : Int) (ys : List (Int × Int)) (w : World) (h : HeapW w base P g cap ys) (hb : base ≤ w.heap.size) (hn : ys.length = n + 1) (hn1 : n < 1000) (hh : IsHp ys ys.length)
    (h0 : 0 ≤ (mg ys 0).2) (h1 : (mg ys 0).2 ≤ 1000000000) (l0 : 0 ≤ long) (l1 : long ≤ 10000) :
    Calls Try.prog 43 #[.pointer (some ⟨P, 0, none⟩), .int .i64 long] w fun e w' => e = .returned (.int .i64 (mg ys 0).1) ∧ ∃ g' cap' zs r, HeapW w' base P g' cap' zs ∧ (mg ys 0 :: r).Perm ys ∧ zs.Perm (((mg ys 0).1, (mg ys 0).2 + long) :: r) ∧ IsHp zs zs.length ∧ Turn w w' P g g' := by
  have as1 := asM
  have CP := heapPop_any base P g cap n ys w h hn (by omega) hh
  have HN : Hid (ys.length = n + 1) := hn
  have HB : Hid (base ≤ w.heap.size) := hb
  clear hn hb h
  obtain ⟨⟨x1, x2⟩, hx⟩ : ∃ x, mg ys 0 = x := ⟨_, rfl⟩
  rw [hx] at CP h0 h1 ⊢
  simp only at CP h0 h1 ⊢
  go_enter Try.func43, Try.ntmps43
  go_wp2_with (first
    | (go_at_call 62; refine CP.mono ?_; rintro e w1 ⟨rfl, r, H1, hp, hs, T1⟩
       have HH1 : Hid _ := H1
       have HT1 : Hid _ := T1
       have HP1 : Hid _ := hp
       have HS1 : Hid _ := hs
       have hz1 := H1.lt
       have bx : Below w1.heap.size w1 (w1.alloc (.cells #[.int .i64 x1, .int .i64 (x2 + long)] 78)) := (Below.refl _ _).alloc (Nat.le_refl _) _
       have hl : r.length = n := by have := hp.length_eq; rw [HN.out, List.length_cons] at this; omega
       have CQ := heapPush_any base P g cap r (x1, x2 + long) _ (H1.below bx) (by have := T1.size; have := bx.size; have := HB.out; omega) (by omega) hs
       have bF := heap_alloc_new w1 (.cells #[.int .i64 x1, .int .i64 (x2 + long)] 78)
       have HBX : Hid _ := bx
       have HBF : Hid _ := bF
       have HL : Hid _ := hl
       clear H1 T1 hp hs CP bx bF hl)
    | (go_at_call 61; refine CQ.mono ?_; rintro e w2 ⟨rfl, g2, c2, zs, H2, hp2, hs2, T2⟩
       have hF := (T2.block w1.heap.size (by simp) (by omega) (by omega)).trans HBF.out
       have cF : w2.cell? ⟨w1.heap.size, 0, none⟩ = some (.int .i64 x1) := by simp [World.cell?, hF]
       have HH2 : Hid _ := H2
       have HT2 : Hid _ := T2
       have HP2 : Hid _ := hp2
       have HS2 : Hid _ := hs2
       clear H2 T2 hp2 hs2 CQ hF))
  go_ret
  exact ⟨rfl, g2, c2, zs, r, HH2.out, HP1.out, HP2.out, HS2.out, (HT1.out.trans (Turn.of HBX.out)).trans HT2.out⟩

theorem idle_start (w : World) : HeapW ((w.alloc (.cells #[] 78)).alloc (.cells #[.slice (some ⟨w.heap.size, 0, none⟩) 0 0] 75)) w.heap.size (w.heap.size + 1) w.heap.size 0 [] := by
  have own0 : (w.alloc (.cells #[] 78)).ownsRow w.heap.size 78 2 (.slice (some ⟨w.heap.size, 0, none⟩) 0 0) 0 [] := World.ownsRow_made w #[] 0 (Nat.le_refl _) (Nat.zero_le _) rfl
  refine ⟨?_, own0.alloc _, by omega, by omega⟩
  have := heap_alloc_new (w.alloc (.cells #[] 78)) (.cells #[.slice (some ⟨w.heap.size, 0, none⟩) 0 0] 75)
  rwa [show (w.alloc (.cells #[] 78)).heap.size = w.heap.size + 1 by simp] at this

set_option maxRecDepth 8000 in
set_option maxHeartbeats 2000000 in
theorem idle_any (m : Nat) (w : World) (hm : m ≤ 10) :
    Calls Try.prog 42 #[.int .i64 m] w fun e w' => ∃ P g cap ys, e = .returned (.pointer (some ⟨P, 0, none⟩)) ∧ HeapW w' w.heap.size P g cap ys ∧ IsHp ys ys.length ∧ Macs ys (List.replicate m 0) ∧ Below w.heap.size w w' := by
  have hst := idle_start w
  have HST : Hid _ := hst
  have bx : Below w.heap.size w ((w.alloc (.cells #[] 78)).alloc (.cells #[.slice (some ⟨w.heap.size, 0, none⟩) 0 0] 75)) := box_below.alloc (by simp) _
  have HBX : Hid _ := bx
  clear hst bx
  go_enter Try.func42, Try.ntmps42
  go_wp2
  go_loopw [4, 8] (fun _ s wr => ∃ (k g cap : Nat) (ys : List (Int × Int)), k ≤ m ∧ s = .int .i64 k ∧ Hid (HeapW wr w.heap.size (w.heap.size + 1) g cap ys) ∧ Hid (IsHp ys ys.length) ∧ Hid (Macs ys (List.replicate k 0)) ∧ Hid (Below w.heap.size w wr)) (fun _ s _ => m - (intOf s).toNat)
  case atStart => exact ⟨0, _, _, [], by omega, rfl, HST.out, (fun c _ h => absurd h (by simp)), Macs.nil, HBX.out⟩
  case round =>
    obtain ⟨k, g, cap, ys, hk, rfl, HH, HS, HM, HB⟩ := hrel
    by_cases hlt : k < m
    · have hlt' : (k : Int) < (m : Int) := by omega
      have hl : ys.length = k := by have := HM.out.len; simpa using this
      have CQ := heapPush_any w.heap.size (w.heap.size + 1) g cap ys ((k : Int), 0) wr HH.out HB.out.size (by omega) HS.out
      have HL : Hid _ := hl
      clear hl
      go_wp2_with (go_at_call 61; refine CQ.mono ?_; rintro e w2 ⟨rfl, g2, c2, zs, H2, hp2, hs2, T2⟩)
      have HB2 : Hid (Below w.heap.size w w2) := HB.out.trans (T2.below (by omega) HH.out.lt.1 HB.out.size)
      have HM2 : Hid (Macs zs (List.replicate (k + 1) 0)) := HM.out.more hp2
      have HH2 : Hid _ := H2
      have HS2 : Hid _ := hs2
      clear H2 hp2 hs2 T2 CQ
      go_roundw
      case rel => exact ⟨k + 1, g2, c2, zs, by omega, by go_num, HH2, HS2, HM2, HB2⟩
      case measure => simp [intOf]; omega
    · have e : k = m := by omega
      subst e
      go_wp2
      go_ret
      exact ⟨_, g, cap, ys, rfl, HH.out, HS.out, HM.out, HB.out⟩

end Go.Proofs.Ytbnocnadlleibaa
