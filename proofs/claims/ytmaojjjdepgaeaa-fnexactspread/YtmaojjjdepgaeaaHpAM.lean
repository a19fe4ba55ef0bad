/- The program's heap of machines: how it lies, what becomes of it, how its methods are found. -/
import Derived.Test.YtmaojjjdepgaeaaHeapMath
import Derived.Test.YtmaojjjdepgaeaaCmp
import Derived.Test.YtmaojjjdepgaeaaStepApp
import Derived.Test.YtmaojjjdepgaeaaInts
namespace Go.Proofs.Ytmaojjjdepgaeaa
open Go.RowKit Go.Sort

/-- one of them as it lies -/
def ml (y : (Int × Int)) : List Value := [.int .i64 y.1, .int .i64 y.2]
def mcells (ys : List (Int × Int)) : List Value := ys.flatMap ml

theorem mcells_len (ys : List (Int × Int)) : (mcells ys).length = ys.length * 2 := by
  induction ys with
  | nil => rfl
  | cons y r ih => unfold mcells at *; rw [List.flatMap_cons, List.length_append, ih, List.length_cons]; simp [ml]; omega
theorem mcells_app (a b : List (Int × Int)) : mcells (a ++ b) = mcells a ++ mcells b := by simp [mcells]
theorem mcells_cons (y : (Int × Int)) (r : List (Int × Int)) : mcells (y :: r) = ml y ++ mcells r := by simp [mcells]
theorem ml_len (y : (Int × Int)) : (ml y).length = 2 := rfl
theorem mcells_at : ∀ (ys : List (Int × Int)) (i : Nat), i < ys.length → ∀ c, c < 2 → (mcells ys)[i * 2 + c]? = (ml (mg ys i))[c]?
  | [], _, h, _, _ => absurd h (by simp)
  | y :: r, 0, _, c, hc => by
    rw [mcells_cons, Nat.zero_mul, Nat.zero_add, List.getElem?_append_left (by rw [ml_len]; exact hc)]; rfl
  | y :: r, i + 1, h, c, hc => by
    have := mcells_at r i (by simpa using h) c hc
    rw [mcells_cons, show (i + 1) * 2 + c = 2 + (i * 2 + c) by omega, List.getElem?_append_right (by rw [ml_len]; omega), ml_len, Nat.add_sub_cancel_left, this]; rfl
theorem ml_set (y : (Int × Int)) (L : List Value) (n : Nat) (v : Value) : (ml y ++ L).set (2 + n) v = ml y ++ L.set n v := by
  rw [List.set_append_right _ _ (by rw [ml_len]; omega), ml_len, Nat.add_sub_cancel_left]
theorem mcells_set : ∀ (ys : List (Int × Int)) (i : Nat) (x : (Int × Int)), i < ys.length → mcells (ys.set i x) = ((mcells ys).set (i * 2) (.int .i64 x.1)).set (i * 2 + 1) (.int .i64 x.2)
  | [], _, _, h => absurd h (by simp)
  | y :: r, 0, x, _ => by rw [List.set_cons_zero, mcells_cons, mcells_cons]; first | rfl | simp [ml]
  | y :: r, i + 1, x, h => by
    have ih := mcells_set r i x (by simpa using h)
    rw [List.set_cons_succ, mcells_cons, mcells_cons, ih, show (i + 1) * 2 = 2 + i * 2 by omega]
    simp only [Nat.add_assoc, ml_set]

/-- block P is the heap's box, a its row: ys; bo and bn hold what tells who is first -/
structure HpW (w : World) (base P bo bn : Nat) (a : Option Addr) (cap : Nat) (ys : List (Int × Int)) : Prop where
  box : w.heap[P]? = some (.cells #[.func (.func 112) #[] #[.pointer (some ⟨bo, 0, none⟩), .pointer (some ⟨bn, 0, none⟩)], .slice a ys.length cap] 108 (0, 0))
  own : w.ownsRow base 105 2 (.slice a ys.length cap) ys.length (mcells ys)
  ne : ∀ g, a = some ⟨g, 0, none⟩ → P ≠ g
  ge : base ≤ P
  lo : bo < base ∧ bn < base
  o0 : w.cell? ⟨bo, 0, none⟩ = some (.func (.func 93) #[] #[])
  n0 : w.cell? ⟨bn, 0, none⟩ = some (.func (.func 95) #[] #[])

theorem HpW.cell {w : World} {base P bo bn g cap : Nat} {ys : List (Int × Int)} (h : HpW w base P bo bn (some ⟨g, 0, none⟩) cap ys) {i : Nat} (hi : i < ys.length) :
    w.cell? ⟨g, i * 2, none⟩ = some (.int .i64 (mg ys i).1) ∧ w.cell? ⟨g, i * 2 + 1, none⟩ = some (.int .i64 (mg ys i).2) := by
  have H : ∀ c, c < 2 → w.cell? ⟨g, i * 2 + c, none⟩ = (ml (mg ys i))[c]? := fun c hc => (h.own.cellAt _ (by omega)).trans (mcells_at ys i hi c hc)
  exact ⟨H 0 (by omega), H 1 (by omega)⟩
theorem HpW.free {w : World} {base P bo bn g cap : Nat} {ys : List (Int × Int)} (h : HpW w base P bo bn (some ⟨g, 0, none⟩) cap ys) (j : Nat) : w.frozen? ⟨g, j, none⟩ = false := h.own.frozenAt j
theorem HpW.ltP {w : World} {base P bo bn cap : Nat} {a : Option Addr} {ys : List (Int × Int)} (h : HpW w base P bo bn a cap ys) : P < w.heap.size := lt_of_block h.box
theorem HpW.ltg {w : World} {base P bo bn cap g : Nat} {ys : List (Int × Int)} (h : HpW w base P bo bn (some ⟨g, 0, none⟩) cap ys) : base ≤ g ∧ g < w.heap.size := h.own.lt g rfl
theorem HpW.p0 {w : World} {base P bo bn cap : Nat} {a : Option Addr} {ys : List (Int × Int)} (h : HpW w base P bo bn a cap ys) : w.cell? ⟨P, 0, none⟩ = some (.func (.func 112) #[] #[.pointer (some ⟨bo, 0, none⟩), .pointer (some ⟨bn, 0, none⟩)]) := by simp [World.cell?, h.box]
theorem HpW.p1 {w : World} {base P bo bn cap : Nat} {a : Option Addr} {ys : List (Int × Int)} (h : HpW w base P bo bn a cap ys) : w.cell? ⟨P, 1, none⟩ = some (.slice a ys.length cap) := by simp [World.cell?, h.box]
theorem HpW.keep {w w' : World} {base P bo bn cap : Nat} {a : Option Addr} {ys : List (Int × Int)} (h : HpW w base P bo bn a cap ys) (h1 : w'.heap[P]? = w.heap[P]?) (h2 : ∀ g, a = some ⟨g, 0, none⟩ → w'.heap[g]? = w.heap[g]?) (h3 : ∀ k, k < base → w'.heap[k]? = w.heap[k]?) : HpW w' base P bo bn a cap ys := by
  refine ⟨h1.trans h.box, ⟨h.own.1, ?_⟩, h.ne, h.ge, h.lo, (World.cell?_of_block (a := ⟨bo, 0, none⟩) (h3 bo h.lo.1)).trans h.o0, (World.cell?_of_block (a := ⟨bn, 0, none⟩) (h3 bn h.lo.2)).trans h.n0⟩
  rcases h.own.2 with hh | ⟨g', cap', cur, e, hb, hg, r⟩
  · exact .inl hh
  · have e' := e
    injection e with e1 _ e3
    exact .inr ⟨g', cap', cur, e', hb, (h2 g' e1).trans hg, r⟩
theorem HpW.below {w w' : World} {base P bo bn cap : Nat} {a : Option Addr} {ys : List (Int × Int)} (h : HpW w base P bo bn a cap ys) (hb : Below w.heap.size w w') : HpW w' base P bo bn a cap ys :=
  h.keep (hb.block P h.ltP) (fun g e => by subst e; exact hb.block g h.ltg.2) (fun k hk => hb.block k (by have := h.ltP; have := h.ge; omega))
theorem HpW.caps {w : World} {base P bo bn cap : Nat} {a : Option Addr} {ys : List (Int × Int)} (h : HpW w base P bo bn a cap ys) (h0 : 0 < ys.length) : ys.length ≤ cap ∧ cap ≤ maxLen := by
  rcases h.own.2 with ⟨_, e⟩ | ⟨g', c', cur, e, h1, h2, h3, h4, _⟩
  · omega
  · injection e with e1 _ e3
    subst e3
    exact ⟨h3, h4⟩
theorem HpW.form {w : World} {base P bo bn cap : Nat} {a : Option Addr} {ys : List (Int × Int)} (h : HpW w base P bo bn a cap ys) : a = none ∨ ∃ g, a = some ⟨g, 0, none⟩ := by
  rcases h.own.2 with ⟨e, _⟩ | ⟨g', c', cur, e, _⟩
  · injection e with e1 _ _; exact Or.inl e1
  · injection e with e1 _ _; exact Or.inr ⟨g', e1⟩

/-- what becomes of the heap: of the old blocks only the box and the row may turn, the row is the old one or new -/
structure Turn (w w' : World) (P : Nat) (a a' : Option Addr) : Prop where
  os : w'.os = w.os
  tape : w'.tape = w.tape
  output : w'.output = w.output
  size : w.heap.size ≤ w'.heap.size
  block : ∀ k, k < w.heap.size → k ≠ P → (∀ g, a = some ⟨g, 0, none⟩ → k ≠ g) → w'.heap[k]? = w.heap[k]?
  row : a' = a ∨ ∃ g', a' = some ⟨g', 0, none⟩ ∧ w.heap.size ≤ g'

theorem Turn.refl (w : World) (P : Nat) (a : Option Addr) : Turn w w P a a := ⟨rfl, rfl, rfl, Nat.le_refl _, fun _ _ _ _ => rfl, Or.inl rfl⟩
theorem Turn.trans {a b c : World} {P : Nat} {r r' r'' : Option Addr} (h : Turn a b P r r') (k : Turn b c P r' r'') : Turn a c P r r'' :=
  ⟨k.os.trans h.os, k.tape.trans h.tape, k.output.trans h.output, Nat.le_trans h.size k.size, fun i hi h1 h2 => (k.block i (Nat.lt_of_lt_of_le hi h.size) h1 (fun g e => by
    rcases h.row with e1 | ⟨g', e1, hg⟩
    · exact h2 g (e1 ▸ e)
    · rw [e1] at e; injection e with e; injection e with e _ _; omega)).trans (h.block i hi h1 h2), by
    rcases k.row with e2 | ⟨g2, e2, hg2⟩
    · rcases h.row with e1 | ⟨g', e1, hg⟩
      · exact Or.inl (e2.trans e1)
      · exact Or.inr ⟨g', e2.trans e1, hg⟩
    · exact Or.inr ⟨g2, e2, Nat.le_trans h.size hg2⟩⟩
theorem Turn.of {a b : World} {P : Nat} {r : Option Addr} (h : Below a.heap.size a b) : Turn a b P r r := ⟨h.os, h.tape, h.output, h.size, fun k hk _ _ => h.block k hk, Or.inl rfl⟩
theorem Turn.ofRow {a b : World} {P g : Nat} (h : a.grownBy b (some g)) : Turn a b P (some ⟨g, 0, none⟩) (some ⟨g, 0, none⟩) := ⟨h.os, h.tape, h.output, h.size, fun k hk _ hg => h.block k hk (by simpa using hg g rfl), Or.inl rfl⟩
theorem Turn.below {a b : World} {P base : Nat} {r r' : Option Addr} (h : Turn a b P r r') (hP : base ≤ P) (hg : ∀ g, r = some ⟨g, 0, none⟩ → base ≤ g) (hs : base ≤ a.heap.size) : Below base a b :=
  ⟨h.os, h.tape, h.output, h.size, fun k hk => h.block k (by omega) (by omega) (fun g e => by have := hg g e; omega)⟩
theorem HpW.geg {w : World} {base P bo bn cap : Nat} {a : Option Addr} {ys : List (Int × Int)} (h : HpW w base P bo bn a cap ys) : ∀ g, a = some ⟨g, 0, none⟩ → base ≤ g := fun g e => by subst e; exact h.ltg.1
theorem HpW.turnB {w w' : World} {base P bo bn cap : Nat} {a a' : Option Addr} {ys : List (Int × Int)} (h : HpW w base P bo bn a cap ys) (t : Turn w w' P a a') : Below base w w' := t.below h.ge h.geg (by have := h.ltP; have := h.ge; omega)

/-! ### how the methods are found -/
theorem mLen (P : Nat) (w : World) : (method 270 67 (.pointer (some ⟨P, 0, none⟩)) "Len").run Try.prog w = .ok (152, .pointer (some ⟨P, 0, none⟩)) w := by kernel_rfl
theorem nLen (P : Nat) (w : World) : (nilAhead 270 67 (.pointer (some ⟨P, 0, none⟩)) "Len").run Try.prog w = .ok (some false) w := by kernel_rfl
theorem mLess (P : Nat) (w : World) : (method 270 67 (.pointer (some ⟨P, 0, none⟩)) "Less").run Try.prog w = .ok (153, .pointer (some ⟨P, 0, none⟩)) w := by kernel_rfl
theorem nLess (P : Nat) (w : World) : (nilAhead 270 67 (.pointer (some ⟨P, 0, none⟩)) "Less").run Try.prog w = .ok (some false) w := by kernel_rfl
theorem mSwap (P : Nat) (w : World) : (method 270 67 (.pointer (some ⟨P, 0, none⟩)) "Swap").run Try.prog w = .ok (156, .pointer (some ⟨P, 0, none⟩)) w := by kernel_rfl
theorem nSwap (P : Nat) (w : World) : (nilAhead 270 67 (.pointer (some ⟨P, 0, none⟩)) "Swap").run Try.prog w = .ok (some false) w := by kernel_rfl
theorem mPush (P : Nat) (w : World) : (method 270 67 (.pointer (some ⟨P, 0, none⟩)) "Push").run Try.prog w = .ok (155, .pointer (some ⟨P, 0, none⟩)) w := by kernel_rfl
theorem nPush (P : Nat) (w : World) : (nilAhead 270 67 (.pointer (some ⟨P, 0, none⟩)) "Push").run Try.prog w = .ok (some false) w := by kernel_rfl
theorem mPop (P : Nat) (w : World) : (method 270 67 (.pointer (some ⟨P, 0, none⟩)) "Pop").run Try.prog w = .ok (154, .pointer (some ⟨P, 0, none⟩)) w := by kernel_rfl
theorem nPop (P : Nat) (w : World) : (nilAhead 270 67 (.pointer (some ⟨P, 0, none⟩)) "Pop").run Try.prog w = .ok (some false) w := by kernel_rfl

theorem lenH_any (base P bo bn cap : Nat) (a : Option Addr) (ys : List (Int × Int)) (w : World) (h : HpW w base P bo bn a cap ys) :
    Calls Try.prog 152 #[.pointer (some ⟨P, 0, none⟩)] w fun e w' => e = .returned (.int .i64 ys.length) ∧ w' = w := by
  have KP := h.p1
  clear h
  go_enter Try.func152, Try.ntmps152
  go_wp2
  go_ret
  exact ⟨rfl, rfl⟩

end Go.Proofs.Ytmaojjjdepgaeaa
