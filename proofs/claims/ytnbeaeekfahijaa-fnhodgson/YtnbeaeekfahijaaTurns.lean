/- Several texts in one. -/
import Derived.Test.YtnbeaeekfahijaaIntRow
import Derived.RangeFuncRecord
import Derived.RangeFuncCalls
import Derived.RangeFuncBound
import Derived.Test.YtnbeaeekfahijaaInts
import Derived.Test.YtnbeaeekfahijaaStepApp
import Derived.Deep.RegionHeldLaw
import Derived.Deep.DeepAppendWide
import Derived.RangeFuncLeaves
import Derived.Shelf.Abstract
import Derived.Shelf.RegionOpen
import Derived.WalkKit
import Derived.OwnWalkIn
import Derived.TacticsInMore
import Derived.LoopNIn
import Derived.LoopIn
import Derived.Test.YtnbeaeekfahijaaTime
import Derived.Test.YtnbeaeekfahijaaJobOk
import Derived.Maps.OwnIn
import Derived.RangeFuncBox
/- Rows of rows of int64s: each row in a block of its own; the laws' own helpers over them. -/
namespace Go.Proofs.Ytnbeaeekfahijaa
open Go.RowKit

theorem IntS.drewI {w : World} {a : Option Addr} {n cap : Nat} {zs : List Int} (h : IntS w a n cap zs) : IntS w.drew a n cap zs := h.below (Below.refl _ _).drew

/-- a row: its block (none: no block), its room, what it holds -/
structure Rw where
  o : Option Nat
  c : Nat
  l : List Int
def Rw.a (x : Rw) : Option Addr := x.o.map fun g => ⟨g, 0, none⟩
def Rw.val (x : Rw) : Value := .slice x.a x.l.length x.c
def ints (l : List Int) : List Value := l.map (Value.int .i64)

def RowOk (w : World) (base : Nat) (x : Rw) : Prop := w.ownsRow base 2 1 x.val x.l.length (ints x.l)

theorem RowOk.below {w w' : World} {base : Nat} {x : Rw} (h : RowOk w base x) (hb : Below w.heap.size w w') : RowOk w' base x := by
  refine ⟨h.1, ?_⟩
  rcases h.2 with h2 | ⟨g, cap, cur, e, h1, h2, h3⟩
  · exact Or.inl h2
  · exact Or.inr ⟨g, cap, cur, e, h1, (hb.block g (lt_of_block h2)).trans h2, h3⟩
theorem RowOk.keep {w w' : World} {base : Nat} {x : Rw} (h : RowOk w base x) (hb : ∀ g, x.o = some g → w'.heap[g]? = w.heap[g]?) : RowOk w' base x := by
  refine ⟨h.1, ?_⟩
  rcases h.2 with h2 | ⟨g, cap, cur, e, h1, h2, h3⟩
  · exact Or.inl h2
  · refine Or.inr ⟨g, cap, cur, e, h1, (hb g ?_).trans h2, h3⟩
    unfold Rw.val Rw.a at e
    injection e with e1 _ _
    cases ho : x.o with
    | none => rw [ho] at e1; cases e1
    | some g' => rw [ho] at e1; injection e1 with e1; injection e1 with e1; rw [e1]
theorem RowOk.low {w : World} {base base' : Nat} {x : Rw} (h : RowOk w base x) (hb : base' ≤ base) : RowOk w base' x := by
  refine ⟨h.1, ?_⟩
  rcases h.2 with h2 | ⟨g, cap, cur, e, h1, h3⟩
  · exact Or.inl h2
  · exact Or.inr ⟨g, cap, cur, e, by omega, h3⟩
/-- no block: nothing is held; a block: it is the row's -/
theorem RowOk.what {w : World} {base : Nat} {x : Rw} (h : RowOk w base x) : (x.o = none ∧ x.l = [] ∧ x.c = 0) ∨ (∃ g, x.o = some g ∧ base ≤ g ∧ IntB w g x.l.length x.l ∧ x.l.length ≤ x.c ∧ x.c ≤ maxLen) := by
  cases ho : x.o with
  | none =>
    left
    rcases h.2 with ⟨h1, h2⟩ | ⟨g, cap, cur, e, _⟩
    · unfold Rw.val at h1
      injection h1 with _ h3 h4
      exact ⟨rfl, List.eq_nil_of_length_eq_zero h3, h4⟩
    · unfold Rw.val Rw.a at e
      rw [ho] at e
      injection e with e1 _ _
      cases e1
  | some g =>
    right
    have h' : w.ownsRow base 2 1 (.slice (some ⟨g, 0, none⟩) x.l.length x.c) x.l.length (ints x.l) := by
      have := h; unfold RowOk Rw.val Rw.a at this; rw [ho] at this; exact this
    obtain ⟨h1, _, h3, h4, h5⟩ := own_ints h'
    exact ⟨g, rfl, h5, h1, h3, h4⟩
theorem RowOk.toS {w : World} {base : Nat} {x : Rw} (h : RowOk w base x) : IntS w x.a x.l.length x.c x.l := by
  rcases h.what with ⟨h1, h2, h3⟩ | ⟨g, h1, _, h2, h3, h4⟩
  · unfold Rw.a
    rw [h1, h2, h3]
    exact IntS.nil_ w
  · unfold Rw.a
    rw [h1]
    exact h2.toS rfl h3 h4
theorem RowOk.lt {w : World} {base : Nat} {x : Rw} (h : RowOk w base x) {g : Nat} (hg : x.o = some g) : g < w.heap.size ∧ base ≤ g := by
  rcases h.what with ⟨h1, _⟩ | ⟨g', h1, h0, h2, _⟩
  · rw [h1] at hg; cases hg
  · rw [h1] at hg; cases hg; exact ⟨h2.lt, h0⟩

/-- a row of rows -/
structure RRows (w : World) (base : Nat) (v : Value) (X : List Rw) : Prop where
  own : w.ownsRow base 37 1 v X.length (X.map Rw.val)
  ok : ∀ x ∈ X, RowOk w base x
  apart : X.Pairwise fun x y => ∀ g, x.o = some g → y.o ≠ some g
  outer : ∀ x ∈ X, ∀ g, x.o = some g → v.ownBlock ≠ some g

/-- a slice of slices that hold the lists L -/
structure SS (w : World) (v : Value) (L : List (List Int)) (X : List Rw) : Prop where
  sh : ∃ a c, v = .slice a X.length c ∧ X.length ≤ c ∧ c ≤ maxLen ∧ (0 < X.length → ∃ b, a = some ⟨b, 0, none⟩ ∧ b < w.heap.size ∧ ∀ i (hi : i < X.length), w.cell? ⟨b, i, none⟩ = some X[i].val)
  eq : X.map (·.l) = L
  ok : ∀ i (hi : i < X.length), IntS w X[i].a X[i].l.length X[i].c X[i].l

theorem own_cells {w : World} {base g cap n : Nat} {e : TypeId} {vs : List Value} (h : w.ownsRow base e 1 (.slice (some ⟨g, 0, none⟩) n cap) n vs) : g < w.heap.size ∧ base ≤ g ∧ n ≤ cap ∧ cap ≤ maxLen ∧ ∀ i (hi : i < vs.length), w.cell? ⟨g, i, none⟩ = some vs[i] := by
  have hl : vs.length = n := by have := h.1; omega
  rcases h.2 with ⟨e, _⟩ | ⟨g', cap', cur, e, hb, hg, h1, h2, h3, h4⟩
  · cases e
  · injection e with e1 _ e3
    injection e1 with e1
    injection e1 with e1 _ _
    subst e1 e3
    refine ⟨lt_of_block hg, hb, h1, h2, fun i hi => ?_⟩
    have : (cur.toList.take (n * 1))[i]? = vs[i]? := by rw [h4]
    rw [List.getElem?_take, if_pos (by omega), Array.getElem?_toList, List.getElem?_eq_getElem hi] at this
    simp [World.cell?, hg, this]

theorem RRows.toS {w : World} {base : Nat} {v : Value} {X : List Rw} (h : RRows w base v X) : SS w v (X.map (·.l)) X := by
  refine ⟨?_, rfl, fun i hi => (h.ok _ (List.getElem_mem hi)).toS⟩
  rcases h.own.2 with ⟨h1, h2⟩ | ⟨g, cap, cur, e, _⟩
  · exact ⟨none, 0, by rw [h1, h2], by omega, by unfold maxLen; omega, fun h3 => by omega⟩
  · have h0 := h.own
    rw [e] at h0
    obtain ⟨h1, _, h3, h4, h5⟩ := own_cells h0
    exact ⟨_, cap, e, h3, h4, fun _ => ⟨g, rfl, h1, fun i hi => by have := h5 i (by simpa using hi); rw [this]; simp⟩⟩
theorem SS.below {w w' : World} {v : Value} {L : List (List Int)} {X : List Rw} (h : SS w v L X) (hb : Below w.heap.size w w') : SS w' v L X := by
  obtain ⟨a, c, e, h1, h2, h3⟩ := h.sh
  refine ⟨⟨a, c, e, h1, h2, fun h0 => ?_⟩, h.eq, fun i hi => (h.ok i hi).below hb⟩
  obtain ⟨b, e2, h4, h5⟩ := h3 h0
  exact ⟨b, e2, Nat.lt_of_lt_of_le h4 hb.size, fun i hi => (hb.cell (p := ⟨b, i, none⟩) h4).trans (h5 i hi)⟩
theorem RRows.below {w w' : World} {base : Nat} {v : Value} {X : List Rw} (h : RRows w base v X) (hb : Below w.heap.size w w') : RRows w' base v X := by
  refine ⟨⟨h.own.1, ?_⟩, fun x hx => (h.ok x hx).below hb, h.apart, h.outer⟩
  rcases h.own.2 with h2 | ⟨g, cap, cur, e, h1, h2, h3⟩
  · exact Or.inl h2
  · exact Or.inr ⟨g, cap, cur, e, h1, (hb.block g (lt_of_block h2)).trans h2, h3⟩
theorem RRows.low {w : World} {base base' : Nat} {v : Value} {X : List Rw} (h : RRows w base v X) (hb : base' ≤ base) : RRows w base' v X := by
  refine ⟨⟨h.own.1, ?_⟩, fun x hx => (h.ok x hx).low hb, h.apart, h.outer⟩
  rcases h.own.2 with h2 | ⟨g, cap, cur, e, h1, h3⟩
  · exact Or.inl h2
  · exact Or.inr ⟨g, cap, cur, e, by omega, h3⟩

/-- how many numbers the first k rows hold -/
def totR (X : List Rw) (k : Nat) : Nat := ((X.take k).map fun x => x.l.length).sum
theorem totR_succ {X : List Rw} {k : Nat} (h : k < X.length) : totR X (k + 1) = totR X k + X[k].l.length := by
  unfold totR
  rw [List.take_succ_eq_append_getElem h, List.map_append, List.sum_append]
  simp
theorem totR_le {X : List Rw} : ∀ {j k : Nat}, j ≤ k → k ≤ X.length → totR X j ≤ totR X k
  | j, 0, h, _ => by have : j = 0 := by omega
                     subst this; exact Nat.le_refl _
  | j, k + 1, h, hk => by
    by_cases e : j = k + 1
    · subst e; exact Nat.le_refl _
    · have := totR_le (X := X) (j := j) (k := k) (by omega) (by omega)
      rw [totR_succ (by omega)]
      omega
theorem totR_bd {X : List Rw} {m : Nat} (h : ∀ x ∈ X, x.l.length ≤ m) : ∀ k, k ≤ X.length → totR X k ≤ k * m
  | 0, _ => by simp [totR]
  | k + 1, hk => by
    have h1 := totR_bd h k (by omega)
    have h2 := h _ (List.getElem_mem (show k < X.length by omega))
    rw [totR_succ (by omega), Nat.add_mul]
    omega

/-- of the rows of X the first k hold their marks -/
def MarkedTo (w : World) (X : List Rw) (k0 : Int) (k : Nat) : Prop :=
  ∀ i (hi : i < X.length), i < k → ∀ g, X[i].o = some g → IntB w g X[i].l.length (imarks (k0 + totR X i) X[i].l.length)

/-- the row of rows with all its rows marked -/
structure Held (w : World) (v : Value) (X : List Rw) (k0 : Int) : Prop where
  sh : ∃ a c, v = .slice a X.length c ∧ X.length ≤ c ∧ c ≤ maxLen ∧ (0 < X.length → ∃ b, a = some ⟨b, 0, none⟩ ∧ b < w.heap.size ∧ ∀ i (hi : i < X.length), w.cell? ⟨b, i, none⟩ = some X[i].val)
  mkd : MarkedTo w X k0 X.length
  nl : ∀ x ∈ X, x.o = none → x.l = [] ∧ x.c = 0
theorem Held.below {w w' : World} {v : Value} {X : List Rw} {k0 : Int} (h : Held w v X k0) (hb : Below w.heap.size w w') : Held w' v X k0 := by
  obtain ⟨a, c, e, h1, h2, h3⟩ := h.sh
  refine ⟨⟨a, c, e, h1, h2, fun h0 => ?_⟩, fun i hi hk g hg => (h.mkd i hi hk g hg).below hb, h.nl⟩
  obtain ⟨b, e2, h4, h5⟩ := h3 h0
  exact ⟨b, e2, Nat.lt_of_lt_of_le h4 hb.size, fun i hi => (hb.cell (p := ⟨b, i, none⟩) h4).trans (h5 i hi)⟩

theorem IntB.blk {w w' : World} {B n : Nat} {zs : List Int} (h : IntB w B n zs) (hb : w'.heap[B]? = w.heap[B]?) : IntB w' B n zs := by
  obtain ⟨cur, h1, h2⟩ := h
  exact ⟨cur, hb.trans h1, h2⟩

theorem apart_ne {X : List Rw} (h : X.Pairwise fun x y => ∀ g, x.o = some g → y.o ≠ some g) {i j : Nat} (hi : i < X.length) (hj : j < X.length) (hne : i ≠ j) {g : Nat} (hg : X[i].o = some g) : X[j].o ≠ some g := by
  rw [List.pairwise_iff_getElem] at h
  rcases Nat.lt_or_gt_of_ne hne with c | c
  · exact h i j hi hj c g hg
  · exact fun e => h j i hj hi c g e hg

end Go.Proofs.Ytnbeaeekfahijaa

/- All orders of some numbers: plain mathematics. -/
namespace Go.Proofs.Ytnbeaeekfahijaa
open Go.RowKit

def factN : Nat → Nat
  | 0 => 1
  | n + 1 => (n + 1) * factN n
/-- all orders of l, n numbers; the lesser places first -/
def turnsL : Nat → List Int → List (List Int)
  | 0, _ => [[]]
  | n + 1, l => (List.range l.length).flatMap fun i => (turnsL n (l.eraseIdx i)).map (zg l i :: ·)
/-- those that begin with one of the first i -/
def turnsP (n : Nat) (l : List Int) (i : Nat) : List (List Int) := (List.range i).flatMap fun i => (turnsL n (l.eraseIdx i)).map (zg l i :: ·)
theorem turnsP_zero (n : Nat) (l : List Int) : turnsP n l 0 = [] := rfl
theorem turnsP_succ (n : Nat) (l : List Int) (i : Nat) : turnsP n l (i + 1) = turnsP n l i ++ (turnsL n (l.eraseIdx i)).map (zg l i :: ·) := by
  unfold turnsP
  rw [List.range_succ, List.flatMap_append]
  simp
theorem turnsL_succ (n : Nat) (l : List Int) : turnsL (n + 1) l = turnsP n l l.length := rfl

theorem erase_len {l : List Int} {i : Nat} (h : i < l.length) : (l.eraseIdx i).length = l.length - 1 := List.length_eraseIdx_of_lt h

theorem turnsP_len {n : Nat} {l : List Int} (hl : l.length = n + 1) (ih : ∀ l : List Int, l.length = n → (turnsL n l).length = factN n) : ∀ i, i ≤ l.length → (turnsP n l i).length = i * factN n
  | 0, _ => by simp [turnsP_zero]
  | i + 1, hi => by
    rw [turnsP_succ, List.length_append, List.length_map, turnsP_len hl ih i (by omega), ih _ (by rw [erase_len (by omega)]; omega), Nat.add_mul]
    simp
theorem turnsL_len : ∀ (n : Nat) (l : List Int), l.length = n → (turnsL n l).length = factN n
  | 0, _, _ => rfl
  | n + 1, l, hl => by rw [turnsL_succ, turnsP_len hl (turnsL_len n) _ (Nat.le_refl _), hl]; rfl
theorem factN_le : ∀ n, n ≤ 6 → factN n ≤ 720 ∧ (n ≤ 5 → factN n ≤ 120)
  | 0, _ => by decide
  | 1, _ => by decide
  | 2, _ => by decide
  | 3, _ => by decide
  | 4, _ => by decide
  | 5, _ => by decide
  | 6, _ => by decide
  | n + 7, h => by omega

theorem perm_erase {l : List Int} {i : Nat} (h : i < l.length) : (zg l i :: l.eraseIdx i).Perm l := by
  rw [zg_get h, List.eraseIdx_eq_take_drop_succ]
  have e : l = l.take i ++ l[i] :: l.drop (i + 1) := by rw [List.getElem_cons_drop, List.take_append_drop]
  have p : (l[i] :: (l.take i ++ l.drop (i + 1))).Perm (l.take i ++ l[i] :: l.drop (i + 1)) := List.perm_middle.symm
  rw [← e] at p
  exact p
theorem turnsL_perm : ∀ (n : Nat) (l : List Int), l.length = n → ∀ t ∈ turnsL n l, t.Perm l
  | 0, l, hl, t, ht => by
    obtain rfl : l = [] := List.eq_nil_of_length_eq_zero hl
    obtain rfl : t = [] := List.mem_singleton.1 ht
    exact List.Perm.refl _
  | n + 1, l, hl, t, ht => by
    unfold turnsL at ht
    obtain ⟨i, hi, ht⟩ := List.mem_flatMap.1 ht
    obtain ⟨r, hr, rfl⟩ := List.mem_map.1 ht
    have hi' := List.mem_range.1 hi
    exact ((turnsL_perm n _ (by rw [erase_len hi']; omega) r hr).cons _).trans (perm_erase hi')

/-- 0, 1, .. ahead of n -/
def upN (n : Nat) : List Int := (List.range n).map fun (i : Nat) => (i : Int)
theorem upN_len (n : Nat) : (upN n).length = n := by simp [upN]
theorem upN_succ (n : Nat) : upN (n + 1) = upN n ++ [(n : Int)] := by simp [upN, List.range_succ]

end Go.Proofs.Ytnbeaeekfahijaa

/- A range over a function where it is named which blocks are the caller's: the iterator turns none of them, the rounds turn none of the others. -/
namespace Go.Proofs.Ytnbeaeekfahijaa
open Go Go.RowKit

/-- of the blocks of s none has turned -/
structure Rest (s : Nat → Prop) (w w' : World) : Prop where
  os : w'.os = w.os
  tape : w'.tape = w.tape
  output : w'.output = w.output
  size : w.heap.size ≤ w'.heap.size
  block : ∀ k, s k → w'.heap[k]? = w.heap[k]?

theorem Rest.refl (s : Nat → Prop) (w : World) : Rest s w w := ⟨rfl, rfl, rfl, Nat.le_refl _, fun _ _ => rfl⟩
theorem Rest.trans {s : Nat → Prop} {a b c : World} (h : Rest s a b) (k : Rest s b c) : Rest s a c :=
  ⟨k.os.trans h.os, k.tape.trans h.tape, k.output.trans h.output, Nat.le_trans h.size k.size, fun i hi => (k.block i hi).trans (h.block i hi)⟩
theorem Rest.sub {s t : Nat → Prop} {a b : World} (h : Rest s a b) (hs : ∀ k, t k → s k) : Rest t a b := ⟨h.os, h.tape, h.output, h.size, fun k hk => h.block k (hs k hk)⟩
theorem Rest.of {B : Nat} {s : Nat → Prop} {a b : World} (h : Below B a b) (hs : ∀ k, s k → k < B) : Rest s a b := ⟨h.os, h.tape, h.output, h.size, fun k hk => h.block k (hs k hk)⟩
theorem Rest.below {B : Nat} {s : Nat → Prop} {a b : World} (h : Rest s a b) (hs : ∀ k, k < B → s k) : Below B a b := ⟨h.os, h.tape, h.output, h.size, fun k hk => h.block k (hs k hk)⟩
theorem Rest.putObj {s : Nat → Prop} (w : World) {l : Nat} (o : Obj) (h : ¬ s l) : Rest s w (w.putObj l o) :=
  ⟨rfl, rfl, rfl, by simp, fun k hk => World.putObj_heap_other (fun e => h (e ▸ hk))⟩
theorem Rest.alloc {s : Nat → Prop} {a w : World} (h : Rest s a w) (hs : ∀ k, s k → k < w.heap.size) (o : Obj) : Rest s a (w.alloc o) :=
  h.trans (Rest.of ((Below.refl _ w).alloc (Nat.le_refl _) o) hs)

variable {F : Fence} {n : Nat} {P : Program}

/-- what a round leaves: k more have come; what the caller owns now is what it owned, or is new, or is the row that came; nothing else has turned -/
def After (J : Nat → (Nat → Prop) → World → Prop) (ro : Nat → Prop) (k : Nat) (s : Nat → Prop) (x : Rw) (W W' : World) : Prop :=
  ∃ s' : Nat → Prop, J (k + 1) s' W' ∧ (∀ b, s' b → s b ∨ W.heap.size ≤ b ∨ x.o = some b) ∧ (∀ b, s' b → b < W'.heap.size) ∧ Rest (fun b => b < W.heap.size ∧ ¬ s b ∧ x.o ≠ some b) W W' ∧ Rest ro W W'
/-- what a round may lean on -/
structure Come (L : List (List Int)) (k : Nat) (s : Nat → Prop) (x : Rw) (W : World) : Prop where
  lt : k < L.length
  eq : x.l = L[k]?.getD []
  ok : RowOk W 0 x
  no : ∀ g, x.o = some g → ¬ s g
  bd : ∀ b, s b → b < W.heap.size

/-- an iterator over the rows L; it reads the blocks ro -/
def GivesR (F : Fence) (n : Nat) (P : Program) (g : Nat) (lb : Array Value) (L : List (List Int)) (ro : Nat → Prop) (w : World) : Prop :=
  ∀ (l : Nat) (J : Nat → (Nat → Prop) → World → Prop) (W : World), Rest ro w W → (∀ b, ro b → b < W.heap.size) → (∀ k s W1 W2, J k s W1 → Rest s W1 W2 → J k s W2) →
    (∀ k s x W1, J k s W1 → Come L k s x W1 → YieldAt F (n - 1) P l #[x.val] W1 fun e W2 => e = .returned (.bool true) ∧ After J ro k s x W1 W2) →
    J 0 (fun b => b < W.heap.size) W →
    CallsIn F n P g (#[.func (.yield l) #[] #[]] ++ lb) W fun e W' => (∃ v, e = .returned v) ∧ ∃ s', J L.length s' W' ∧ ∀ b, s' b → b < W'.heap.size

/-- the statement, outside of all rounds -/
theorem range_own {g : Operand} {ps : Array Tmp} {assign body : Code} {Q : Exit → Act → World → Prop} {a : Act} {w : World}
    (hro : F.round = none) (h1 : F.depth.isSome = true → 1 ≤ n) {gf : Nat} {lb : Array Value} (hg : a.eval g = .func (.func gf) #[] lb) (hFg : F.fn gf) (eg : ∀ args w, (callFunc gf args).run P w = .ok (.enter gf args) w)
    {L : List (List Int)} {ro : Nat → Prop} {w0 : World} (hseq : GivesR F (n - 1) P gf lb L ro w0) (hb0 : Rest ro w0 w) (hrl : ∀ b, ro b → b < w.heap.size) (hps : ps.size = 1)
    (I : Nat → (Nat → Prop) → World → Prop) (hI : ∀ k s W1 W2, I k s W1 → Rest s W1 W2 → I k s W2) (h0 : I 0 (fun b => b < w.heap.size) w) (a₁ : Rw → Act)
    (hassign : ∀ (l : Nat) (x : Rw) (W : World) (K : Act → World → Prop), K (a₁ x) W →
      assign.wpIn (F.inRound l) (n - 1 - 1) P (Exit.then K (fun _ _ _ => False)) { tmps := (ps.zip #[x.val]).foldl (fun t (p, v) => t.setIfInBounds p v) a.tmps, defers := [] } W)
    (hbody : ∀ (l k : Nat) (s : Nat → Prop) (x : Rw) (W : World), w.heap.size ≤ l → (∃ r, W.heap[l]? = some (.loop r)) → ¬ s l → I k s W → Come L k s x W →
      body.wpIn (F.inRound l) (n - 1 - 1) P (fun e _ W' => e = .normal ∧ After I ro k s x W W') (a₁ x) W)
    (hdone : ∀ (D : Nat) (s : Nat → Prop) (W : World), w.heap.size ≤ D → I L.length s W → ¬ s D → (∀ b, s b → b < W.heap.size) → W.heap[D]? = some (.deferred (some [])) →
      Q .normal { a with defers := { target := .collected D, args := #[] } :: a.defers } W) :
    (Code.rangeFunc g ps assign body).wpIn F n P Q a w := by
  refine wpIn_rangeFunc ?_
  intro fn hfn
  rw [hro]
  obtain ⟨D, hD⟩ : ∃ D, D = w.heap.size := ⟨_, rfl⟩
  obtain ⟨l, hl⟩ : ∃ l, l = w.heap.size + 1 := ⟨_, rfl⟩
  obtain ⟨rec, hrec⟩ : ∃ rec : LoopState → Option Code → Loop, rec = fun st pe => { state := st, pending := pe, fn, tmps := a.tmps, params := ps, assign, body, defers := D } := ⟨_, rfl⟩
  obtain ⟨W1, hW1⟩ : ∃ W1, W1 = (w.alloc (.deferred (some []))).alloc (.loop (rec .ready none)) := ⟨_, rfl⟩
  have z1 : W1.heap.size = w.heap.size + 2 := by rw [hW1]; simp
  have bl1 : W1.heap[l]? = some (.loop (rec .ready none)) := by
    rw [hW1, hl]
    have := World.alloc_heap_new (w.alloc (.deferred (some []))) (.loop (rec .ready none))
    rwa [World.size_alloc] at this
  have bD1 : W1.heap[D]? = some (.deferred (some [])) := by
    rw [hW1, hD]
    exact (Below.heap_alloc _ _ _ (by simp)).trans (World.alloc_heap_new w _)
  have B1 : Below w.heap.size w W1 := by rw [hW1]; exact ((Below.refl _ w).alloc (Nat.le_refl _) _).alloc (by simp) _
  refine ⟨l, [{ target := .collected D, args := #[] }], W1, { target := .fn (.func gf) lb, args := #[.func (.yield l) #[] #[]] }, W1, gf, #[.func (.yield l) #[] #[]] ++ lb, W1, ?_, ?_, ?_, ?_, h1, ?_⟩
  · rw [hW1, hrec, hD, hl]; exact run_enterLoop_outer _ _ _ _ _
  · simp only [resolve, hg]
    simp [go_sem]
  · intro f' hf'; simp [Target.leads] at hf'; subst hf'; exact hFg
  · simp [invoke, go_sem, eg]
  · have hne : l ≠ D := by omega
    refine (hseq l (fun k s W => ∃ s0 : Nat → Prop, I k s0 W ∧ (∀ b, s b ↔ s0 b ∨ b = l ∨ b = D) ∧ ¬ s0 l ∧ ¬ s0 D ∧ W.heap[l]? = some (.loop (rec .ready none)) ∧ W.heap[D]? = some (.deferred (some [])))
      W1 (hb0.trans (Rest.of B1 hrl)) (fun b hb => by have := hrl b hb; omega) ?_ ?_ ?_).mono ?_
    · rintro k s V1 V2 ⟨s0, i0, hs, n1, n2, r1, r2⟩ hR
      exact ⟨s0, hI k s0 V1 V2 i0 (hR.sub fun b hb => (hs b).2 (Or.inl hb)), hs, n1, n2, (hR.block l ((hs l).2 (Or.inr (Or.inl rfl)))).trans r1, (hR.block D ((hs D).2 (Or.inr (Or.inr rfl)))).trans r2⟩
    · -- one round
      rintro k s x W ⟨s0, i0, hs, n1, n2, r1, r2⟩ hc
      have lW := lt_of_block r1
      have hy := run_yield (P := P) (args := #[x.val]) r1 (by rw [hrec]; simp [hps])
      rw [hrec] at hy
      refine ⟨fn, _, assign, body, hy, roundIn_of_wpIn hfn (hassign l x W _ ?_)⟩
      refine ⟨_, run_beginRound r1 (by rw [hrec]), ?_⟩
      obtain ⟨V, hV⟩ : ∃ V, V = W.putObj l (.loop { rec .ready none with state := .busy }) := ⟨_, rfl⟩
      have e1 : V.heap[l]? = some (.loop { rec .ready none with state := .busy }) := by rw [hV]; exact World.putObj_heap_same lW
      have RV : ∀ t : Nat → Prop, ¬ t l → Rest t W V := fun t ht => by rw [hV]; exact Rest.putObj W _ ht
      have zV : V.heap.size = W.heap.size := by rw [hV]; simp
      rw [← hV]
      have xl : x.o ≠ some l := fun e => hc.no l e ((hs l).2 (Or.inr (Or.inl rfl)))
      have xD : x.o ≠ some D := fun e => hc.no D e ((hs D).2 (Or.inr (Or.inr rfl)))
      have hcV : Come L k s0 x V := ⟨hc.lt, hc.eq, hc.ok.keep (fun g hg => (RV (fun b => b ≠ l) (by simp)).block g (fun e => xl (by rw [← e]; exact hg))), fun g hg h => hc.no g hg ((hs g).2 (Or.inl h)), fun b hb => by have := hc.bd b ((hs b).2 (Or.inl hb)); omega⟩
      refine wpIn_mono (hbody l k s0 x V (by omega) ⟨_, e1⟩ n1 (hI k s0 W V i0 (RV s0 n1)) hcV) ?_
      rintro e a3 W3 ⟨rfl, s', i3, h3, b3, R3, Q3⟩
      have g3 : W3.heap[l]? = some (.loop { rec .ready none with state := .busy }) := (R3.block l ⟨by omega, n1, xl⟩).trans e1
      have hr := run_endRound (P := P) none g3
      have d3 : W3.heap[D]? = some (.deferred (some [])) := (R3.block D ⟨by have := lt_of_block r2; omega, n2, xD⟩).trans ((RV (fun b => b = D) (by omega)).block D rfl |>.trans r2)
      have lW3 := lt_of_block g3
      have nl : ¬ s' l := fun h => by
        rcases h3 l h with h | h | h
        · exact n1 h
        · omega
        · exact xl h
      have nD : ¬ s' D := fun h => by
        rcases h3 D h with h | h | h
        · exact n2 h
        · have := lt_of_block r2; omega
        · exact xD h
      obtain ⟨V4, hV4⟩ : ∃ V4, V4 = W3.putObj l (.loop (rec .ready none)) := ⟨_, rfl⟩
      have R4 : ∀ t : Nat → Prop, ¬ t l → Rest t W3 V4 := fun t ht => by rw [hV4]; exact Rest.putObj W3 _ ht
      have z4 : V4.heap.size = W3.heap.size := by rw [hV4]; simp
      have e4 : (Instr.endRound l none).run P W3 = .ok (.bool true) V4 := by
        rw [hr, hV4, hrec]; rfl
      refine ⟨_, V4, e4, rfl, fun b => s' b ∨ b = l ∨ b = D, ⟨s', hI _ _ _ _ i3 (R4 s' nl), fun b => Iff.rfl, nl, nD, by rw [hV4]; exact World.putObj_heap_same lW3, ((R4 (fun b => b = D) (by omega)).block D rfl).trans d3⟩, ?_, ?_, ?_, ?_⟩
      · rintro b (h | h | h)
        · rcases h3 b h with h | h | h
          · exact Or.inl ((hs b).2 (Or.inl h))
          · exact Or.inr (Or.inl (by omega))
          · exact Or.inr (Or.inr h)
        · exact Or.inl ((hs b).2 (Or.inr (Or.inl h)))
        · exact Or.inl ((hs b).2 (Or.inr (Or.inr h)))
      · rintro b (h | h | h)
        · have := b3 b h; omega
        · omega
        · have := lt_of_block d3; omega
      · have tl : ¬ (l < W.heap.size ∧ ¬ s l ∧ x.o ≠ some l) := fun h => h.2.1 ((hs l).2 (Or.inr (Or.inl rfl)))
        refine ((RV _ tl).trans (R3.sub ?_)).trans (R4 _ tl)
        exact fun b hb => ⟨by omega, fun h => hb.2.1 ((hs b).2 (Or.inl h)), hb.2.2⟩
      · have rl : ¬ ro l := fun h => by have := hrl l h; omega
        exact ((RV _ rl).trans Q3).trans (R4 _ rl)
    · exact ⟨fun b => b < w.heap.size, hI _ _ _ _ h0 (Rest.of B1 fun k hk => hk), fun b => by omega, by omega, by omega, bl1, bD1⟩
    · rintro e W2 ⟨⟨v, rfl⟩, s, ⟨s0, i0, hs, n1, n2, r1, r2⟩, hbd⟩
      have hr := run_endLoop (P := P) r1 (by rw [hrec]; simp)
      refine ⟨none, W2.putObj l (.loop { rec .ready none with state := .exhausted }), by rw [hr, hrec], ?_⟩
      refine hdone D s0 _ (by omega) (hI _ _ _ _ i0 (Rest.putObj W2 _ n1)) n2 (fun b hb => by have := hbd b ((hs b).2 (Or.inl hb)); simpa using this) ?_
      exact (World.putObj_heap_other (Ne.symm hne)).trans r2

end Go.Proofs.Ytnbeaeekfahijaa

/- All orders, of the model. -/
namespace Go.Proofs.Ytnbeaeekfahijaa
open Go.RowKit

theorem infoIS : (Try.prog.info? 37).map (fun i => (i.zero, i.size, i.bytes)) = some (some (.slice none 0 0), 1, 24) := by kernel_rfl

theorem ints_len (l : List Int) : (ints l).length = l.length := by simp [ints]
theorem ints_one (l : List Int) : ∀ u ∈ ints l, u.oneCell' = true := fun u hu => by
  unfold ints at hu
  obtain ⟨z, _, rfl⟩ := List.mem_map.1 hu
  rfl
theorem ints_app (a b : List Int) : ints (a ++ b) = ints a ++ ints b := by simp [ints]

/-- what an own row of numbers is, as a row -/
theorem rowOk_of {w : World} {base n : Nat} {v : Value} {vs : List Value} {l : List Int} (h : w.ownsRow base 2 1 v n vs) (hl : n = l.length) (hv : vs = ints l) : ∃ x : Rw, v = x.val ∧ x.l = l ∧ RowOk w base x ∧ v.ownBlock = x.o := by
  subst hl hv
  rcases h.2 with ⟨h1, h2⟩ | ⟨g, cap, cur, e, h3⟩
  · have e0 : l = [] := List.eq_nil_of_length_eq_zero h2
    subst e0
    exact ⟨⟨none, 0, []⟩, h1, rfl, by unfold RowOk Rw.val Rw.a; exact ⟨rfl, Or.inl ⟨rfl, rfl⟩⟩, by rw [h1]; rfl⟩
  · exact ⟨⟨some g, cap, l⟩, e, rfl, ⟨h.1, Or.inr ⟨g, cap, cur, rfl, h3⟩⟩, by rw [e]; rfl⟩

theorem RowOk.cells {w : World} {base : Nat} {x : Rw} (h : RowOk w base x) {g : Nat} (hg : x.o = some g) : ∀ j u, (ints x.l)[j]? = some u → w.cell? ((⟨g, 0, none⟩ : Addr).add j) = some u := fun j u hju =>
  World.ownsRow.cells (show w.ownsRow base 2 1 (.slice (some ⟨g, 0, none⟩) x.l.length x.c) x.l.length (ints x.l) from by have := h; unfold RowOk Rw.val Rw.a at this; rw [hg] at this; exact this) (g := g) rfl j u hju

theorem RRows.app {w w' : World} {base : Nat} {v v' : Value} {X : List Rw} {x : Rw} (h : RRows w base v X) (hx : RowOk w base x) (hfr : ∀ g, x.o = some g → (∀ y ∈ X, y.o ≠ some g) ∧ v.ownBlock ≠ some g)
    (own : w'.ownsRow base 37 1 v' (X.length + 1) (X.map Rw.val ++ [x.val])) (grow : w.grownBy w' v.ownBlock) (hat : v'.ownBlock = v.ownBlock ∨ v'.ownBlock = some w.heap.size) : RRows w' base v' (X ++ [x]) := by
  have keep : ∀ y, RowOk w base y → (∀ g, y.o = some g → v.ownBlock ≠ some g) → RowOk w' base y := fun y hy hn => hy.keep (fun g hg => grow.block g (hy.lt hg).1 (Ne.symm (hn g hg)))
  refine ⟨by simpa using own, fun y hy => ?_, ?_, fun y hy g hg e => ?_⟩
  · rcases List.mem_append.1 hy with hy | hy
    · exact keep y (h.ok y hy) (h.outer y hy)
    · obtain rfl := List.mem_singleton.1 hy
      exact keep y hx (fun g hg => (hfr g hg).2)
  · rw [List.pairwise_append]
    refine ⟨h.apart, List.pairwise_singleton _ _, fun y hy z hz g hg e => ?_⟩
    obtain rfl := List.mem_singleton.1 hz
    exact (hfr g e).1 y hy hg
  · have hold : ∀ y, RowOk w base y → y.o = some g → v'.ownBlock = some w.heap.size → False := fun y hy hg e2 => by
      rw [e] at e2
      have := (hy.lt hg).1
      injection e2 with e2
      omega
    rcases List.mem_append.1 hy with hy | hy
    · rcases hat with e2 | e2
      · exact h.outer y hy g hg (by rw [← e2]; exact e)
      · exact hold y (h.ok y hy) hg e2
    · obtain rfl := List.mem_singleton.1 hy
      rcases hat with e2 | e2
      · exact (hfr g hg).2 (by rw [← e2]; exact e)
      · exact hold y hx hg e2

theorem RRows.keep {w w' : World} {base : Nat} {v : Value} {X : List Rw} (h : RRows w base v X) (hv : ∀ g, v.ownBlock = some g → w'.heap[g]? = w.heap[g]?) (hx : ∀ x ∈ X, ∀ g, x.o = some g → w'.heap[g]? = w.heap[g]?) : RRows w' base v X := by
  refine ⟨⟨h.own.1, ?_⟩, fun x hx' => (h.ok x hx').keep (hx x hx'), h.apart, h.outer⟩
  rcases h.own.2 with h2 | ⟨g, cap, cur, e, h1, h2, h3⟩
  · exact Or.inl h2
  · exact Or.inr ⟨g, cap, cur, e, h1, (hv g (by rw [e]; rfl)).trans h2, h3⟩

theorem addr_add (g o j : Nat) : (⟨g, o, none⟩ : Addr).add j = ⟨g, o + j, none⟩ := by unfold Addr.add; split <;> simp_all
theorem RRows.blk {w : World} {base : Nat} {v : Value} {X : List Rw} (h : RRows w base v X) : ∀ r, v.ownBlock = some r → base ≤ r ∧ r < w.heap.size := fun r hr => World.ownsRow.lt h.own r hr
/-- every row has a block -/
def AllSome (X : List Rw) : Prop := ∀ x ∈ X, ∃ g, x.o = some g
/-- a literal of one number -/
theorem one_rowI (w : World) (z : Int) (base : Nat) (hb : base ≤ w.heap.size) : (w.alloc (.cells #[.int .i64 z] 2)).ownsRow base 2 1 (.slice (some ⟨w.heap.size, 0, none⟩) 1 1) 1 (ints [z]) :=
  ⟨rfl, Or.inr ⟨w.heap.size, 1, #[.int .i64 z], rfl, hb, heap_alloc_new _ _, Nat.le_refl _, by unfold maxLen; omega, rfl, rfl⟩⟩

end Go.Proofs.Ytnbeaeekfahijaa

/- All orders, of the model: the walk. -/
namespace Go.Proofs.Ytnbeaeekfahijaa
open Go.RowKit

theorem none_rows (w : World) : RRows (w.alloc (.cells #[] 37)) w.heap.size (.slice (some ⟨w.heap.size, 0, none⟩) 0 0) [] :=
  ⟨⟨rfl, Or.inr ⟨w.heap.size, 0, #[], rfl, Nat.le_refl _, heap_alloc_new _ _, Nat.le_refl _, Nat.zero_le _, rfl, rfl⟩⟩, (fun x hx => by cases hx), List.Pairwise.nil, (fun x hx => by cases hx)⟩

set_option maxRecDepth 8000 in
set_option maxHeartbeats 4000000 in
theorem l5Turns_zero (x : Rw) (w : World) (h0 : x.l.length = 0) :
    Calls Try.prog 54 #[.int .i64 0, x.val] w fun e w' => ∃ v X, e = .returned v ∧ RRows w' w.heap.size v X ∧ X.map (·.l) = [[]] ∧ AllSome X ∧ Below w.heap.size w w' := by
  unfold Rw.val
  rw [h0]
  go_enter Try.func54, Try.ntmps54
  go_wp2
  go_ret
  refine ⟨_, [⟨some w.heap.size, 0, []⟩], rfl, ⟨⟨rfl, Or.inr ⟨w.heap.size + 1, 1, #[.slice (some ⟨w.heap.size, 0, none⟩) 0 0], rfl, by omega, ?_, Nat.le_refl _, by unfold maxLen; omega, rfl, rfl⟩⟩, fun y hy => ?_, List.pairwise_singleton _ _, fun y hy g hg => ?_⟩, rfl, fun y hy => ⟨w.heap.size, by rw [List.mem_singleton.1 hy]⟩, ?_⟩
  · have := heap_alloc_new (w.alloc (.cells #[] 2)) (.cells #[.slice (some ⟨w.heap.size, 0, none⟩) 0 0] 37)
    rwa [show (w.alloc (.cells #[] 2)).heap.size = w.heap.size + 1 by simp] at this
  · obtain rfl := List.mem_singleton.1 hy
    refine ⟨rfl, Or.inr ⟨w.heap.size, 0, #[], rfl, Nat.le_refl _, ?_, Nat.le_refl _, Nat.zero_le _, rfl, rfl⟩⟩
    exact (Below.heap_alloc _ _ _ (by simp)).trans (heap_alloc_new _ _)
  · obtain rfl := List.mem_singleton.1 hy
    injection hg with hg
    subst hg
    simp [Value.ownBlock]
  · exact ((Below.refl _ _).alloc (Nat.le_refl _) _).alloc (by simp) _

set_option maxRecDepth 8000 in
set_option maxHeartbeats 8000000 in
theorem l5Turns_any : ∀ (n : Nat) (x : Rw) (base : Nat) (w : World), RowOk w base x → x.l.length = n → n ≤ 6 →
    Calls Try.prog 54 #[.int .i64 n, x.val] w fun e w' => ∃ v X, e = .returned v ∧ RRows w' w.heap.size v X ∧ X.map (·.l) = turnsL n x.l ∧ AllSome X ∧ Below w.heap.size w w' := by
  intro n
  induction n with
  | zero => intro x base w _ hl _; exact l5Turns_zero x w hl
  | succ n ih =>
    intro x base w hx hl h6
    obtain ⟨i1, hi1, hi2, hi3, hi4⟩ := info_parts infoI
    obtain ⟨j1, hj1, hj2, hj3, hj4⟩ := info_parts infoIS
    rcases hx.what with ⟨_, e, _⟩ | ⟨g, ho, hbg, hI, hlc, hcm⟩
    · rw [e] at hl; simp at hl
    have hv : x.val = .slice (some ⟨g, 0, none⟩) x.l.length x.c := by unfold Rw.val Rw.a; rw [ho]; rfl
    rw [hv]
    have hlt := hI.lt
    obtain ⟨m, hm⟩ : ∃ m : Int, m = ((n + 1 : Nat) : Int) := ⟨_, rfl⟩
    rw [← hm]
    have hm1 : m - 1 = (n : Int) := by omega
    have hm0 : (m == 0) = false := by simp; omega
    have m1 : 1 ≤ m := by omega
    have m6 : m ≤ 6 := by omega
    obtain ⟨L, hL⟩ : ∃ L, L = x.l := ⟨_, rfl⟩
    rw [← hL] at hI hl hlc ⊢
    obtain ⟨N, hN⟩ : ∃ N, N = L.length := ⟨_, rfl⟩
    rw [← hN] at hI hlc ⊢
    have N1 : N ≤ n + 1 := by omega
    have N2 : n + 1 ≤ N := by omega
    have HL : Hid (L.length = N) := hN.symm
    have hcx : ∀ W, Below w.heap.size w W → ∀ i, i < N → W.cell? ⟨g, i, none⟩ = some (.int .i64 (zg L i)) := fun W hW i hi => by
      obtain ⟨cur, h1, h2, h3⟩ := hI.blk (hW.block g hlt)
      simp [World.cell?, h1, h3 i hi]
    have HCX : Hid _ := hcx
    unfold maxLen at hcm
    clear hm hL hN hl hx hv hcx
    go_enter Try.func54, Try.ntmps54
    go_wp2_with fail
    go_loopw [5, 6] (fun o i wr => ∃ (k : Nat) (v : Value) (X : List Rw), k ≤ N ∧ i = .int .i64 k ∧ o = v ∧ Hid (RRows wr w.heap.size v X) ∧ Hid (X.map (·.l) = turnsP n L k ∧ AllSome X) ∧ Below w.heap.size w wr) (fun _ i _ => N - (intOf i).toNat)
    case atStart => exact ⟨0, _, [], by omega, rfl, rfl, none_rows w, ⟨rfl, fun x hx => by cases hx⟩, (Below.refl _ _).alloc (Nat.le_refl _) _⟩
    case round =>
      obtain ⟨k, v, X, hk, rfl, rfl, HR, HP, hw⟩ := hrel
      by_cases hkt : k < N
      · have hkt' : (k : Int) < (N : Int) := by omega
        have z := hw.size
        have OE := World.ownsRow_made (base := wr.heap.size) (e := 2) (size := 1) wr.drew #[] 0 (Nat.le_refl _) (Nat.zero_le _) rfl
        have BD : Below wr.heap.size wr (wr.drew.alloc (.cells #[] 2)) := (Below.refl _ _).drew.alloc (Nat.le_refl _) _
        have HIx : ∀ W, Below wr.heap.size wr W → ∀ i, i < N → W.cell? ⟨g, i, none⟩ = some (.int .i64 (zg L i)) := fun W hW => HCX.out W (hw.then hW z)
        have HC1 : Hid (∀ W, Below wr.heap.size wr W → ∀ j u, (ints (L.take k))[j]? = some u → W.cell? ((⟨g, 0, none⟩ : Addr).add j) = some u) := fun W hW j u hju => by
          have hj : j < k := by have := (List.getElem?_eq_some_iff.1 hju).1; simp [ints] at this; omega
          have e := HIx W hW j (by omega)
          simp [ints, hj] at hju
          obtain ⟨a, ha, rfl⟩ := hju
          rw [addr_add, Nat.zero_add]
          simpa [zg, ha] using e
        obtain ⟨ad, HA, HC2⟩ : ∃ ad : Addr, (if x.c = k + 1 then some (⟨g, 0, none⟩ : Addr) else some ⟨g, k + 1, none⟩) = some ad ∧ Hid (∀ W, Below wr.heap.size wr W → ∀ j u, (ints (L.drop (k + 1)))[j]? = some u → W.cell? (ad.add j) = some u) := by
          have hl := HL.out
          by_cases hum : x.c = k + 1
          · refine ⟨⟨g, 0, none⟩, if_pos hum, fun W hW j u hju => ?_⟩
            rw [List.drop_eq_nil_of_le (by omega)] at hju
            simp [ints] at hju
          · refine ⟨⟨g, k + 1, none⟩, if_neg hum, fun W hW j u hju => ?_⟩
            have hj : j < N - (k + 1) := by have := (List.getElem?_eq_some_iff.1 hju).1; simp [ints] at this; omega
            have e := HIx W hW (k + 1 + j) (by omega)
            simp [ints, List.getElem?_drop] at hju
            obtain ⟨a, ha, rfl⟩ := hju
            rw [addr_add]
            simpa [zg, ha] using e
        have hj1' : (ints (L.take k)).length = k * 1 := by have := HL.out; rw [ints_len]; simp; omega
        have hj2' : (ints (L.drop (k + 1))).length = (N - (k + 1)) * 1 := by have := HL.out; rw [ints_len]; simp; omega
        have n2 : (k : Int) + 1 ≤ (N : Int) := by omega
        have n3 : (N : Int) ≤ (x.c : Int) := by omega
        have n5 : ((k : Int) + 1).toNat = k + 1 := by omega
        have n6 : (k : Int) ≤ (x.c : Int) := by omega
        have n8 : (0 : Int) ≤ (k : Int) + 1 := by omega
        have k0 : (0 : Int) ≤ (k : Int) := by omega
        have wk : IntKind.i64.wrap ((k : Int) + 1) = (k : Int) + 1 := by rw [IntKind.wrap_i64]; omega
        have HEE : Hid (ints (L.take k) ++ ints (L.drop (k + 1)) = ints (L.eraseIdx k)) := by rw [Hid, ← ints_app, List.eraseIdx_eq_take_drop_succ]
        have HEL : Hid ((L.eraseIdx k).length = n) := by have := HL.out; show (L.eraseIdx k).length = n; rw [erase_len (by omega)]; omega
        have HTL : Hid ((L.take k).length = k) := by have := HL.out; show (L.take k).length = k; simp; omega
        have hfl := factN_le (n + 1) h6
        have hfs : n ≤ 5 := by omega
        clear HIx
        go_wp2
        go_region_law (first
          | (refine step_append_own rfl (.tmp 21) (.tmp 24) 37 rfl wr.heap.size 2 i1 (.int .i64 0) 1 8 Try.underlying37 hi1 hi2 hi3 hi4 rfl (by decide) _ _ _ rfl OE ⟨g, 0, none⟩ k x.c (ints (L.take k)) rfl hj1' (HC1.out _ BD) (ints_one _) (by unfold maxLen; omega) (by omega) (by simp) ?_
             intro v6 w6 own6 grow6 nil6 at6
             rw [Nat.zero_add, List.nil_append] at own6
             have B6 : Below wr.heap.size wr w6 := BD.grown grow6 BD.size (fun r e => Nat.le_of_eq (show wr.heap.size = r from Option.some.inj e))
             have b6 := World.ownsRow.lt own6
             have HC6 := HC2.out w6 B6)
          | (refine step_append_own rfl (.tmp 25) (.tmp 29) 37 rfl wr.heap.size 2 i1 (.int .i64 0) 1 8 Try.underlying37 hi1 hi2 hi3 hi4 rfl (by decide) _ _ _ rfl own6 ad (N - (k + 1)) (x.c - (k + 1)) (ints (L.drop (k + 1))) rfl hj2' HC6 (ints_one _) (by unfold maxLen; omega) (by omega) B6.size ?_
             intro v7 w7 own7 grow7 nil7 at7
             obtain ⟨y, hy0, hyl, hyo, hyb⟩ := rowOk_of (l := L.eraseIdx k) own7 (by have := HEL.out; omega) HEE.out
             have B7 : Below wr.heap.size wr w7 := B6.grown grow7 B6.size (fun r e => (b6 r e).1)))
        all_goals
          have HB7 : Hid _ := hw.then B7 z
          have HR7 : Hid (RRows w7 w.heap.size u5 X) := HR.out.below B7
          have z7 := B7.size
          subst hy0
          clear own6 own7 grow6 grow7 nil6 nil7 at6 at7 b6 B6 B7 HC6 OE BD HC1 HC2 HEE hj1' hj2' HA hyb
          have hyl' : y.l.length = n := by rw [hyl]; exact HEL.out
          have wm : IntKind.i64.wrap (m - 1) = m - 1 := by rw [IntKind.wrap_i64]; omega
          have IH := ih y wr.heap.size w7 hyo hyl' (by omega)
          rw [hyl] at IH
          have HTn : Hid ((turnsL n (L.eraseIdx k)).length = factN n) := turnsL_len n _ HEL.out
          go_wp2_with fail
          refine IH.mono ?_
          rintro e w8 ⟨vY, Y, rfl, RY, hYl, hYs, hb8⟩
          have hYn : Y.length = factN n := by rw [← HTn.out, ← hYl]; simp
          obtain ⟨aY, cY, rfl, hcY, hmY, hatY⟩ := RY.toS.sh
          unfold maxLen at hmY
          have F0 : factN n ≤ 120 := (factN_le n (by omega)).2 hfs
          obtain ⟨NY, hNY⟩ : ∃ NY, NY = Y.length := ⟨_, rfl⟩
          rw [← hNY]
          have NY1 : NY ≤ Y.length := by omega
          have NY2 : Y.length ≤ NY := by omega
          have NY3 : NY ≤ 120 := by omega
          have z8 := hb8.size
          have HR8 : Hid (RRows w8 w.heap.size u5 X) := HR7.out.below hb8
          have HB8 : Hid (Below w.heap.size w w8) := HB7.out.then hb8 HB7.out.size
          have HRY : Hid (RRows w8 w7.heap.size (.slice aY Y.length cY) Y) := RY
          have HYL : Hid (Y.map (·.l) = turnsL n (L.eraseIdx k) ∧ AllSome Y) := ⟨hYl, hYs⟩
          have HU5 : Hid (∀ r, u5.ownBlock = some r → w.heap.size ≤ r ∧ r < wr.heap.size) := HR.out.blk
          have HAT : Hid _ := hatY
          have hXn : X.length ≤ k * 120 := by
            have h1 : X.length = (turnsP n L k).length := by rw [← HP.out.1]; simp
            have h2 := turnsP_len (n := n) (l := L) (by have := HL.out; omega) (turnsL_len n) k (by have := HL.out; omega)
            rw [h1, h2]
            exact Nat.mul_le_mul_left _ F0
          have hXn' : X.length ≤ 720 := by omega
          clear RY hYl hYs hYn hatY hb8 IH hNY hXn hyl hyo hyl' HTn HR7
          go_wp2_with fail
          go_loopw [5, 9] (fun o p wi => ∃ (q : Nat) (v : Value) (X' : List Rw), q ≤ NY ∧ p = .int .i64 q ∧ o = v ∧ Hid (RRows wi w.heap.size v X') ∧ Hid (X'.map (·.l) = turnsP n L k ++ ((turnsL n (L.eraseIdx k)).take q).map (zg L k :: ·) ∧ AllSome X') ∧ X'.length ≤ 720 + q ∧ Below w.heap.size w wi ∧ Hid (∀ b, w7.heap.size ≤ b → b < w8.heap.size → wi.heap[b]? = w8.heap[b]?) ∧ Hid (∀ r, v.ownBlock = some r → r < w7.heap.size ∨ w8.heap.size ≤ r) ∧ w8.heap.size ≤ wi.heap.size) (fun _ p _ => NY - (intOf p).toNat)
          case atStart => exact ⟨0, _, X, by omega, rfl, rfl, HR8.out, by rw [List.take_zero, List.map_nil, List.append_nil]; exact HP.out, by omega, HB8.out, fun b _ _ => rfl, fun r hr => Or.inl (by have := HU5.out r hr; omega), Nat.le_refl _⟩
          case round =>
            obtain ⟨q, v, X', hq, rfl, rfl, HRi, HPi, hXi, hwi, HKi, HVi, zi⟩ := hrel
            rename World => wi
            by_cases hqt : q < NY
            · have hqt' : (q : Int) < (NY : Int) := by omega
              have hqY : q < Y.length := by omega
              obtain ⟨bY, rfl, hbY, hcY2⟩ := HAT.out (by omega)
              have bb := HRY.out.blk bY rfl
              have c1 := (World.cell?_of_block (w := w8) (a := ⟨bY, q, none⟩) (HKi.out bY bb.1 bb.2)).trans (hcY2 q hqY)
              obtain ⟨gq, hgq⟩ := HYL.out.2 _ (List.getElem_mem hqY)
              have okq : RowOk wi w7.heap.size Y[q] := (HRY.out.ok _ (List.getElem_mem hqY)).keep (fun g' hg' => by have := (HRY.out.ok _ (List.getElem_mem hqY)).lt hg'; exact HKi.out g' this.2 this.1)
              have c2 : wi.cell? ⟨bY, q, none⟩ = some (.slice (some ⟨gq, 0, none⟩) Y[q].l.length Y[q].c) := by rw [c1]; unfold Rw.val Rw.a; rw [hgq]; rfl
              have c0 := HCX.out wi hwi k hkt
              have hTl : (turnsL n (L.eraseIdx k)).length = Y.length := by rw [← HYL.out.1, List.length_map]
              have hql : Y[q].l = (turnsL n (L.eraseIdx k))[q]'(by omega) := by
                have : (Y.map (·.l))[q]? = (turnsL n (L.eraseIdx k))[q]? := by rw [HYL.out.1]
                rw [List.getElem?_map, List.getElem?_eq_getElem hqY, List.getElem?_eq_getElem (show q < (turnsL n (L.eraseIdx k)).length by omega)] at this
                exact Option.some.inj this
              have hqn : Y[q].l.length = n := by
                have hmem : Y[q].l ∈ turnsL n (L.eraseIdx k) := by rw [hql]; exact List.getElem_mem _
                rw [(turnsL_perm n (L.eraseIdx k) HEL.out _ hmem).length_eq]; exact HEL.out
              have HN1 : Hid ((turnsL n (L.eraseIdx k)).take (q + 1) = (turnsL n (L.eraseIdx k)).take q ++ [Y[q].l]) := by
                rw [Hid, hql, List.take_succ_eq_append_getElem]
              have OE := one_rowI wi.drew (zg L k) wi.heap.size (Nat.le_refl _)
              have BD : Below wi.heap.size wi (wi.drew.alloc (.cells #[.int .i64 (zg L k)] 2)) := (Below.refl _ _).drew.alloc (Nat.le_refl _) _
              have CQ : Hid (∀ W, Below wi.heap.size wi W → ∀ j u, (ints Y[q].l)[j]? = some u → W.cell? ((⟨gq, 0, none⟩ : Addr).add j) = some u) := fun W hW => (okq.below hW).cells hgq
              have hqc : Y[q].l.length ≤ Y[q].c ∧ Y[q].c ≤ maxLen := by
                rcases okq.what with ⟨h1, _⟩ | ⟨_, _, _, _, h3, h4⟩
                · rw [hgq] at h1; cases h1
                · exact ⟨h3, h4⟩
              obtain ⟨rl, hrl⟩ : ∃ rl, rl = Y[q].l := ⟨_, rfl⟩
              obtain ⟨rc, hrc⟩ : ∃ rc, rc = Y[q].c := ⟨_, rfl⟩
              rw [← hrl] at HN1 CQ hqn hqc c2
              rw [← hrc] at hqc c2
              have hq1 := hqc.1
              have hq2 := hqc.2
              unfold maxLen at hq2
              have hrn1 : rl.length ≤ n := by omega
              have hj5 : (ints rl).length = rl.length * 1 := by rw [ints_len]; omega
              have U5 := HRi.out.blk
              have hbw : bY < wi.heap.size := by have := bb.2; omega
              have c3 : (wi.alloc (.cells #[.int .i64 (zg L k)] 2)).drew.cell? ⟨bY, q, none⟩ = some (.slice (some ⟨gq, 0, none⟩) rl.length rc) := by
                rw [← c2]; exact (((Below.refl _ wi).alloc (Nat.le_refl _) _).drew).cell (p := ⟨bY, q, none⟩) hbw
              have c4 : (wi.drew.alloc (.cells #[.int .i64 (zg L k)] 2)).cell? ⟨bY, q, none⟩ = some (.slice (some ⟨gq, 0, none⟩) rl.length rc) := by
                rw [← c2]; exact BD.cell (p := ⟨bY, q, none⟩) hbw
              have HVlt : Hid (∀ r, u5.ownBlock = some r → w.heap.size ≤ r ∧ r < wi.heap.size) := U5
              have zwi := hwi.size
              clear hTl hql hrl hrc hqc okq c1 hgq hcY2 hqn bb
              go_wp2_with fail
              go_region_law (first
                | (refine step_append_own rfl (.tmp 46) (.tmp 50) 37 rfl wi.heap.size 2 i1 (.int .i64 0) 1 8 Try.underlying37 hi1 hi2 hi3 hi4 rfl (by decide) _ _ _ rfl OE ⟨gq, 0, none⟩ rl.length rc (ints rl) rfl hj5 (CQ.out _ BD) (ints_one _) (by unfold maxLen; omega) (by omega) BD.size ?_
                   intro v10 w10 own10 grow10 nil10 at10
                   obtain ⟨yy, hy0, hyyl, hyyo, hyyb⟩ := rowOk_of (l := zg L k :: rl) own10 (by simp; omega) rfl
                   have HYY : Hid (yy.l = zg L k :: rl) := hyyl
                   clear hyyl
                   unfold Rw.val at hy0
                   subst hy0
                   have B10 : Below wi.heap.size wi w10 := BD.grown grow10 BD.size (fun r e => Nat.le_of_eq (show wi.heap.size = r from Option.some.inj e))
                   have OR := (HRi.out.below B10).below (box_below (cs := #[.slice yy.a yy.l.length yy.c]) (T := 37)))
                | (refine step_append_own rfl (.tmp 41) (.tmp 52) 34 rfl w.heap.size 37 j1 (.slice none 0 0) 1 24 Try.underlying34 hj1 hj2 hj3 hj4 rfl (by decide) _ _ _ rfl OR.own ⟨w10.heap.size, 0, none⟩ 1 1 [.slice yy.a yy.l.length yy.c] rfl rfl (cell_one_new _ _ _) (fun u hu => by obtain rfl := List.mem_singleton.1 hu; rfl) (by unfold maxLen; omega) (by omega) (by have := B10.size; simp; omega) ?_
                   intro v11 w11 own11 grow11 nil11 at11))
              all_goals
                have z10 := B10.size
                replace at11 : v11.ownBlock = u5.ownBlock ∨ v11.ownBlock = some (w10.alloc (.cells #[.slice yy.a yy.l.length yy.c] 37)).heap.size := at11
                replace grow11 : (w10.alloc (.cells #[.slice yy.a yy.l.length yy.c] 37)).grownBy w11 u5.ownBlock := grow11
                have hfr : ∀ g', yy.o = some g' → (∀ x' ∈ X', x'.o ≠ some g') ∧ u5.ownBlock ≠ some g' := fun g' hg' => by
                  have h1 := (hyyo.lt hg').2
                  refine ⟨fun x' hx' e => ?_, fun e => ?_⟩
                  · have := (HRi.out.ok x' hx').lt e; omega
                  · have := HVlt.out g' e; omega
                have BX : Below w10.heap.size w10 (w10.alloc (.cells #[.slice yy.a yy.l.length yy.c] 37)) := box_below
                have HR11 : Hid (RRows w11 w.heap.size v11 (X' ++ [yy])) := OR.app ((hyyo.below BX).low zwi) hfr own11 grow11 at11
                have zx : (w10.alloc (.cells #[.slice yy.a yy.l.length yy.c] 37)).heap.size = w10.heap.size + 1 := by simp
                have g11 := grow11.size
                have HK11 : Hid (∀ b, w7.heap.size ≤ b → b < w8.heap.size → w11.heap[b]? = w8.heap[b]?) := fun b h1 h2 =>
                  (grow11.block b (by omega) (fun e => by have := HVi.out b e.symm; omega)).trans ((BX.block b (by omega)).trans ((B10.block b (by omega)).trans (HKi.out b h1 h2)))
                have HV11 : Hid (∀ r, v11.ownBlock = some r → r < w7.heap.size ∨ w8.heap.size ≤ r) := fun r hr => by
                  rcases at11 with e | e
                  · exact HVi.out r (by rw [← e]; exact hr)
                  · rw [hr] at e; injection e with e; omega
                have HB11 : Hid (Below w.heap.size w w11) := (((hwi.then B10 zwi).then BX (by omega))).grown grow11 (by omega) (fun r e => (HVlt.out r e).1)
                have HS11 : Hid ((X' ++ [yy]).map (·.l) = turnsP n L k ++ ((turnsL n (L.eraseIdx k)).take (q + 1)).map (zg L k :: ·) ∧ AllSome (X' ++ [yy])) := by
                  refine ⟨?_, fun x' hx' => ?_⟩
                  · rw [List.map_append, HPi.out.1, HN1.out, List.map_append, List.append_assoc]
                    simp [HYY.out]
                  · rcases List.mem_append.1 hx' with hx' | hx'
                    · exact HPi.out.2 x' hx'
                    · obtain rfl := List.mem_singleton.1 hx'
                      have h1 : x'.l ≠ [] := by rw [HYY.out]; simp
                      rcases hyyo.what with ⟨_, e, _⟩ | ⟨g', e, _⟩
                      · exact absurd e h1
                      · exact ⟨g', e⟩
                have HX11 : Hid ((X' ++ [yy]).length ≤ 720 + (q + 1)) := by rw [Hid, List.length_append]; simp; omega
                have z11 : w8.heap.size ≤ w11.heap.size := by omega
                clear own11 grow11 nil11 at11 OR own10 grow10 nil10 at10 hyyo hyyb B10 BX hfr zx g11 OE BD c0 c2 c3 c4 CQ HN1 hj5 z10
                go_wp2
                go_roundw
                case rel => exact ⟨q + 1, _, X' ++ [yy], by omega, by go_num, rfl, HR11.out, HS11.out, HX11.out, HB11.out, HK11.out, HV11.out, z11⟩
                case measure => simp [intOf]; omega
            · have e : q = NY := by omega
              subst e
              have hL9 : (turnsL n (L.eraseIdx k)).length = q := by have := congrArg List.length HYL.out.1; simp at this; omega
              have hP9 : Hid (X'.map (·.l) = turnsP n L (k + 1) ∧ AllSome X') := ⟨by rw [HPi.out.1, turnsP_succ, ← hL9, List.take_length], HPi.out.2⟩
              clear hL9
              go_wp2
              go_roundw
              case rel => exact ⟨k + 1, _, X', by omega, by go_num, rfl, HRi.out, hP9.out, hwi⟩
              case measure => simp [intOf]; omega
      · have e : k = N := by omega
        subst e
        go_wp2
        go_ret
        exact ⟨_, X, rfl, HR.out, by rw [HP.out.1, turnsL_succ]; exact congrArg _ HL.out.symm, HP.out.2, hw⟩

end Go.Proofs.Ytnbeaeekfahijaa

/- slices.Grow of nothing, slices.Concat of two. -/
namespace Go.Proofs.Ytnbeaeekfahijaa
open Go.RowKit

/-- an append whose run is known, in the walk -/
theorem wpList_append_run {P : Program} {w : World} {ops : Array Oper} {rest : List Oper} {o : Oper} {a : Act} {Q : Exit → Act → World → Prop} (hgd : o.guard = none) (s x : Operand) (t u : TypeId)
    (ho : o.op = .call { callee := .builtin .append, args := #[s, x], argTypes := #[t, u] }) (v : Value) (w' : World) (hrun : (Builtin.append_ #[t, u] o.type #[a.eval s, a.eval x]).run P w = .ok v w')
    (h : wpList P ops Q rest (a.put o.dst v) w') : wpList P ops Q (o :: rest) a w := by
  refine wpList_plain hgd fun K' hK => ?_
  unfold Oper.wp
  simp [execOp, ho, resolve, invoke, builtin, hrun, Result.andThen]
  exact hK _ _ h

set_option maxRecDepth 8000 in
theorem run_append_make (w : World) (n : Nat) (h0 : 0 < n) (h1 : n ≤ 1000) :
    ∃ v w', (Builtin.append_ #[37, 3] 37 #[.slice none 0 0, .int .i64 (n : Int)]).run Try.prog w = .ok v w' ∧ (∃ cap, v = .slice (some ⟨w.heap.size, 0, none⟩) n cap ∧ w'.ownsRow w.heap.size 2 1 (.slice (some ⟨w.heap.size, 0, none⟩) 0 cap) 0 [] ∧ n ≤ cap ∧ cap ≤ maxLen) ∧ Below w.heap.size w w' := by
  obtain ⟨i1, hi1, hi2, hi3, hi4⟩ := info_parts infoI
  have hn : n ≠ 0 := by omega
  have hw : IntKind.i64.wrap (n : Int) = (n : Int) := by rw [IntKind.wrap_i64]; omega
  have a1 : ¬ ((n : Int) < 0) := by omega
  have a3 : ¬ ((n : Int) ≤ 0) := by omega
  have a2 : ¬ (281474976710656 < (n : Int) * 8) := by omega
  have h63' : ¬ (9223372036854775807 < (n : Int)) := by omega
  have h48' : ¬ (281474976710656 < Builtin.nextslicecap n 0 * 8) := by rw [nextslicecap_zero h0]; omega
  have hge := grownCap_ge w n 0 2
  have hcm : grownCap w n 0 2 ≤ maxLen := grownCap_le_maxLen w n 0 2 (by unfold maxLen; omega)
  refine ⟨.slice (some ⟨w.heap.size, 0, none⟩) n (grownCap w n 0 2), w.drew.alloc (.cells (Builtin.zeroCells #[.int .i64 0] n ++ Builtin.zeroCells #[.int .i64 0] (grownCap w n 0 2 - n)) 2), ?_, ⟨_, rfl, World.ownsRow_made (w := w.drew) _ _ (Nat.le_refl _) hcm ?_, hge, hcm⟩, (Below.refl _ _).drew.alloc (Nat.le_refl _) _⟩
  · simp [Builtin.append_, run_underlying Try.underlying37, run_underlying Try.underlying3, sizeOf, typeInfo, zeroValue, hi1, hi2, hi3, hi4, asInt, asIntOf, hw, a1, a2, hn, h63', h48', Question.forced, run_firstCells_none, newRow, grownCap, Value.cells]
  · simp only [Array.size_append, size_zeroCells]
    simp
    omega

set_option maxRecDepth 8000 in
set_option maxHeartbeats 2000000 in
theorem grow_any (n : Nat) (h1 : n ≤ 1000) (z : Int) (hz : z = (n : Int)) (w : World) :
    Calls Try.prog 83 #[.slice none 0 0, .int .i64 z] w fun e w' => ∃ v, e = .returned v ∧ w'.ownsRow w.heap.size 2 1 v 0 [] ∧ Below w.heap.size w w' := by
  subst hz
  by_cases h0 : 0 < n
  · obtain ⟨v, w1, hrun, ⟨cap, rfl, own, hge, hcm⟩, hb⟩ := run_append_make w n h0 h1
    have a0 : (0 : Int) < (n : Int) := by omega
    have ac : (0 : Int) ≤ (cap : Int) := by omega
    go_enter Try.func83, Try.ntmps83
    go_wp2_with (at_builtin; refine wpList_append_run rfl (.tmp 20) (.tmp 21) 37 3 rfl _ _ hrun ?_)
    go_ret
    exact ⟨_, rfl, own, hb⟩
  · obtain rfl : n = 0 := by omega
    go_enter Try.func83, Try.ntmps83
    go_wp2
    go_ret
    exact ⟨_, rfl, World.ownsRow_nil _ _ _ _, Below.refl _ _⟩

set_option maxRecDepth 8000 in
set_option maxHeartbeats 4000000 in
theorem concat_any (R : Nat) (a1 a2 : Addr) (c1 c2 : Nat) (l1 l2 : List Int) (w : World) (h1 : w.cell? ⟨R, 0, none⟩ = some (.slice (some a1) l1.length c1)) (h2 : w.cell? ⟨R, 1, none⟩ = some (.slice (some a2) l2.length c2)) (hR : R < w.heap.size)
    (k1 : ∀ W, Below w.heap.size w W → ∀ j u, (ints l1)[j]? = some u → W.cell? (a1.add j) = some u) (k2 : ∀ W, Below w.heap.size w W → ∀ j u, (ints l2)[j]? = some u → W.cell? (a2.add j) = some u)
    (n1 : l1.length ≤ 100) (n2 : l2.length ≤ 100) :
    Calls Try.prog 72 #[.slice (some ⟨R, 0, none⟩) 2 2] w fun e w' => ∃ x : Rw, e = .returned x.val ∧ x.l = l1 ++ l2 ∧ RowOk w' w.heap.size x ∧ Below w.heap.size w w' := by
  obtain ⟨i1, hi1, hi2, hi3, hi4⟩ := info_parts infoI
  have HK1 : Hid _ := k1
  have HK2 : Hid _ := k2
  obtain ⟨m1, hm1⟩ : ∃ m1, m1 = l1.length := ⟨_, rfl⟩
  obtain ⟨m2, hm2⟩ : ∃ m2, m2 = l2.length := ⟨_, rfl⟩
  rw [← hm1] at h1 n1
  rw [← hm2] at h2 n2
  have HM : Hid (m1 = l1.length ∧ m2 = l2.length) := ⟨hm1, hm2⟩
  clear hm1 hm2 k1 k2
  have d1 : decide ((m1 : Int) < 0) = false := decide_eq_false (by omega)
  have d2 : decide ((m1 : Int) + (m2 : Int) < 0) = false := decide_eq_false (by omega)
  go_enter Try.func72, Try.ntmps72
  go_wp2
  refine wp_loop_rounds 3 ?_
  rw [rounds_succ]
  go_wp2
  rw [rounds_succ]
  go_wp2
  rw [rounds_succ]
  go_wp2_with fail
  refine (grow_any (m1 + m2) (by omega) _ (by omega) _).mono ?_
  rintro e w1 ⟨v, rfl, own1, hb1⟩
  have hr0 : w1.cell? ⟨R, 0, none⟩ = some (.slice (some a1) m1 c1) := (hb1.cell (p := ⟨R, 0, none⟩) hR).trans h1
  have j1 : (ints l1).length = m1 * 1 := by rw [ints_len, HM.out.1]; omega
  have j2 : (ints l2).length = m2 * 1 := by rw [ints_len, HM.out.2]; omega
  have K1 := HK1.out w1 hb1
  have z1 := hb1.size
  clear h1 d1 d2
  go_wp2
  refine wp_loop_rounds 3 ?_
  rw [rounds_succ]
  go_wp2_with (at_builtin; refine wpList_append_own_at _ rfl (.tmp 31) (.tmp 32) 37 rfl w.heap.size 2 i1 (.int .i64 0) 1 8 Try.underlying37 hi1 hi2 hi3 hi4 rfl (by decide) _ _ _ rfl own1 a1 m1 c1 (ints l1) rfl j1 K1 (ints_one _) (by unfold maxLen; omega) (by omega) (by omega) ?_)
  intro v2 w2 own2 grow2 nil2 at2
  have own2' := World.ownsRow.lt own1
  have hb2 : Below w.heap.size w w2 := hb1.grown grow2 (by omega) (fun r e => (own2' r e).1)
  have hr1 : w2.cell? ⟨R, 1, none⟩ = some (.slice (some a2) m2 c2) := (hb2.cell (p := ⟨R, 1, none⟩) hR).trans h2
  have K2 := HK2.out w2 hb2
  have z2 := hb2.size
  clear hr0 K1 own1 grow2 nil2 at2 own2' h2 hb1
  go_wp2
  rw [rounds_succ]
  go_wp2_with (at_builtin; refine wpList_append_own_at _ rfl (.tmp 31) (.tmp 32) 37 rfl w.heap.size 2 i1 (.int .i64 0) 1 8 Try.underlying37 hi1 hi2 hi3 hi4 rfl (by decide) _ _ _ rfl own2 a2 m2 c2 (ints l2) rfl j2 K2 (ints_one _) (by unfold maxLen; omega) (by omega) (by omega) ?_)
  intro v3 w3 own3 grow3 nil3 at3
  have own2' := World.ownsRow.lt own2
  have hb3 : Below w.heap.size w w3 := hb2.grown grow3 (by omega) (fun r e => (own2' r e).1)
  obtain ⟨x, hx0, hxl, hxo, hxb⟩ := rowOk_of (l := l1 ++ l2) own3 (by have := HM.out; simp; omega) (by rw [ints_app])
  have HX : Hid _ := hxl
  clear hr1 K2 own2 own3 grow3 nil3 at3 own2' hb2 hxb hxl
  subst hx0
  go_wp2
  rw [rounds_succ]
  go_wp2
  go_ret
  exact ⟨x, rfl, HX.out, hxo, hb3⟩

theorem concat2_any (R m1 m2 : Nat) (a1 a2 : Addr) (c1 c2 : Nat) (l1 l2 : List Int) (e1 : l1.length = m1) (e2 : l2.length = m2) (w : World) (h1 : w.cell? ⟨R, 0, none⟩ = some (.slice (some a1) m1 c1)) (h2 : w.cell? ⟨R, 1, none⟩ = some (.slice (some a2) m2 c2)) (hR : R < w.heap.size)
    (k1 : ∀ W, Below w.heap.size w W → ∀ j u, (ints l1)[j]? = some u → W.cell? (a1.add j) = some u) (k2 : ∀ W, Below w.heap.size w W → ∀ j u, (ints l2)[j]? = some u → W.cell? (a2.add j) = some u)
    (n1 : m1 ≤ 100) (n2 : m2 ≤ 100) :
    Calls Try.prog 72 #[.slice (some ⟨R, 0, none⟩) 2 2] w fun e w' => ∃ x : Rw, e = .returned x.val ∧ x.l = l1 ++ l2 ∧ RowOk w' w.heap.size x ∧ Below w.heap.size w w' := by
  subst e1 e2
  exact concat_any R a1 a2 c1 c2 l1 l2 w h1 h2 hR k1 k2 n1 n2

end Go.Proofs.Ytnbeaeekfahijaa

/- All orders, of the program: an iterator that ranges over itself. -/
namespace Go.Proofs.Ytnbeaeekfahijaa
open Go Go.RowKit Go.Shelf
attribute [local go_sem] Oper.semAt_some

theorem round_any {P : Program} {n m l : Nat} {f : FuncId} {tmps : Array Value} {assign body : Code} {w : World} {R : Ending → World → Prop} (h : RoundIn Fence.wide n P l f tmps assign body w R) : RoundIn Fence.wide m P l f tmps assign body w R :=
  ⟨h.1, fun c cs _ => h.2 c cs (fun d hd => by cases hd)⟩
theorem yield_any {P : Program} {n m l : Nat} {args : Array Value} {w : World} {R : Ending → World → Prop} (h : YieldAt Fence.wide n P l args w R) : YieldAt Fence.wide m P l args w R := by
  obtain ⟨fn, tmps, assign, body, hy, hR⟩ := h
  exact ⟨fn, tmps, assign, body, hy, round_any hR⟩

/-- it ends as it should, in no other way -/
def Calm (Q : Exit → Act → World → Prop) : Exit → Act → World → Prop
  | .normal, a, w => Q .normal a w
  | _, _, _ => False
theorem calm {F : Fence} {n : Nat} {P : Program} {c : Code} {Q : Exit → Act → World → Prop} {a : Act} {w : World} (h : c.wpIn F n P (Calm Q) a w) : c.wpIn F n P Q a w :=
  wpIn_mono h (fun e a w hq => by cases e <;> first | exact hq | exact hq.elim)

theorem orders_any (y : Rw) (w : World) :
    Calls Try.prog 52 #[y.val] w fun e w' => e = .returned (.func (.func 71) #[] #[.pointer (some ⟨w.heap.size, 0, none⟩)]) ∧ w' = w.alloc (.cells #[y.val] 37) := by
  unfold Rw.val
  go_enter Try.func52, Try.ntmps52
  go_wp2
  go_ret
  exact ⟨rfl, rfl⟩

set_option maxRecDepth 8000 in
set_option maxHeartbeats 2000000 in
theorem orders1_zero (n : Nat) (y : Rw) (Bn : Nat) (w : World) (hl : y.l = []) (hB : w.heap[Bn]? = some (.cells #[y.val] 37 (0, 0))) :
    GivesR Fence.wide n Try.prog 71 #[.pointer (some ⟨Bn, 0, none⟩)] [[]] (fun b => b = Bn ∨ y.o = some b) w := by
  intro l J W hro hrl hJ hY h0
  have hb : W.heap[Bn]? = some (.cells #[y.val] 37 (0, 0)) := (hro.block Bn (Or.inl rfl)).trans hB
  have lB := lt_of_block hb
  unfold Rw.val at hb
  rw [hl] at hb
  have c0 := cell_of_blk 0 hb (by simp)
  simp at c0
  have c1 : (W.alloc (.cells #[.func (.yield l) #[] #[]] 76)).cell? ⟨Bn, 0, none⟩ = some (.slice y.a 0 y.c) := by
    rw [← c0]; exact ((Below.refl _ W).alloc (Nat.le_refl _) _).cell (p := ⟨Bn, 0, none⟩) lB
  have z : (W.alloc (.cells #[.func (.yield l) #[] #[]] 76)).heap.size = W.heap.size + 1 := by simp
  have hJ1 : J 0 (fun b => b < W.heap.size) (W.alloc (.cells #[.func (.yield l) #[] #[]] 76)) := hJ _ _ _ _ h0 (Rest.of ((Below.refl _ W).alloc (Nat.le_refl _) _) fun k hk => hk)
  obtain ⟨fn, tmps, assign, body, hy, hR⟩ := yield_any (m := n - 1) (hY 0 _ ⟨none, 0, []⟩ _ hJ1 ⟨by simp, rfl, ⟨rfl, Or.inl ⟨rfl, rfl⟩⟩, fun g hg => by (cases hg), fun b hb => by omega⟩)
  dsimp only [Rw.val, Rw.a, Option.map, List.length] at hy
  refine callsIn_of_wp Try.func71 rfl trivial ?_ rfl
  simp only [Try.ntmps71, List.size_toArray, List.length_cons, List.length_nil, Nat.reduceAdd, Nat.reduceSub, Array.replicate_succ, Array.replicate_zero, List.push_toArray, List.append_toArray, List.nil_append, List.cons_append]
  gi_wp2
  refine ⟨fun h => (by cases h), hR.mono ?_⟩
  rintro e W2 ⟨rfl, s', j1, _, bd, _⟩
  gi_wp2
  refine bodyPost_ret (results_none rfl _ _ _) rfl ?_
  exact ⟨⟨_, rfl⟩, s', j1, bd⟩

def markD (D : Nat) : Deferred := { target := .collected D, args := #[] }
theorem leaves_marks {P : Program} {n : Nat} {fn : Func} {tmps : Array Value} {R : Ending → World → Prop} : ∀ (ds : List Nat) (W : World), (∀ D ∈ ds, W.heap[D]? = some (.deferred (some []))) → ds.Nodup →
    (∀ W', Rest (fun b => b ∉ ds) W W' → W'.heap.size = W.heap.size → LeavesInM Fence.wide n P fn tmps R [] .returning W') → LeavesInM Fence.wide n P fn tmps R (ds.map markD) .returning W
  | [], W, _, _, h => h W (Rest.refl _ _) rfl
  | D :: ds, W, hd, hn, h => by
    obtain ⟨n1, n2⟩ := List.nodup_cons.1 hn
    refine ⟨by simp, .inl ⟨D, W.putObj D (.deferred none), rfl, run_takeDeferred (hd D List.mem_cons_self), ?_⟩⟩
    refine leaves_marks ds _ (fun D' hD' => ?_) n2 (fun W' hR hz => h W' ?_ (by rw [hz]; simp))
    · exact (World.putObj_heap_other (fun e => n1 (by rw [← e]; exact hD'))).trans (hd D' (List.mem_cons_of_mem _ hD'))
    · refine (Rest.putObj W _ (fun h => h List.mem_cons_self)).trans (hR.sub fun b hb h2 => hb (List.mem_cons_of_mem _ h2))

theorem stepIn_append {F : Fence} {n : Nat} {P : Program} {ops : Array Oper} {o : Oper} {a : Act} {w : World} {K : Act → World → Prop} {Q : Exit → Act → World → Prop} {E : Prop}
    (hg : o.guard = none) (s x : Operand) (t u : TypeId) (hop : o.op = Op.call { callee := Callee.builtin Builtin.append, args := #[s, x], argTypes := #[t, u] }) (v : Value) (w' : World)
    (hrun : (Builtin.append_ #[t, u] o.type #[a.eval s, a.eval x]).run P w = .ok v w') (hK : K (a.put o.dst v) w') : if Region.wanted o (yielded ops a.tmps) = true then Oper.wpIn F n P o a w K Q else E := by
  have hw : Region.wanted o (yielded ops a.tmps) = true := by simp [Region.wanted, hg]
  rw [if_pos hw]
  unfold Oper.wpIn
  refine ⟨?_, ?_⟩
  · simp [Oper.about, hop, resolve, Target.leads, Sem.run_pure]
  · rw [Oper.semAt_plain F _ _ (by rw [hop]; intro c hc'; cases hc')]
    simp [execOp, hop, resolve, invoke, builtin, hrun, Result.andThen]
    exact hK

theorem stepIn_yield {F : Fence} {n : Nat} {P : Program} {ops : Array Oper} {o : Oper} {a : Act} {w : World} {K : Act → World → Prop} {Q : Exit → Act → World → Prop} {E : Prop} {R : Ending → World → Prop}
    (hg : o.guard = none) (s x : Operand) (l : Nat) (ts : Array TypeId) (hop : o.op = Op.call { callee := Callee.value s, args := #[x], argTypes := ts }) (hs : a.eval s = .func (.yield l) #[] #[]) (arg : Value) (hx : a.eval x = arg)
    (hd : F.depth.isSome = true → 1 ≤ n) (hy : YieldAt F (n - 1) P l #[arg] w R) (hK : ∀ e w', R e w' → ∃ v, e = .returned v ∧ K (a.put o.dst v) w') : if Region.wanted o (yielded ops a.tmps) = true then Oper.wpIn F n P o a w K Q else E := by
  have hw : Region.wanted o (yielded ops a.tmps) = true := by simp [Region.wanted, hg]
  rw [if_pos hw]
  obtain ⟨fn, tmps, assign, body, hrun, hR⟩ := hy
  unfold Oper.wpIn
  refine ⟨?_, ?_⟩
  · simp [Oper.about, hop, resolve, Deferred.ofValue, hs, Target.leads, Sem.run_pure]
  · rw [Oper.semAt_plain F _ _ (by rw [hop]; intro c hc'; cases hc')]
    simp [execOp, hop, resolve, Deferred.ofValue, invoke, hs, hx, hrun]
    refine ⟨hd, hR.mono ?_⟩
    intro e w' h
    obtain ⟨v, rfl, hk⟩ := hK e w' h
    exact hk

theorem run_append_none {P : Program} (w : World) (t ty e : TypeId) (i : TypeInfo) (ht : P.underlying t = some (.slice e)) (hi : P.info? e = some i) (a : Addr) (n c : Nat) (hn : n ≤ c) :
    (Builtin.append_ #[t, t] ty #[.slice (some a) n c, .slice none 0 0]).run P w = .ok (.slice (some a) n c) w := by
  simp [Builtin.append_, run_underlying ht, sizeOf, typeInfo, hi, Builtin.lenOf, Builtin.firstCells, hn, storeCells]

set_option maxRecDepth 8000 in
theorem append_first (X : World) (z : Int) (x : Rw) (hx : RowOk X 0 x) (hn : x.l.length ≤ 100) :
    ∃ (yy : Rw) (w' : World), (Builtin.append_ #[37, 37] 37 #[.slice (some ⟨X.heap.size, 0, none⟩) 1 1, x.val]).run Try.prog (X.alloc (.cells #[.int .i64 z] 2)).drew = .ok yy.val w' ∧ yy.l = z :: x.l ∧ RowOk w' X.heap.size yy ∧ Below X.heap.size X w' := by
  obtain ⟨i1, hi1, hi2, hi3, hi4⟩ := info_parts infoI
  have OE : ((X.alloc (.cells #[.int .i64 z] 2)).drew).ownsRow X.heap.size 2 1 (.slice (some ⟨X.heap.size, 0, none⟩) 1 1) 1 (ints [z]) := one_rowI X z X.heap.size (Nat.le_refl _)
  have BD : Below X.heap.size X (X.alloc (.cells #[.int .i64 z] 2)).drew := ((Below.refl _ X).alloc (Nat.le_refl _) _).drew
  rcases hx.what with ⟨h1, h2, h3⟩ | ⟨g, h1, _, _, h3, h4⟩
  · have e : x.val = .slice none 0 0 := by unfold Rw.val Rw.a; rw [h1, h2, h3]; rfl
    rw [e, run_append_none _ _ _ _ i1 Try.underlying37 hi1 _ _ _ (Nat.le_refl _)]
    obtain ⟨yy, q0, q1, q2, _⟩ := rowOk_of (l := [z]) OE rfl rfl
    exact ⟨yy, _, by rw [← q0], by rw [q1, h2], q2, BD⟩
  · have e : x.val = .slice (some ⟨g, 0, none⟩) x.l.length x.c := by unfold Rw.val Rw.a; rw [h1]; rfl
    obtain ⟨v', w', hr, o2, g2, _, _⟩ := run_append_own_at (P := Try.prog) (w := (X.alloc (.cells #[.int .i64 z] 2)).drew) X.heap.size 37 37 2 i1 (.int .i64 0) 1 8 Try.underlying37 hi1 hi2 hi3 hi4 rfl (by decide) _ _ _ OE ⟨g, 0, none⟩ x.l.length x.c (ints x.l) (by rw [ints_len]; omega)
      ((hx.below BD).cells h1) (ints_one _) (by unfold maxLen; omega) (by omega) BD.size
    obtain ⟨yy, q0, q1, q2, _⟩ := rowOk_of (l := z :: x.l) o2 (by simp; omega) rfl
    refine ⟨yy, w', by rw [e, hr, q0], q1, q2, BD.grown g2 BD.size (fun r e => Nat.le_of_eq (show X.heap.size = r from Option.some.inj e))⟩

/-- what stands between two rounds of the loop over those behind -/
structure InvI (J : Nat → (Nat → Prop) → World → Prop) (ro M : Nat → Prop) (W V4 : World) (b0 k : Nat) (s0 : Nat → Prop) (X : World) : Prop where
  ex : ∃ so : Nat → Prop, J (b0 + k) so X ∧ (∀ b, s0 b ↔ so b ∨ M b ∨ ro b) ∧ (∀ b, so b → ¬ M b) ∧ ∀ b, so b → b < X.heap.size
  mm : ∀ b, M b → X.heap[b]? = V4.heap[b]?
  ro : Rest ro W X
  sz : V4.heap.size ≤ X.heap.size

/-- what stands between two rounds of the loop over the first number -/
structure InvO (J : Nat → (Nat → Prop) → World → Prop) (ro : Nat → Prop) (W : World) (fm Y l k : Nat) (s : Nat → Prop) (ds : List Nat) (V : World) : Prop where
  jk : J (k * fm) s V
  bd : ∀ b, s b → b < V.heap.size
  ro : Rest ro W V
  yb : V.heap[Y]? = some (.cells #[.func (.yield l) #[] #[]] 76 (0, 0))
  ny : ¬ s Y
  dd : ∀ D ∈ ds, V.heap[D]? = some (.deferred (some []))
  nd : ds.Nodup
  ns : ∀ D ∈ ds, ¬ s D

theorem turnsP_at {m : Nat} {l : List Int} (hl : l.length = m + 1) {k q : Nat} (hk : k < l.length) (hq : q < factN m) : k * factN m + q < (turnsL (m + 1) l).length ∧ (turnsL (m + 1) l)[k * factN m + q]?.getD [] = zg l k :: ((turnsL m (l.eraseIdx k))[q]?.getD []) := by
  have hlen := turnsL_len (m + 1) l hl
  have he : (turnsL m (l.eraseIdx k)).length = factN m := turnsL_len m _ (by rw [erase_len hk]; omega)
  have h1 : k * factN m + q < (m + 1) * factN m := by
    have : (k + 1) * factN m ≤ (m + 1) * factN m := Nat.mul_le_mul_right _ (by omega)
    rw [Nat.add_mul] at this
    omega
  refine ⟨by rw [hlen]; exact h1, ?_⟩
  have key : ∀ d i, i + d = l.length → k < i → (turnsP m l i)[k * factN m + q]? = (turnsP m l (k + 1))[k * factN m + q]? := by
    intro d i
    induction i generalizing d with
    | zero => intro _ h; omega
    | succ i ih =>
      intro h h2
      by_cases e : i = k
      · rw [e]
      · rw [turnsP_succ, List.getElem?_append_left, ih (d + 1) (by omega) (by omega)]
        rw [turnsP_len hl (turnsL_len m) i (by omega)]
        have : (k + 1) * factN m ≤ i * factN m := Nat.mul_le_mul_right _ (by omega)
        rw [Nat.add_mul] at this
        omega
  rw [turnsL_succ, key 0 l.length (by omega) hk, turnsP_succ, List.getElem?_append_right (by rw [turnsP_len hl (turnsL_len m) k (by omega)]; omega), turnsP_len hl (turnsL_len m) k (by omega)]
  rw [show k * factN m + q - k * factN m = q by omega, List.getElem?_map, List.getElem?_eq_getElem (by omega)]
  simp

set_option maxRecDepth 8000 in
set_option maxHeartbeats 8000000 in
theorem orders1_gives : ∀ (m : Nat) (n : Nat) (y : Rw) (Bn : Nat) (w : World), y.l.length = m → m ≤ 6 → RowOk w 0 y → w.heap[Bn]? = some (.cells #[y.val] 37 (0, 0)) →
    GivesR Fence.wide n Try.prog 71 #[.pointer (some ⟨Bn, 0, none⟩)] (turnsL m y.l) (fun b => b = Bn ∨ y.o = some b) w := by
  intro m
  induction m with
  | zero => intro n y Bn w hl _ _ hB; exact orders1_zero n y Bn w (List.eq_nil_of_length_eq_zero hl) hB
  | succ m ih =>
    intro n y Bn w hl h6 hy0 hB l J W hro hrl hJ hY h0
    obtain ⟨i1, hi1, hi2, hi3, hi4⟩ := info_parts infoI
    have hyW : RowOk W 0 y := hy0.keep fun g hg => hro.block g (Or.inr hg)
    rcases hyW.what with ⟨_, e, _⟩ | ⟨g, ho, _, hI, hlc, hcm⟩
    · rw [e] at hl; simp at hl
    have hb : W.heap[Bn]? = some (.cells #[y.val] 37 (0, 0)) := (hro.block Bn (Or.inl rfl)).trans hB
    have lB := lt_of_block hb
    have lg := hI.lt
    have hv : y.val = .slice (some ⟨g, 0, none⟩) y.l.length y.c := by unfold Rw.val Rw.a; rw [ho]; rfl
    rw [hv] at hb
    obtain ⟨N, hN⟩ : ∃ N, N = y.l.length := ⟨_, rfl⟩
    have HN : Hid (N = y.l.length ∧ N = m + 1) := ⟨hN, by omega⟩
    rw [← hN] at hb hI hlc
    have N1 : N ≤ m + 1 := by omega
    have N2 : m + 1 ≤ N := by omega
    obtain ⟨L, hL⟩ : ∃ L, L = y.l := ⟨_, rfl⟩
    rw [← hL] at hI
    have HL : Hid (L = y.l ∧ L.length = N) := ⟨hL, by rw [hL]; exact hN.symm⟩
    unfold maxLen at hcm
    -- what is read lies still
    have HRO : Hid (∀ V, Rest (fun b => b = Bn ∨ y.o = some b) W V → V.cell? ⟨Bn, 0, none⟩ = some (.slice (some ⟨g, 0, none⟩) N y.c) ∧ ∀ i, i < N → V.cell? ⟨g, i, none⟩ = some (.int .i64 (zg L i))) := fun V hV => by
      have b1 := (hV.block Bn (Or.inl rfl)).trans hb
      obtain ⟨cur, h1, h2, h3⟩ := hI.blk (hV.block g (Or.inr ho))
      exact ⟨by simpa using cell_of_blk 0 b1 (by simp), fun i hi => by simp [World.cell?, h1, h3 i hi]⟩
    obtain ⟨W0, hW0⟩ : ∃ W0, W0 = W.alloc (.cells #[.func (.yield l) #[] #[]] 76) := ⟨_, rfl⟩
    have B0 : Below W.heap.size W W0 := by rw [hW0]; exact (Below.refl _ W).alloc (Nat.le_refl _) _
    have z0 : W0.heap.size = W.heap.size + 1 := by rw [hW0]; simp
    have bY0 : W0.heap[W.heap.size]? = some (.cells #[.func (.yield l) #[] #[]] 76 (0, 0)) := by rw [hW0]; exact heap_alloc_new _ _
    have R0 : Rest (fun b => b = Bn ∨ y.o = some b) W W0 := Rest.of B0 hrl
    have J0 : J 0 (fun b => b < W.heap.size) W0 := hJ _ _ _ _ h0 (Rest.of B0 fun k hk => hk)
    obtain ⟨c0, _⟩ := HRO.out W0 R0
    refine callsIn_of_wp_marks Try.func71 rfl trivial ?_ rfl
    simp only [Try.ntmps71, List.size_toArray, List.length_cons, List.length_nil, Nat.reduceAdd, Nat.reduceSub, Array.replicate_succ, Array.replicate_zero, List.push_toArray, List.append_toArray, List.nil_append, List.cons_append]
    have e0 : ((N : Int) == 0) = false := by simp; omega
    have HW0 : Hid (W0 = W.alloc (.cells #[.func (.yield l) #[] #[]] 76)) := hW0
    rw [hW0] at c0
    clear hN hL hW0 hv hb hI hy0 hB
    gi_wp2
    rw [← HW0.out]
    refine wpIn_loop (fun a V => ∃ (k : Nat) (z : Int) (s : Nat → Prop) (ds : List Nat) (u3 u4 u5 u6 u15 u16 u17 u18 u19 u20 u21 u22 u23 u24 u25 u26 u27 u28 u29 u30 u31 u32 u33 u34 u35 u36 u37 u38 : Value), z = (k : Int) ∧ k ≤ N ∧ InvO J (fun b => b = Bn ∨ y.o = some b) W (factN m) W.heap.size l k s ds V ∧ a = { tmps := #[.func (.yield l) #[] #[], .pointer (some ⟨Bn, 0, none⟩), .pointer (some ⟨W.heap.size, 0, none⟩), u3, u4, u5, u6, .slice (some ⟨g, 0, none⟩) N y.c, .int .i64 N, .bool false, undef, undef, .slice (some ⟨g, 0, none⟩) N y.c, .int .i64 N, .int .i64 z, u15, u16, u17, u18, u19, u20, u21, u22, u23, u24, u25, u26, u27, u28, u29, u30, u31, u32, u33, u34, u35, u36, u37, u38], defers := ds.map markD }) (fun a _ => N - (intOf (a.tmps.getD 14 undef)).toNat) ?_ ?_
    · exact ⟨0, 0, _, [], _, _, _, _, _, _, _, _, _, _, _, _, _, _, _, _, _, _, _, _, _, _, _, _, _, _, _, _, rfl, by omega, ⟨by rw [Nat.zero_mul]; exact J0, fun b hb => by omega, R0, bY0, by omega, (fun D hD => by cases hD), List.nodup_nil, (fun D hD => by cases hD)⟩, rfl⟩
    · rintro a V ⟨k, z, s, ds, u3, u4, u5, u6, u15, u16, u17, u18, u19, u20, u21, u22, u23, u24, u25, u26, u27, u28, u29, u30, u31, u32, u33, u34, u35, u36, u37, u38, hz, hk, hI, rfl⟩
      subst hz
      have HI : Hid _ := hI
      clear hI J0 h0 R0 c0 bY0
      by_cases hkt : k < N
      · have hkt' : (k : Int) < (N : Int) := by omega
        obtain ⟨c1, cg⟩ := HRO.out V HI.out.ro
        have cgk := cg k hkt
        have zV := HI.out.ro.size
        have hmx : Try.prog.follows .mixedOrders = true := by kernel_rfl
        obtain ⟨V1, hV1⟩ : ∃ V1, V1 = V.alloc (.cells #[.int .i64 (zg L k)] 2) := ⟨_, rfl⟩
        have BV1 : Below V.heap.size V V1 := by rw [hV1]; exact (Below.refl _ V).alloc (Nat.le_refl _) _
        have zV1 : V1.heap.size = V.heap.size + 1 := by rw [hV1]; simp
        have hRX : ∀ X, Below V.heap.size V X → Rest (fun b => b = Bn ∨ y.o = some b) W X := fun X hX => HI.out.ro.trans (Rest.of hX fun b hb => by have := hrl b hb; omega)
        have c1b : (V.alloc (.cells #[.int .i64 (zg L k)] 2)).drew.cell? ⟨Bn, 0, none⟩ = some (.slice (some ⟨g, 0, none⟩) N y.c) := by rw [← hV1]; exact (HRO.out _ (hRX _ BV1.drew)).1
        have c1a : (V.alloc (.cells #[.int .i64 (zg L k)] 2)).cell? ⟨Bn, 0, none⟩ = some (.slice (some ⟨g, 0, none⟩) N y.c) := by rw [← hV1]; exact (HRO.out _ (hRX _ BV1)).1
        have HCX : Hid (∀ X, Below V.heap.size V X → ∀ i, i < N → X.cell? ⟨g, i, none⟩ = some (.int .i64 (zg L i))) := fun X hX => (HRO.out X (hRX X hX)).2
        have HC1 : Hid (∀ X, Below V.heap.size V X → ∀ j u, (ints (L.take k))[j]? = some u → X.cell? ((⟨g, 0, none⟩ : Addr).add j) = some u) := fun X hX j u hju => by
          have hj : j < k := by have := (List.getElem?_eq_some_iff.1 hju).1; simp [ints] at this; omega
          have e := HCX.out X hX j (by omega)
          simp [ints, hj] at hju
          obtain ⟨a, ha, rfl⟩ := hju
          rw [addr_add, Nat.zero_add]
          simpa [zg, ha] using e
        obtain ⟨ad, HA, HC2⟩ : ∃ ad : Addr, (if y.c = k + 1 then some (⟨g, 0, none⟩ : Addr) else some ⟨g, k + 1, none⟩) = some ad ∧ Hid (∀ X, Below V.heap.size V X → ∀ j u, (ints (L.drop (k + 1)))[j]? = some u → X.cell? (ad.add j) = some u) := by
          have hl := HL.out.2
          by_cases hum : y.c = k + 1
          · refine ⟨⟨g, 0, none⟩, if_pos hum, fun X hX j u hju => ?_⟩
            rw [List.drop_eq_nil_of_le (by omega)] at hju
            simp [ints] at hju
          · refine ⟨⟨g, k + 1, none⟩, if_neg hum, fun X hX j u hju => ?_⟩
            have hj : j < N - (k + 1) := by have := (List.getElem?_eq_some_iff.1 hju).1; simp [ints] at this; omega
            have e := HCX.out X hX (k + 1 + j) (by omega)
            simp [ints, List.getElem?_drop] at hju
            obtain ⟨a, ha, rfl⟩ := hju
            rw [addr_add]
            simpa [zg, ha] using e
        have hj1' : (L.take k).length = k := by have := HL.out.2; simp; omega
        have hj2' : (L.drop (k + 1)).length = N - (k + 1) := by have := HL.out.2; simp; omega
        have n2 : (k : Int) + 1 ≤ (N : Int) := by omega
        have n3 : (N : Int) ≤ (y.c : Int) := by omega
        have n5 : ((k : Int) + 1).toNat = k + 1 := by omega
        have n6 : (k : Int) ≤ (y.c : Int) := by omega
        have n8 : (0 : Int) ≤ (k : Int) + 1 := by omega
        have k0 : (0 : Int) ≤ (k : Int) := by omega
        have wk : IntKind.i64.wrap ((k : Int) + 1) = (k : Int) + 1 := by rw [IntKind.wrap_i64]; omega
        obtain ⟨V2, hV2⟩ : ∃ V2, V2 = (V1.alloc (.cells #[.slice (some ⟨g, 0, none⟩) k y.c, .slice (some ad) (N - (k + 1)) (y.c - (k + 1))] 37)).drew := ⟨_, rfl⟩
        have BV2 : Below V.heap.size V V2 := by rw [hV2]; exact (BV1.alloc BV1.size _).drew
        have zV2 : V2.heap.size = V.heap.size + 2 := by
          have : V2.heap.size = V1.heap.size + 1 := by rw [hV2]; exact World.size_alloc _ _
          omega
        have hb2 : V2.heap[V1.heap.size]? = some (.cells #[.slice (some ⟨g, 0, none⟩) k y.c, .slice (some ad) (N - (k + 1)) (y.c - (k + 1))] 37 (0, 0)) := by rw [hV2]; exact heap_alloc_new V1 _
        have CC := concat2_any V1.heap.size k (N - (k + 1)) ⟨g, 0, none⟩ ad y.c (y.c - (k + 1)) (L.take k) (L.drop (k + 1)) hj1' hj2' V2 (by simpa using cell_of_blk 0 hb2 (by simp)) (by simpa using cell_of_blk 1 hb2 (by simp)) (by omega)
          (fun X hX => HC1.out X (BV2.then hX BV2.size)) (fun X hX => HC2.out X (BV2.then hX BV2.size)) (by omega) (by omega)
        rw [zV1, hV2, hV1] at CC
        have HZ : Hid (V1.heap.size = V.heap.size + 1 ∧ V2.heap.size = V.heap.size + 2) := ⟨zV1, zV2⟩
        have HV12 : Hid (V1 = V.alloc (.cells #[.int .i64 (zg L k)] 2) ∧ V2 = (V1.alloc (.cells #[.slice (some ⟨g, 0, none⟩) k y.c, .slice (some ad) (N - (k + 1)) (y.c - (k + 1))] 37)).drew) := ⟨hV1, hV2⟩
        have HA4 : Hid (V2.heap[V.heap.size]? = some (.cells #[.int .i64 (zg L k)] 2 (0, 0))) := by
          have h1 : V1.heap[V.heap.size]? = some (.cells #[.int .i64 (zg L k)] 2 (0, 0)) := by rw [hV1]; exact heap_alloc_new _ _
          have h2 : V2.heap[V.heap.size]? = V1.heap[V.heap.size]? := by rw [hV2]; exact Below.heap_alloc V1 _ _ (by omega)
          exact h2.trans h1
        clear hj1' hj2' HCX HC1 HC2 hb2 hV1 hV2 hRX zV1 zV2
        gi_wp2
        refine wpIn_mono (Q := Calm fun _ a' V3 => ∃ xx : Rw, a' = { tmps := #[.func (.yield l) #[] #[], .pointer (some ⟨Bn, 0, none⟩), .pointer (some ⟨W.heap.size, 0, none⟩), .int .i64 k, .pointer (some ⟨V.heap.size, 0, none⟩), xx.val, u6, .slice (some ⟨g, 0, none⟩) N y.c, .int .i64 N, .bool false, undef, undef, .slice (some ⟨g, 0, none⟩) N y.c, .int .i64 N, .int .i64 k, .bool true, .int .i64 k, .pointer (some ⟨g, k, none⟩), .int .i64 (zg L k), .slice (some ⟨g, 0, none⟩) N y.c, .int .i64 k, .slice (some ⟨g, 0, none⟩) k y.c, .slice (some ⟨g, 0, none⟩) N y.c, .int .i64 k, .int .i64 ((k : Int) + 1), .slice (some ad) (N - (k + 1)) (y.c - (k + 1)), .slice (some ⟨V.heap.size + 1, 0, none⟩) 2 2, xx.val, u28, u29, u30, u31, u32, u33, u34, u35, u36, u37, u38], defers := ds.map markD } ∧ xx.l = L.take k ++ L.drop (k + 1) ∧ RowOk V3 V2.heap.size xx ∧ Below V2.heap.size V2 V3) ?_ ?_
        · rw [HZ.out.2]
          gi_region_with_o (refine ⟨trivial, fun h => (by cases h), ?_⟩; refine (callsIn_wide.2 CC).mono ?_; rintro e V3 ⟨xx, rfl, hxl, hxo, hb3⟩)
          all_goals
            rw [← HV12.out.1, ← HV12.out.2] at hxo hb3
            rw [HZ.out.2] at hxo hb3
            exact ⟨xx, rfl, hxl, hxo, hb3⟩
        · rintro e a' V3 hq
          cases e <;> first | exact hq.elim | skip
          obtain ⟨xx, rfl, hxl, hxo, hb23⟩ := hq
          have hb3 : Below V.heap.size V V3 := BV2.then hb23 BV2.size
          clear CC c1a c1b HA
          have hxe : xx.l = L.eraseIdx k := by rw [hxl, List.eraseIdx_eq_take_drop_succ]
          have hxn : xx.l.length = m := by rw [hxe, erase_len (by have := HL.out.2; omega)]; have := HL.out.2; omega
          gi_wp2_with (refine ⟨trivial, fun h => (by cases h), ?_⟩; refine (callsIn_wide.2 (orders_any xx _)).mono ?_; rintro e w' ⟨rfl, hq⟩; have hq' := hq.symm; clear hq; subst hq')
          obtain ⟨V4, hV4⟩ : ∃ V4, V4 = V3.alloc (.cells #[xx.val] 37) := ⟨_, rfl⟩
          have B34 : Below V3.heap.size V3 V4 := by rw [hV4]; exact (Below.refl _ V3).alloc (Nat.le_refl _) _
          have z4 : V4.heap.size = V3.heap.size + 1 := by rw [hV4]; simp
          have z3 := hb3.size
          have BV4 : Below V.heap.size V V4 := hb3.then B34 z3
          have bB4 : V4.heap[V3.heap.size]? = some (.cells #[xx.val] 37 (0, 0)) := by rw [hV4]; exact heap_alloc_new _ _
          have xo4 : RowOk V4 0 xx := (hxo.below B34).low (Nat.zero_le _)
          have xlt : ∀ b, xx.o = some b → V.heap.size < b ∧ b < V3.heap.size := fun b hb => by have := hxo.lt hb; have := HZ.out.2; omega
          rw [← hV4]
          obtain ⟨M, hM⟩ : ∃ M : Nat → Prop, M = fun b => b < V4.heap.size ∧ ¬ s b := ⟨_, rfl⟩
          have sbd := HI.out.bd
          have hlen : (turnsL m xx.l).length = factN m := turnsL_len m _ hxn
          have roW : ∀ b, (b = Bn ∨ y.o = some b) → b < V.heap.size := fun b hb => by have := hrl b hb; omega
          refine range_own rfl (fun h => by cases h) (gf := 71) (lb := #[.pointer (some ⟨V3.heap.size, 0, none⟩)]) rfl trivial (enters_of Try.func71 (by kernel_rfl) rfl) (ih (n - 1) xx V3.heap.size V4 hxn (by omega) xo4 bB4) (Rest.refl _ _)
            (fun b hb => by
              rcases hb with hb | hb
              · omega
              · have := xlt b hb; omega) rfl
            (InvI J (fun b => b = Bn ∨ y.o = some b) M W V4 (k * factN m)) ?inv ?start (fun x => { tmps := #[.func (.yield l) #[] #[], .pointer (some ⟨Bn, 0, none⟩), .pointer (some ⟨W.heap.size, 0, none⟩), .int .i64 k, .pointer (some ⟨V.heap.size, 0, none⟩), xx.val, x.val, .slice (some ⟨g, 0, none⟩) N y.c, .int .i64 N, .bool false, undef, undef, .slice (some ⟨g, 0, none⟩) N y.c, .int .i64 N, .int .i64 k, .bool true, .int .i64 k, .pointer (some ⟨g, k, none⟩), .int .i64 (zg L k), .slice (some ⟨g, 0, none⟩) N y.c, .int .i64 k, .slice (some ⟨g, 0, none⟩) k y.c, .slice (some ⟨g, 0, none⟩) N y.c, .int .i64 k, .int .i64 ((k : Int) + 1), .slice (some ad) (N - (k + 1)) (y.c - (k + 1)), .slice (some ⟨V.heap.size + 1, 0, none⟩) 2 2, xx.val, xx.val, .func (.func 71) #[] #[.pointer (some ⟨V3.heap.size, 0, none⟩)], x.val, u31, u32, u33, u34, u35, u36, u37, u38], defers := [] }) ?assign ?body ?done
          case inv =>
            rintro k' s0 X1 X2 ⟨⟨so, j1, e1, e2, e3⟩, mm, rr, sz⟩ hR
            exact ⟨⟨so, hJ _ _ _ _ j1 (hR.sub fun b hb => (e1 b).2 (Or.inl hb)), e1, e2, fun b hb => by have := e3 b hb; have := hR.size; omega⟩, fun b hb => (hR.block b ((e1 b).2 (Or.inr (Or.inl hb)))).trans (mm b hb), rr.trans (hR.sub fun b hb => (e1 b).2 (Or.inr (Or.inr hb))), by have := hR.size; omega⟩
          case start =>
            refine ⟨⟨s, hJ _ _ _ _ HI.out.jk (Rest.of BV4 sbd), fun b => ⟨fun hb => ?_, fun hb => ?_⟩, fun b hb hm => ?_, fun b hb => by have := sbd b hb; have := BV4.size; omega⟩, fun b _ => rfl, HI.out.ro.trans (Rest.of BV4 roW), Nat.le_refl _⟩
            · by_cases hs : s b
              · exact Or.inl hs
              · exact Or.inr (Or.inl (by rw [hM]; exact ⟨hb, hs⟩))
            · have h4 := BV4.size
              rcases hb with hb | hb | hb
              · have := sbd b hb; omega
              · rw [hM] at hb; exact hb.1
              · have := roW b hb; omega
            · rw [hM] at hm; exact hm.2 hb
          case assign =>
            intro l' x X K hK
            gi_wp2
            exact hK
          case body =>
            rintro l' k' s0 x X hl' ⟨r, hr⟩ hnl hIn hc
            have hIn' := hIn
            obtain ⟨⟨so, j1, e1, e2, e3⟩, mm, rr, sz⟩ := hIn'
            have lY := lt_of_block HI.out.yb
            have mY : M W.heap.size := by rw [hM]; exact ⟨by have := BV4.size; omega, HI.out.ny⟩
            have mA : M V.heap.size := by rw [hM]; exact ⟨by omega, fun h => by have := sbd _ h; omega⟩
            have bY := (mm _ mY).trans ((BV4.block _ lY).trans HI.out.yb)
            have zz := HZ.out.2
            have z23 := hb23.size
            have bA := (mm _ mA).trans ((B34.block _ (by omega)).trans ((hb23.block _ (by omega)).trans HA4.out))
            have LX : W.heap.size < X.heap.size ∧ V.heap.size < X.heap.size := ⟨lt_of_block bY, lt_of_block bA⟩
            have hxlen : x.l.length = m := by
              have hm := hc.lt
              have e := hc.eq
              rw [List.getElem?_eq_getElem hm] at e
              have hp := turnsL_perm m xx.l hxn _ (List.getElem_mem hm)
              rw [e]
              exact hp.length_eq.trans hxn
            obtain ⟨yy, w10, hrun, hyl, hyo, B10⟩ := append_first X (zg L k) x hc.ok (by omega)
            have hk' : k' < factN m := by have := hc.lt; omega
            obtain ⟨t1, t2⟩ := turnsP_at (m := m) (l := y.l) (by have := HL.out; have := HN.out; omega) (k := k) (q := k') (by have := HN.out; omega) hk'
            have hYT := yield_any (m := n - 1 - 1 - 1) (hY (k * factN m + k') so yy w10 (hJ _ _ _ _ j1 (Rest.of B10 e3)) ⟨t1, by rw [t2, hyl, hc.eq, HL.out.1, hxe, HL.out.1], hyo.low (Nat.zero_le _), fun g' hg' h => by have := (hyo.lt hg').2; have := e3 _ h; omega, fun b hb => by have := e3 b hb; have := B10.size; omega⟩)
            have HYT : Hid _ := hYT
            have z10 := B10.size
            have cY : X.cell? ⟨W.heap.size, 0, none⟩ = some (.func (.yield l) #[] #[]) := by simpa using cell_of_blk 0 bY (by simp)
            have cA : X.cell? ⟨V.heap.size, 0, none⟩ = some (.int .i64 (zg L k)) := by simpa using cell_of_blk 0 bA (by simp)
            have cY2 : (X.alloc (.cells #[.int .i64 (zg L k)] 2)).drew.cell? ⟨W.heap.size, 0, none⟩ = some (.func (.yield l) #[] #[]) := by
              rw [← cY]; exact (((Below.refl _ X).alloc (Nat.le_refl _) _).drew).cell (p := ⟨W.heap.size, 0, none⟩) LX.1
            have cY3 : w10.cell? ⟨W.heap.size, 0, none⟩ = some (.func (.yield l) #[] #[]) := (B10.cell (p := ⟨W.heap.size, 0, none⟩) LX.1).trans cY
            have HPK : Hid (InvI J (fun b => b = Bn ∨ y.o = some b) M W V4 (k * factN m) k' s0 X ∧ Come (turnsL m xx.l) k' s0 x X) := ⟨hIn, hc⟩
            have HB10 : Hid (Below X.heap.size X w10) := B10
            have HYO : Hid (RowOk w10 X.heap.size yy) := hyo
            have HM : Hid (∀ b, M b ↔ b < V4.heap.size ∧ ¬ s b) := fun b => by rw [hM]
            clear hYT hIn hc j1 t1 t2 hyl bY bA B10 hyo hM hV4 ho
            gi_wp2
            refine wpIn_mono (Q := Calm fun _ a' w' => a' = { tmps := #[.func (.yield l) #[] #[], .pointer (some ⟨Bn, 0, none⟩), .pointer (some ⟨W.heap.size, 0, none⟩), .int .i64 k, .pointer (some ⟨V.heap.size, 0, none⟩), xx.val, x.val, .slice (some ⟨g, 0, none⟩) N y.c, .int .i64 N, .bool false, undef, undef, .slice (some ⟨g, 0, none⟩) N y.c, .int .i64 N, .int .i64 k, .bool true, .int .i64 k, .pointer (some ⟨g, k, none⟩), .int .i64 (zg L k), .slice (some ⟨g, 0, none⟩) N y.c, .int .i64 k, .slice (some ⟨g, 0, none⟩) k y.c, .slice (some ⟨g, 0, none⟩) N y.c, .int .i64 k, .int .i64 ((k : Int) + 1), .slice (some ad) (N - (k + 1)) (y.c - (k + 1)), .slice (some ⟨V.heap.size + 1, 0, none⟩) 2 2, xx.val, xx.val, .func (.func 71) #[] #[.pointer (some ⟨V3.heap.size, 0, none⟩)], x.val, .func (.yield l) #[] #[], .int .i64 (zg L k), .slice (some ⟨X.heap.size, 0, none⟩) 1 1, x.val, yy.val, .bool true, .bool false, u38], defers := [] } ∧ After J (fun b => b = Bn ∨ y.o = some b) (k * factN m + k') so yy w10 w') ?_ ?_
            · refine wpIn_region_any hmx ?_
              change wpAnyIn _ _ _ _ _ _ _ _ _ (World.drew _)
              refine wpAnyIn_ready (rs := [0, 1, 3]) (by kernel_rfl) (by simp) ?_
              refine AllReadyIn.cons rfl (fun K hK => ?_) ?_
              · skip
                go_simp
                refine hK _ _ ?_
                clear hK K
                refine wpAnyIn_ready (rs := [1, 3]) (by kernel_rfl) (by simp) ?_
                refine AllReadyIn.cons rfl (fun K hK => ?_) ?_
                · skip
                  go_simp
                  refine hK _ _ ?_
                  clear hK K
                  refine wpAnyIn_ready (rs := [2, 3]) (by kernel_rfl) (by simp) ?_
                  refine AllReadyIn.cons rfl (fun K hK => ?_) ?_
                  · skip
                    go_simp
                    refine hK _ _ ?_
                    clear hK K
                    refine wpAnyIn_ready (rs := [3]) (by kernel_rfl) (by simp) ?_
                    refine AllReadyIn.cons rfl (fun K hK => ?_) ?_
                    · skip
                      go_simp
                      refine hK _ _ ?_
                      clear hK K
                      refine wpAnyIn_ready (rs := [4]) (by kernel_rfl) (by simp) ?_
                      refine AllReadyIn.cons rfl (fun K hK => ?_) ?_
                      · skip
                        refine stepIn_append rfl (.tmp 33) (.tmp 34) 37 37 rfl _ _ hrun ?_
                        refine hK _ _ ?_
                        clear hK K
                        refine wpAnyIn_ready (rs := [5]) (by kernel_rfl) (by simp) ?_
                        refine AllReadyIn.cons rfl (fun K hK => ?_) ?_
                        · skip
                          refine stepIn_yield rfl (.tmp 31) (.tmp 35) l #[37] rfl rfl _ rfl (fun h => by cases h) HYT.out ?_
                          rintro e w11 ⟨rfl, hAf⟩
                          refine ⟨_, rfl, hK _ _ ?_⟩
                          clear hK K
                          refine wpAnyIn_ready (rs := [6]) (by kernel_rfl) (by simp) ?_
                          refine AllReadyIn.cons rfl (fun K hK => ?_) ?_
                          · skip
                            go_simp
                            refine hK _ _ ?_
                            clear hK K
                            refine wpAnyIn_done (by kernel_rfl) ?_ _
                            exact ⟨rfl, hAf⟩
                          exact AllReadyIn.nil
                        exact AllReadyIn.nil
                      exact AllReadyIn.nil
                    exact AllReadyIn.nil
                  refine AllReadyIn.cons rfl (fun K hK => ?_) ?_
                  · skip
                    go_simp
                    refine hK _ _ ?_
                    clear hK K
                    refine wpAnyIn_ready (rs := [2]) (by kernel_rfl) (by simp) ?_
                    refine AllReadyIn.cons rfl (fun K hK => ?_) ?_
                    · skip
                      go_simp
                      refine hK _ _ ?_
                      clear hK K
                      refine wpAnyIn_ready (rs := [4]) (by kernel_rfl) (by simp) ?_
                      refine AllReadyIn.cons rfl (fun K hK => ?_) ?_
                      · skip
                        refine stepIn_append rfl (.tmp 33) (.tmp 34) 37 37 rfl _ _ hrun ?_
                        refine hK _ _ ?_
                        clear hK K
                        refine wpAnyIn_ready (rs := [5]) (by kernel_rfl) (by simp) ?_
                        refine AllReadyIn.cons rfl (fun K hK => ?_) ?_
                        · skip
                          refine stepIn_yield rfl (.tmp 31) (.tmp 35) l #[37] rfl rfl _ rfl (fun h => by cases h) HYT.out ?_
                          rintro e w11 ⟨rfl, hAf⟩
                          refine ⟨_, rfl, hK _ _ ?_⟩
                          clear hK K
                          refine wpAnyIn_ready (rs := [6]) (by kernel_rfl) (by simp) ?_
                          refine AllReadyIn.cons rfl (fun K hK => ?_) ?_
                          · skip
                            go_simp
                            refine hK _ _ ?_
                            clear hK K
                            refine wpAnyIn_done (by kernel_rfl) ?_ _
                            exact ⟨rfl, hAf⟩
                          exact AllReadyIn.nil
                        exact AllReadyIn.nil
                      exact AllReadyIn.nil
                    exact AllReadyIn.nil
                  exact AllReadyIn.nil
                refine AllReadyIn.cons rfl (fun K hK => ?_) ?_
                · skip
                  go_simp
                  refine hK _ _ ?_
                  clear hK K
                  refine wpAnyIn_ready (rs := [1]) (by kernel_rfl) (by simp) ?_
                  refine AllReadyIn.cons rfl (fun K hK => ?_) ?_
                  · skip
                    go_simp
                    refine hK _ _ ?_
                    clear hK K
                    refine wpAnyIn_ready (rs := [2]) (by kernel_rfl) (by simp) ?_
                    refine AllReadyIn.cons rfl (fun K hK => ?_) ?_
                    · skip
                      go_simp
                      refine hK _ _ ?_
                      clear hK K
                      refine wpAnyIn_ready (rs := [4]) (by kernel_rfl) (by simp) ?_
                      refine AllReadyIn.cons rfl (fun K hK => ?_) ?_
                      · skip
                        refine stepIn_append rfl (.tmp 33) (.tmp 34) 37 37 rfl _ _ hrun ?_
                        refine hK _ _ ?_
                        clear hK K
                        refine wpAnyIn_ready (rs := [5]) (by kernel_rfl) (by simp) ?_
                        refine AllReadyIn.cons rfl (fun K hK => ?_) ?_
                        · skip
                          refine stepIn_yield rfl (.tmp 31) (.tmp 35) l #[37] rfl rfl _ rfl (fun h => by cases h) HYT.out ?_
                          rintro e w11 ⟨rfl, hAf⟩
                          refine ⟨_, rfl, hK _ _ ?_⟩
                          clear hK K
                          refine wpAnyIn_ready (rs := [6]) (by kernel_rfl) (by simp) ?_
                          refine AllReadyIn.cons rfl (fun K hK => ?_) ?_
                          · skip
                            go_simp
                            refine hK _ _ ?_
                            clear hK K
                            refine wpAnyIn_done (by kernel_rfl) ?_ _
                            exact ⟨rfl, hAf⟩
                          exact AllReadyIn.nil
                        exact AllReadyIn.nil
                      exact AllReadyIn.nil
                    exact AllReadyIn.nil
                  exact AllReadyIn.nil
                exact AllReadyIn.nil
              refine AllReadyIn.cons rfl (fun K hK => ?_) ?_
              · skip
                go_simp
                refine hK _ _ ?_
                clear hK K
                refine wpAnyIn_ready (rs := [0, 2, 3]) (by kernel_rfl) (by simp) ?_
                refine AllReadyIn.cons rfl (fun K hK => ?_) ?_
                · skip
                  go_simp
                  refine hK _ _ ?_
                  clear hK K
                  refine wpAnyIn_ready (rs := [2, 3]) (by kernel_rfl) (by simp) ?_
                  refine AllReadyIn.cons rfl (fun K hK => ?_) ?_
                  · skip
                    go_simp
                    refine hK _ _ ?_
                    clear hK K
                    refine wpAnyIn_ready (rs := [3]) (by kernel_rfl) (by simp) ?_
                    refine AllReadyIn.cons rfl (fun K hK => ?_) ?_
                    · skip
                      go_simp
                      refine hK _ _ ?_
                      clear hK K
                      refine wpAnyIn_ready (rs := [4]) (by kernel_rfl) (by simp) ?_
                      refine AllReadyIn.cons rfl (fun K hK => ?_) ?_
                      · skip
                        refine stepIn_append rfl (.tmp 33) (.tmp 34) 37 37 rfl _ _ hrun ?_
                        refine hK _ _ ?_
                        clear hK K
                        refine wpAnyIn_ready (rs := [5]) (by kernel_rfl) (by simp) ?_
                        refine AllReadyIn.cons rfl (fun K hK => ?_) ?_
                        · skip
                          refine stepIn_yield rfl (.tmp 31) (.tmp 35) l #[37] rfl rfl _ rfl (fun h => by cases h) HYT.out ?_
                          rintro e w11 ⟨rfl, hAf⟩
                          refine ⟨_, rfl, hK _ _ ?_⟩
                          clear hK K
                          refine wpAnyIn_ready (rs := [6]) (by kernel_rfl) (by simp) ?_
                          refine AllReadyIn.cons rfl (fun K hK => ?_) ?_
                          · skip
                            go_simp
                            refine hK _ _ ?_
                            clear hK K
                            refine wpAnyIn_done (by kernel_rfl) ?_ _
                            exact ⟨rfl, hAf⟩
                          exact AllReadyIn.nil
                        exact AllReadyIn.nil
                      exact AllReadyIn.nil
                    exact AllReadyIn.nil
                  refine AllReadyIn.cons rfl (fun K hK => ?_) ?_
                  · skip
                    go_simp
                    refine hK _ _ ?_
                    clear hK K
                    refine wpAnyIn_ready (rs := [2]) (by kernel_rfl) (by simp) ?_
                    refine AllReadyIn.cons rfl (fun K hK => ?_) ?_
                    · skip
                      go_simp
                      refine hK _ _ ?_
                      clear hK K
                      refine wpAnyIn_ready (rs := [4]) (by kernel_rfl) (by simp) ?_
                      refine AllReadyIn.cons rfl (fun K hK => ?_) ?_
                      · skip
                        refine stepIn_append rfl (.tmp 33) (.tmp 34) 37 37 rfl _ _ hrun ?_
                        refine hK _ _ ?_
                        clear hK K
                        refine wpAnyIn_ready (rs := [5]) (by kernel_rfl) (by simp) ?_
                        refine AllReadyIn.cons rfl (fun K hK => ?_) ?_
                        · skip
                          refine stepIn_yield rfl (.tmp 31) (.tmp 35) l #[37] rfl rfl _ rfl (fun h => by cases h) HYT.out ?_
                          rintro e w11 ⟨rfl, hAf⟩
                          refine ⟨_, rfl, hK _ _ ?_⟩
                          clear hK K
                          refine wpAnyIn_ready (rs := [6]) (by kernel_rfl) (by simp) ?_
                          refine AllReadyIn.cons rfl (fun K hK => ?_) ?_
                          · skip
                            go_simp
                            refine hK _ _ ?_
                            clear hK K
                            refine wpAnyIn_done (by kernel_rfl) ?_ _
                            exact ⟨rfl, hAf⟩
                          exact AllReadyIn.nil
                        exact AllReadyIn.nil
                      exact AllReadyIn.nil
                    exact AllReadyIn.nil
                  exact AllReadyIn.nil
                refine AllReadyIn.cons rfl (fun K hK => ?_) ?_
                · skip
                  go_simp
                  refine hK _ _ ?_
                  clear hK K
                  refine wpAnyIn_ready (rs := [0, 3]) (by kernel_rfl) (by simp) ?_
                  refine AllReadyIn.cons rfl (fun K hK => ?_) ?_
                  · skip
                    go_simp
                    refine hK _ _ ?_
                    clear hK K
                    refine wpAnyIn_ready (rs := [3]) (by kernel_rfl) (by simp) ?_
                    refine AllReadyIn.cons rfl (fun K hK => ?_) ?_
                    · skip
                      go_simp
                      refine hK _ _ ?_
                      clear hK K
                      refine wpAnyIn_ready (rs := [4]) (by kernel_rfl) (by simp) ?_
                      refine AllReadyIn.cons rfl (fun K hK => ?_) ?_
                      · skip
                        refine stepIn_append rfl (.tmp 33) (.tmp 34) 37 37 rfl _ _ hrun ?_
                        refine hK _ _ ?_
                        clear hK K
                        refine wpAnyIn_ready (rs := [5]) (by kernel_rfl) (by simp) ?_
                        refine AllReadyIn.cons rfl (fun K hK => ?_) ?_
                        · skip
                          refine stepIn_yield rfl (.tmp 31) (.tmp 35) l #[37] rfl rfl _ rfl (fun h => by cases h) HYT.out ?_
                          rintro e w11 ⟨rfl, hAf⟩
                          refine ⟨_, rfl, hK _ _ ?_⟩
                          clear hK K
                          refine wpAnyIn_ready (rs := [6]) (by kernel_rfl) (by simp) ?_
                          refine AllReadyIn.cons rfl (fun K hK => ?_) ?_
                          · skip
                            go_simp
                            refine hK _ _ ?_
                            clear hK K
                            refine wpAnyIn_done (by kernel_rfl) ?_ _
                            exact ⟨rfl, hAf⟩
                          exact AllReadyIn.nil
                        exact AllReadyIn.nil
                      exact AllReadyIn.nil
                    exact AllReadyIn.nil
                  refine AllReadyIn.cons rfl (fun K hK => ?_) ?_
                  · skip
                    go_simp
                    refine hK _ _ ?_
                    clear hK K
                    refine wpAnyIn_ready (rs := [0, 4]) (by kernel_rfl) (by simp) ?_
                    refine AllReadyIn.cons rfl (fun K hK => ?_) ?_
                    · skip
                      go_simp
                      refine hK _ _ ?_
                      clear hK K
                      refine wpAnyIn_ready (rs := [4]) (by kernel_rfl) (by simp) ?_
                      refine AllReadyIn.cons rfl (fun K hK => ?_) ?_
                      · skip
                        refine stepIn_append rfl (.tmp 33) (.tmp 34) 37 37 rfl _ _ hrun ?_
                        refine hK _ _ ?_
                        clear hK K
                        refine wpAnyIn_ready (rs := [5]) (by kernel_rfl) (by simp) ?_
                        refine AllReadyIn.cons rfl (fun K hK => ?_) ?_
                        · skip
                          refine stepIn_yield rfl (.tmp 31) (.tmp 35) l #[37] rfl rfl _ rfl (fun h => by cases h) HYT.out ?_
                          rintro e w11 ⟨rfl, hAf⟩
                          refine ⟨_, rfl, hK _ _ ?_⟩
                          clear hK K
                          refine wpAnyIn_ready (rs := [6]) (by kernel_rfl) (by simp) ?_
                          refine AllReadyIn.cons rfl (fun K hK => ?_) ?_
                          · skip
                            go_simp
                            refine hK _ _ ?_
                            clear hK K
                            refine wpAnyIn_done (by kernel_rfl) ?_ _
                            exact ⟨rfl, hAf⟩
                          exact AllReadyIn.nil
                        exact AllReadyIn.nil
                      exact AllReadyIn.nil
                    refine AllReadyIn.cons rfl (fun K hK => ?_) ?_
                    · skip
                      refine stepIn_append rfl (.tmp 33) (.tmp 34) 37 37 rfl _ _ hrun ?_
                      refine hK _ _ ?_
                      clear hK K
                      refine wpAnyIn_ready (rs := [0]) (by kernel_rfl) (by simp) ?_
                      refine AllReadyIn.cons rfl (fun K hK => ?_) ?_
                      · skip
                        go_simp
                        refine hK _ _ ?_
                        clear hK K
                        refine wpAnyIn_ready (rs := [5]) (by kernel_rfl) (by simp) ?_
                        refine AllReadyIn.cons rfl (fun K hK => ?_) ?_
                        · skip
                          refine stepIn_yield rfl (.tmp 31) (.tmp 35) l #[37] rfl rfl _ rfl (fun h => by cases h) HYT.out ?_
                          rintro e w11 ⟨rfl, hAf⟩
                          refine ⟨_, rfl, hK _ _ ?_⟩
                          clear hK K
                          refine wpAnyIn_ready (rs := [6]) (by kernel_rfl) (by simp) ?_
                          refine AllReadyIn.cons rfl (fun K hK => ?_) ?_
                          · skip
                            go_simp
                            refine hK _ _ ?_
                            clear hK K
                            refine wpAnyIn_done (by kernel_rfl) ?_ _
                            exact ⟨rfl, hAf⟩
                          exact AllReadyIn.nil
                        exact AllReadyIn.nil
                      exact AllReadyIn.nil
                    exact AllReadyIn.nil
                  exact AllReadyIn.nil
                refine AllReadyIn.cons rfl (fun K hK => ?_) ?_
                · skip
                  go_simp
                  refine hK _ _ ?_
                  clear hK K
                  refine wpAnyIn_ready (rs := [0, 2]) (by kernel_rfl) (by simp) ?_
                  refine AllReadyIn.cons rfl (fun K hK => ?_) ?_
                  · skip
                    go_simp
                    refine hK _ _ ?_
                    clear hK K
                    refine wpAnyIn_ready (rs := [2]) (by kernel_rfl) (by simp) ?_
                    refine AllReadyIn.cons rfl (fun K hK => ?_) ?_
                    · skip
                      go_simp
                      refine hK _ _ ?_
                      clear hK K
                      refine wpAnyIn_ready (rs := [4]) (by kernel_rfl) (by simp) ?_
                      refine AllReadyIn.cons rfl (fun K hK => ?_) ?_
                      · skip
                        refine stepIn_append rfl (.tmp 33) (.tmp 34) 37 37 rfl _ _ hrun ?_
                        refine hK _ _ ?_
                        clear hK K
                        refine wpAnyIn_ready (rs := [5]) (by kernel_rfl) (by simp) ?_
                        refine AllReadyIn.cons rfl (fun K hK => ?_) ?_
                        · skip
                          refine stepIn_yield rfl (.tmp 31) (.tmp 35) l #[37] rfl rfl _ rfl (fun h => by cases h) HYT.out ?_
                          rintro e w11 ⟨rfl, hAf⟩
                          refine ⟨_, rfl, hK _ _ ?_⟩
                          clear hK K
                          refine wpAnyIn_ready (rs := [6]) (by kernel_rfl) (by simp) ?_
                          refine AllReadyIn.cons rfl (fun K hK => ?_) ?_
                          · skip
                            go_simp
                            refine hK _ _ ?_
                            clear hK K
                            refine wpAnyIn_done (by kernel_rfl) ?_ _
                            exact ⟨rfl, hAf⟩
                          exact AllReadyIn.nil
                        exact AllReadyIn.nil
                      exact AllReadyIn.nil
                    exact AllReadyIn.nil
                  refine AllReadyIn.cons rfl (fun K hK => ?_) ?_
                  · skip
                    go_simp
                    refine hK _ _ ?_
                    clear hK K
                    refine wpAnyIn_ready (rs := [0, 4]) (by kernel_rfl) (by simp) ?_
                    refine AllReadyIn.cons rfl (fun K hK => ?_) ?_
                    · skip
                      go_simp
                      refine hK _ _ ?_
                      clear hK K
                      refine wpAnyIn_ready (rs := [4]) (by kernel_rfl) (by simp) ?_
                      refine AllReadyIn.cons rfl (fun K hK => ?_) ?_
                      · skip
                        refine stepIn_append rfl (.tmp 33) (.tmp 34) 37 37 rfl _ _ hrun ?_
                        refine hK _ _ ?_
                        clear hK K
                        refine wpAnyIn_ready (rs := [5]) (by kernel_rfl) (by simp) ?_
                        refine AllReadyIn.cons rfl (fun K hK => ?_) ?_
                        · skip
                          refine stepIn_yield rfl (.tmp 31) (.tmp 35) l #[37] rfl rfl _ rfl (fun h => by cases h) HYT.out ?_
                          rintro e w11 ⟨rfl, hAf⟩
                          refine ⟨_, rfl, hK _ _ ?_⟩
                          clear hK K
                          refine wpAnyIn_ready (rs := [6]) (by kernel_rfl) (by simp) ?_
                          refine AllReadyIn.cons rfl (fun K hK => ?_) ?_
                          · skip
                            go_simp
                            refine hK _ _ ?_
                            clear hK K
                            refine wpAnyIn_done (by kernel_rfl) ?_ _
                            exact ⟨rfl, hAf⟩
                          exact AllReadyIn.nil
                        exact AllReadyIn.nil
                      exact AllReadyIn.nil
                    refine AllReadyIn.cons rfl (fun K hK => ?_) ?_
                    · skip
                      refine stepIn_append rfl (.tmp 33) (.tmp 34) 37 37 rfl _ _ hrun ?_
                      refine hK _ _ ?_
                      clear hK K
                      refine wpAnyIn_ready (rs := [0]) (by kernel_rfl) (by simp) ?_
                      refine AllReadyIn.cons rfl (fun K hK => ?_) ?_
                      · skip
                        go_simp
                        refine hK _ _ ?_
                        clear hK K
                        refine wpAnyIn_ready (rs := [5]) (by kernel_rfl) (by simp) ?_
                        refine AllReadyIn.cons rfl (fun K hK => ?_) ?_
                        · skip
                          refine stepIn_yield rfl (.tmp 31) (.tmp 35) l #[37] rfl rfl _ rfl (fun h => by cases h) HYT.out ?_
                          rintro e w11 ⟨rfl, hAf⟩
                          refine ⟨_, rfl, hK _ _ ?_⟩
                          clear hK K
                          refine wpAnyIn_ready (rs := [6]) (by kernel_rfl) (by simp) ?_
                          refine AllReadyIn.cons rfl (fun K hK => ?_) ?_
                          · skip
                            go_simp
                            refine hK _ _ ?_
                            clear hK K
                            refine wpAnyIn_done (by kernel_rfl) ?_ _
                            exact ⟨rfl, hAf⟩
                          exact AllReadyIn.nil
                        exact AllReadyIn.nil
                      exact AllReadyIn.nil
                    exact AllReadyIn.nil
                  exact AllReadyIn.nil
                exact AllReadyIn.nil
              refine AllReadyIn.cons rfl (fun K hK => ?_) ?_
              · skip
                go_simp
                refine hK _ _ ?_
                clear hK K
                refine wpAnyIn_ready (rs := [0, 1]) (by kernel_rfl) (by simp) ?_
                refine AllReadyIn.cons rfl (fun K hK => ?_) ?_
                · skip
                  go_simp
                  refine hK _ _ ?_
                  clear hK K
                  refine wpAnyIn_ready (rs := [1]) (by kernel_rfl) (by simp) ?_
                  refine AllReadyIn.cons rfl (fun K hK => ?_) ?_
                  · skip
                    go_simp
                    refine hK _ _ ?_
                    clear hK K
                    refine wpAnyIn_ready (rs := [2]) (by kernel_rfl) (by simp) ?_
                    refine AllReadyIn.cons rfl (fun K hK => ?_) ?_
                    · skip
                      go_simp
                      refine hK _ _ ?_
                      clear hK K
                      refine wpAnyIn_ready (rs := [4]) (by kernel_rfl) (by simp) ?_
                      refine AllReadyIn.cons rfl (fun K hK => ?_) ?_
                      · skip
                        refine stepIn_append rfl (.tmp 33) (.tmp 34) 37 37 rfl _ _ hrun ?_
                        refine hK _ _ ?_
                        clear hK K
                        refine wpAnyIn_ready (rs := [5]) (by kernel_rfl) (by simp) ?_
                        refine AllReadyIn.cons rfl (fun K hK => ?_) ?_
                        · skip
                          refine stepIn_yield rfl (.tmp 31) (.tmp 35) l #[37] rfl rfl _ rfl (fun h => by cases h) HYT.out ?_
                          rintro e w11 ⟨rfl, hAf⟩
                          refine ⟨_, rfl, hK _ _ ?_⟩
                          clear hK K
                          refine wpAnyIn_ready (rs := [6]) (by kernel_rfl) (by simp) ?_
                          refine AllReadyIn.cons rfl (fun K hK => ?_) ?_
                          · skip
                            go_simp
                            refine hK _ _ ?_
                            clear hK K
                            refine wpAnyIn_done (by kernel_rfl) ?_ _
                            exact ⟨rfl, hAf⟩
                          exact AllReadyIn.nil
                        exact AllReadyIn.nil
                      exact AllReadyIn.nil
                    exact AllReadyIn.nil
                  exact AllReadyIn.nil
                refine AllReadyIn.cons rfl (fun K hK => ?_) ?_
                · skip
                  go_simp
                  refine hK _ _ ?_
                  clear hK K
                  refine wpAnyIn_ready (rs := [0, 2]) (by kernel_rfl) (by simp) ?_
                  refine AllReadyIn.cons rfl (fun K hK => ?_) ?_
                  · skip
                    go_simp
                    refine hK _ _ ?_
                    clear hK K
                    refine wpAnyIn_ready (rs := [2]) (by kernel_rfl) (by simp) ?_
                    refine AllReadyIn.cons rfl (fun K hK => ?_) ?_
                    · skip
                      go_simp
                      refine hK _ _ ?_
                      clear hK K
                      refine wpAnyIn_ready (rs := [4]) (by kernel_rfl) (by simp) ?_
                      refine AllReadyIn.cons rfl (fun K hK => ?_) ?_
                      · skip
                        refine stepIn_append rfl (.tmp 33) (.tmp 34) 37 37 rfl _ _ hrun ?_
                        refine hK _ _ ?_
                        clear hK K
                        refine wpAnyIn_ready (rs := [5]) (by kernel_rfl) (by simp) ?_
                        refine AllReadyIn.cons rfl (fun K hK => ?_) ?_
                        · skip
                          refine stepIn_yield rfl (.tmp 31) (.tmp 35) l #[37] rfl rfl _ rfl (fun h => by cases h) HYT.out ?_
                          rintro e w11 ⟨rfl, hAf⟩
                          refine ⟨_, rfl, hK _ _ ?_⟩
                          clear hK K
                          refine wpAnyIn_ready (rs := [6]) (by kernel_rfl) (by simp) ?_
                          refine AllReadyIn.cons rfl (fun K hK => ?_) ?_
                          · skip
                            go_simp
                            refine hK _ _ ?_
                            clear hK K
                            refine wpAnyIn_done (by kernel_rfl) ?_ _
                            exact ⟨rfl, hAf⟩
                          exact AllReadyIn.nil
                        exact AllReadyIn.nil
                      exact AllReadyIn.nil
                    exact AllReadyIn.nil
                  refine AllReadyIn.cons rfl (fun K hK => ?_) ?_
                  · skip
                    go_simp
                    refine hK _ _ ?_
                    clear hK K
                    refine wpAnyIn_ready (rs := [0, 4]) (by kernel_rfl) (by simp) ?_
                    refine AllReadyIn.cons rfl (fun K hK => ?_) ?_
                    · skip
                      go_simp
                      refine hK _ _ ?_
                      clear hK K
                      refine wpAnyIn_ready (rs := [4]) (by kernel_rfl) (by simp) ?_
                      refine AllReadyIn.cons rfl (fun K hK => ?_) ?_
                      · skip
                        refine stepIn_append rfl (.tmp 33) (.tmp 34) 37 37 rfl _ _ hrun ?_
                        refine hK _ _ ?_
                        clear hK K
                        refine wpAnyIn_ready (rs := [5]) (by kernel_rfl) (by simp) ?_
                        refine AllReadyIn.cons rfl (fun K hK => ?_) ?_
                        · skip
                          refine stepIn_yield rfl (.tmp 31) (.tmp 35) l #[37] rfl rfl _ rfl (fun h => by cases h) HYT.out ?_
                          rintro e w11 ⟨rfl, hAf⟩
                          refine ⟨_, rfl, hK _ _ ?_⟩
                          clear hK K
                          refine wpAnyIn_ready (rs := [6]) (by kernel_rfl) (by simp) ?_
                          refine AllReadyIn.cons rfl (fun K hK => ?_) ?_
                          · skip
                            go_simp
                            refine hK _ _ ?_
                            clear hK K
                            refine wpAnyIn_done (by kernel_rfl) ?_ _
                            exact ⟨rfl, hAf⟩
                          exact AllReadyIn.nil
                        exact AllReadyIn.nil
                      exact AllReadyIn.nil
                    refine AllReadyIn.cons rfl (fun K hK => ?_) ?_
                    · skip
                      refine stepIn_append rfl (.tmp 33) (.tmp 34) 37 37 rfl _ _ hrun ?_
                      refine hK _ _ ?_
                      clear hK K
                      refine wpAnyIn_ready (rs := [0]) (by kernel_rfl) (by simp) ?_
                      refine AllReadyIn.cons rfl (fun K hK => ?_) ?_
                      · skip
                        go_simp
                        refine hK _ _ ?_
                        clear hK K
                        refine wpAnyIn_ready (rs := [5]) (by kernel_rfl) (by simp) ?_
                        refine AllReadyIn.cons rfl (fun K hK => ?_) ?_
                        · skip
                          refine stepIn_yield rfl (.tmp 31) (.tmp 35) l #[37] rfl rfl _ rfl (fun h => by cases h) HYT.out ?_
                          rintro e w11 ⟨rfl, hAf⟩
                          refine ⟨_, rfl, hK _ _ ?_⟩
                          clear hK K
                          refine wpAnyIn_ready (rs := [6]) (by kernel_rfl) (by simp) ?_
                          refine AllReadyIn.cons rfl (fun K hK => ?_) ?_
                          · skip
                            go_simp
                            refine hK _ _ ?_
                            clear hK K
                            refine wpAnyIn_done (by kernel_rfl) ?_ _
                            exact ⟨rfl, hAf⟩
                          exact AllReadyIn.nil
                        exact AllReadyIn.nil
                      exact AllReadyIn.nil
                    exact AllReadyIn.nil
                  exact AllReadyIn.nil
                exact AllReadyIn.nil
              exact AllReadyIn.nil
            · rintro e a' w11 hq
              cases e <;> first | exact hq.elim | skip
              obtain ⟨rfl, so', j2, h3, b3, R3, Q3⟩ := hq
              gi_wp2
              have hB := HB10.out
              have hzB := hB.size
              have MX : ∀ b, M b → b < X.heap.size := fun b hb => by have := ((HM.out b).1 hb).1; omega
              have yyb : ∀ b, yy.o = some b → X.heap.size ≤ b := fun b hb => (HYO.out.lt hb).2
              have roX : ∀ b, (b = Bn ∨ y.o = some b) → b < X.heap.size := fun b hb => by have := roW b hb; omega
              have keep : ∀ b, b < X.heap.size → ¬ so b → w11.heap[b]? = X.heap[b]? := fun b hb hs => (R3.block b ⟨by omega, hs, fun e => by have := yyb b e; omega⟩).trans (hB.block b hb)
              have mm' : ∀ b, M b → w11.heap[b]? = V4.heap[b]? := fun b hb => (keep b (MX b hb) (fun h => e2 b h hb)).trans (mm b hb)
              have hs11 : X.heap.size ≤ w11.heap.size := by have := R3.size; omega
              refine ⟨fun b => so' b ∨ M b ∨ (b = Bn ∨ y.o = some b), ⟨⟨so', j2, fun b => Iff.rfl, fun b hb hm => ?_, b3⟩, mm', ?_, by omega⟩, ?_, ?_, ?_, ?_⟩
              · rcases h3 b hb with h | h | h
                · exact e2 b h hm
                · have := MX b hm; omega
                · have := MX b hm; have := yyb b h; omega
              · exact (rr.trans (Rest.of hB roX)).trans Q3
              · rintro b (h | h | h)
                · rcases h3 b h with h | h | h
                  · exact Or.inl ((e1 b).2 (Or.inl h))
                  · exact Or.inr (Or.inl (by omega))
                  · exact Or.inr (Or.inl (yyb b h))
                · exact Or.inl ((e1 b).2 (Or.inr (Or.inl h)))
                · exact Or.inl ((e1 b).2 (Or.inr (Or.inr h)))
              · rintro b (h | h | h)
                · exact b3 b h
                · have := MX b h; omega
                · have := roX b h; omega
              · exact ⟨R3.os.trans hB.os, R3.tape.trans hB.tape, R3.output.trans hB.output, hs11, fun b hb => keep b hb.1 (fun h => hb.2.1 ((e1 b).2 (Or.inl h)))⟩
              · refine ⟨R3.os.trans hB.os, R3.tape.trans hB.tape, R3.output.trans hB.output, hs11, fun b hb => ?_⟩
                have hMb : M b := by
                  refine (HM.out b).2 ?_
                  rcases hb with rfl | hb
                  · exact ⟨by omega, fun h => by have := sbd _ h; omega⟩
                  · have := xlt b hb; exact ⟨by omega, fun h => by have := sbd _ h; omega⟩
                exact (mm' b hMb).trans (mm b hMb).symm
          case done =>
            rintro D s0 X hD ⟨⟨so, j1, e1, e2, e3⟩, mm, rr, sz⟩ hnD hbd hdf
            have lY := lt_of_block HI.out.yb
            have mY : M W.heap.size := by rw [hM]; exact ⟨by have := BV4.size; omega, HI.out.ny⟩
            have bY := (mm _ mY).trans ((BV4.block _ lY).trans HI.out.yb)
            have mD : ∀ D' ∈ ds, M D' := fun D' h => by rw [hM]; exact ⟨by have := lt_of_block (HI.out.dd D' h); have := BV4.size; omega, HI.out.ns D' h⟩
            rw [hlen] at j1
            have hO : InvO J (fun b => b = Bn ∨ y.o = some b) W (factN m) W.heap.size l (k + 1) so (D :: ds) X := by
              refine ⟨by rw [Nat.add_mul, Nat.one_mul]; exact j1, e3, rr, bY, fun h => e2 _ h mY, fun D' h => ?_, List.nodup_cons.2 ⟨fun h => ?_, HI.out.nd⟩, fun D' h => ?_⟩
              · rcases List.mem_cons.1 h with rfl | h
                · exact hdf
                · exact (mm _ (mD D' h)).trans ((BV4.block _ (lt_of_block (HI.out.dd D' h))).trans (HI.out.dd D' h))
              · have := mD D h; rw [hM] at this; have := this.1; omega
              · rcases List.mem_cons.1 h with rfl | h
                · exact fun h => hnD ((e1 _).2 (Or.inl h))
                · exact fun h' => e2 _ h' (mD D' h)
            gi_wp2
            exact ⟨⟨k + 1, _, so, D :: ds, _, _, _, _, _, _, _, _, _, _, _, _, _, _, _, _, _, _, _, _, _, _, _, _, _, _, _, _, by go_num, by omega, hO, rfl⟩, by simp [intOf]; omega⟩
      · have e : k = N := by omega
        subst e
        have hkN : k = m + 1 := HN.out.2
        gi_wp2
        refine leaves_marks ds _ HI.out.dd HI.out.nd (fun W' hR hz => ?_)
        refine ⟨_, results_none rfl _ _ _, ⟨_, rfl⟩, s, ?_, fun b hb => by have := HI.out.bd b hb; omega⟩
        have e2 : (turnsL (m + 1) y.l).length = k * factN m := by rw [turnsL_len (m + 1) y.l (by have := HN.out.1; omega), hkN]; rfl
        rw [e2]
        exact hJ _ _ _ _ HI.out.jk (hR.sub fun b hb h => HI.out.ns b h hb)

end Go.Proofs.Ytnbeaeekfahijaa

/- Turns of the model. -/
namespace Go.Proofs.Ytnbeaeekfahijaa
open Go.RowKit

/-- what Turns tells -/
def turnsV (n : Int) : List (List Int) := if 0 ≤ n ∧ n ≤ 6 then turnsL n.toNat (upN n.toNat) else []

set_option maxRecDepth 8000 in
set_option maxHeartbeats 4000000 in
theorem specTurns_any (n : Int) (w : World) :
    Calls Try.prog 29 #[.int .i64 n] w fun e w' => ∃ v X, e = .returned v ∧ RRows w' w.heap.size v X ∧ X.map (·.l) = turnsV n ∧ AllSome X ∧ Below w.heap.size w w' := by
  obtain ⟨i1, hi1, hi2, hi3, hi4⟩ := info_parts infoI
  by_cases c : 0 ≤ n ∧ n ≤ 6
  · obtain ⟨m, rfl⟩ := Int.eq_ofNat_of_zero_le c.1
    have hm6 : m ≤ 6 := by omega
    have HV : Hid (turnsV (m : Int) = turnsL m (upN m)) := by unfold Hid turnsV; rw [if_pos c]; simp
    have dc : inB (m : Int) 0 6 = true := by unfold inB; simp; omega
    have HU : Hid (∀ k, upN (k + 1) = upN k ++ [(k : Int)]) := upN_succ
    go_enter Try.func29, Try.ntmps29
    go_wp2_with fail
    refine (l1In_any _ _ _ _).mono ?_
    rw [dc]
    rintro e w' ⟨rfl, hq⟩; have hq' := hq.symm; clear hq; subst hq'
    clear dc c
    go_wp2_with fail
    go_loopw [3, 4] (fun a i wr => ∃ (k : Nat) (x : Rw), k ≤ m ∧ i = .int .i64 k ∧ a = x.val ∧ Hid (x.l = upN k) ∧ Hid (RowOk wr w.heap.size x) ∧ Below w.heap.size w wr) (fun _ i _ => m - (intOf i).toNat)
    case atStart => exact ⟨0, ⟨some w.heap.size, 0, []⟩, by omega, rfl, rfl, rfl, ⟨rfl, Or.inr ⟨w.heap.size, 0, #[], rfl, Nat.le_refl _, heap_alloc_new _ _, Nat.le_refl _, Nat.zero_le _, rfl, rfl⟩⟩, (Below.refl _ _).alloc (Nat.le_refl _) _⟩
    case round =>
      obtain ⟨k, x, hk, rfl, rfl, HX, HR, hw⟩ := hrel
      have HL : Hid (x.l.length = k) := by rw [Hid, HX.out, upN_len]
      have z := hw.size
      by_cases hkt : k < m
      · have hkt' : (k : Int) < (m : Int) := by omega
        have OX := HR.out.below (box_below (cs := #[.int .i64 (k : Int)]) (T := 2))
        have hl := HL.out
        go_wp2_with (at_builtin; refine wpList_append_own_at _ rfl (.tmp 15) (.tmp 17) 37 rfl w.heap.size 2 i1 (.int .i64 0) 1 8 Try.underlying37 hi1 hi2 hi3 hi4 rfl (by decide) _ _ _ rfl OX ⟨wr.heap.size, 0, none⟩ 1 1 [.int .i64 (k : Int)] rfl rfl (cell_one_new _ _ _) (fun u hu => by obtain rfl := List.mem_singleton.1 hu; rfl) (by unfold maxLen; omega) (by omega) (by simp; omega) ?_)
        intro v1 w1 own1 grow1 nil1 at1
        obtain ⟨y, hy0, hyl, hyo, hyb⟩ := rowOk_of (l := x.l ++ [(k : Int)]) own1 (by simp; try omega) (by rw [ints_app]; rfl)
        have HB : Hid (Below w.heap.size w w1) := (hw.alloc z _).grown grow1 (by simp; omega) (fun r e => (World.ownsRow.lt OX r e).1)
        have HYL : Hid (y.l = upN (k + 1)) := by rw [Hid, hyl, HX.out, HU.out]
        subst hy0
        clear own1 grow1 nil1 at1 hyb OX hyl hl
        go_wp2
        go_roundw
        case rel => exact ⟨k + 1, y, by omega, by go_num, rfl, HYL.out, hyo, HB.out⟩
        case measure => simp [intOf]; omega
      · have e : k = m := by omega
        subst e
        go_wp2_with fail
        refine (l5Turns_any k x w.heap.size _ HR.out HL.out hm6).mono ?_
        rintro e w2 ⟨v, X, rfl, hR, hXl, hS, hb⟩
        go_wp2
        go_ret
        exact ⟨v, X, rfl, hR.low z, by rw [HV.out, hXl, HX.out], hS, hw.then hb z⟩
  · have dc : inB n 0 6 = false := by unfold inB; simp; omega
    have HV : Hid (turnsV n = []) := by unfold Hid turnsV; rw [if_neg c]
    go_enter Try.func29, Try.ntmps29
    go_wp2_with fail
    refine (l1In_any _ _ _ _).mono ?_
    rw [dc]
    rintro e w' ⟨rfl, hq⟩; have hq' := hq.symm; clear hq; subst hq'
    go_wp2
    go_ret
    exact ⟨_, [], rfl, none_rows w, by rw [HV.out]; rfl, (fun x hx => by cases hx), (Below.refl _ _).alloc (Nat.le_refl _) _⟩

theorem turnsV_bd (n : Int) : (turnsV n).length ≤ 720 ∧ ∀ t ∈ turnsV n, t.length ≤ 6 := by
  unfold turnsV
  by_cases c : 0 ≤ n ∧ n ≤ 6
  · rw [if_pos c]
    refine ⟨?_, fun t ht => ?_⟩
    · rw [turnsL_len _ _ (upN_len _)]; exact (factN_le _ (by omega)).1
    · rw [(turnsL_perm _ _ (upN_len _) t ht).length_eq, upN_len]; omega
  · rw [if_neg c]
    exact ⟨by simp, fun t ht => by cases ht⟩

end Go.Proofs.Ytnbeaeekfahijaa

/- Turns of the program. -/
namespace Go.Proofs.Ytnbeaeekfahijaa
open Go Go.RowKit Go.Shelf
attribute [local go_sem] Oper.semAt_some

theorem RowOk.raise {w : World} {base : Nat} {x : Rw} (h : RowOk w 0 x) (hb : ∀ g, x.o = some g → base ≤ g) : RowOk w base x := by
  refine ⟨h.1, ?_⟩
  rcases h.2 with h2 | ⟨g, cap, cur, e, _, h3⟩
  · exact Or.inl h2
  · refine Or.inr ⟨g, cap, cur, e, hb g ?_, h3⟩
    unfold Rw.val Rw.a at e
    injection e with e1 _ _
    cases ho : x.o with
    | none => rw [ho] at e1; cases e1
    | some g' => rw [ho] at e1; injection e1 with e1; injection e1 with e1; rw [e1]

/-- what the loop over the orders keeps: so many have been taken up -/
structure InvT (L : List (List Int)) (ro : Nat → Prop) (w : World) (Bt k : Nat) (s : Nat → Prop) (V : World) : Prop where
  ex : ∃ (v : Value) (X : List Rw), V.heap[Bt]? = some (.cells #[v] 34 (0, 0)) ∧ RRows V w.heap.size v X ∧ X.map (·.l) = L.take k ∧ (∀ g, v.ownBlock = some g → s g ∧ g ≠ Bt ∧ ¬ ro g) ∧ ∀ x ∈ X, ∀ g, x.o = some g → s g ∧ g ≠ Bt
  bel : Below w.heap.size w V
  old : ∀ b, b < w.heap.size → s b
  bt : s Bt ∧ ¬ ro Bt ∧ w.heap.size ≤ Bt
  sz : ∀ b, ro b → b < V.heap.size

theorem InvT.rest {L : List (List Int)} {ro : Nat → Prop} {w : World} {Bt k : Nat} {s : Nat → Prop} {V1 V2 : World} (h : InvT L ro w Bt k s V1) (hR : Rest s V1 V2) : InvT L ro w Bt k s V2 := by
  obtain ⟨⟨v, X, h1, h2, h3, h4, h5⟩, hb, ho, ht, hsz⟩ := h
  exact ⟨⟨v, X, (hR.block Bt ht.1).trans h1, h2.keep (fun g hg => hR.block g (h4 g hg).1) (fun x hx g hg => hR.block g (h5 x hx g hg).1), h3, h4, h5⟩, hb.trans (hR.below ho), ho, ht, fun b hb' => by have := hsz b hb'; have := hR.size; omega⟩

set_option maxRecDepth 8000 in
set_option maxHeartbeats 8000000 in
theorem implTurns_yes (m : Nat) (h6 : m ≤ 6) (w : World) :
    Calls Try.prog 27 #[.int .i64 (m : Int)] w fun e w' => ∃ v X, e = .returned v ∧ RRows w' w.heap.size v X ∧ X.map (·.l) = turnsL m (upN m) ∧ Below w.heap.size w w' := by
  obtain ⟨i1, hi1, hi2, hi3, hi4⟩ := info_parts infoI
  obtain ⟨j1, hj1, hj2, hj3, hj4⟩ := info_parts infoIS
  have dc : inB (m : Int) 0 6 = true := by unfold inB; simp; omega
  have HU : Hid (∀ k, upN (k + 1) = upN k ++ [(k : Int)]) := upN_succ
  obtain ⟨n, _⟩ : ∃ n : Nat, n = n := ⟨0, rfl⟩
  refine (callsIn_wide (n := n)).1 ?_
  refine callsIn_of_wp_marks Try.func27 rfl trivial ?_ rfl
  simp only [Try.ntmps27, List.size_toArray, List.length_cons, List.length_nil, Nat.reduceAdd, Nat.reduceSub, Array.replicate_succ, Array.replicate_zero, List.push_toArray, List.append_toArray, List.nil_append, List.cons_append]
  gi_wp2_with (refine ⟨trivial, fun h => (by cases h), ?_⟩; refine (callsIn_wide.2 (within_any _ _ _ _)).mono ?_; rw [dc]; rintro e w' ⟨rfl, hq⟩; have hq' := hq.symm; clear hq; subst hq')
  gi_loopw [3, 12] (fun a i wr => ∃ (k : Nat) (x : Rw), k ≤ m ∧ i = .int .i64 k ∧ a = x.val ∧ Hid (x.l = upN k) ∧ Hid (RowOk wr w.heap.size x) ∧ Below w.heap.size w wr) (fun _ i _ => m - (intOf i).toNat)
  case atStart => exact ⟨0, ⟨some w.heap.size, 0, []⟩, by omega, rfl, rfl, rfl, ⟨rfl, Or.inr ⟨w.heap.size, 0, #[], rfl, Nat.le_refl _, heap_alloc_new _ _, Nat.le_refl _, Nat.zero_le _, rfl, rfl⟩⟩, (Below.refl _ _).alloc (Nat.le_refl _) _⟩
  case round =>
    obtain ⟨k, x, hk, rfl, rfl, HX, HR, hw⟩ := hrel
    have HL : Hid (x.l.length = k) := by rw [Hid, HX.out, upN_len]
    have z := hw.size
    by_cases hkt : k < m
    · have hkt' : (k : Int) < (m : Int) := by omega
      have OX := HR.out.below (box_below (cs := #[.int .i64 (k : Int)]) (T := 2))
      have hl := HL.out
      gi_wp2_with (gi_at_builtin; refine wpListIn_append_own_at _ rfl (.tmp 15) (.tmp 17) 37 rfl w.heap.size 2 i1 (.int .i64 0) 1 8 Try.underlying37 hi1 hi2 hi3 hi4 rfl (by decide) _ _ _ rfl OX ⟨wr.heap.size, 0, none⟩ 1 1 [.int .i64 (k : Int)] rfl rfl (cell_one_new _ _ _) (fun u hu => by obtain rfl := List.mem_singleton.1 hu; rfl) (by unfold maxLen; omega) (by omega) (by simp; omega) ?_)
      intro v1 w1 own1 grow1 nil1 at1
      obtain ⟨y, hy0, hyl, hyo, hyb⟩ := rowOk_of (l := x.l ++ [(k : Int)]) own1 (by simp; try omega) (by rw [ints_app]; rfl)
      have HB : Hid (Below w.heap.size w w1) := (hw.alloc z _).grown grow1 (by simp; omega) (fun r e => (World.ownsRow.lt OX r e).1)
      have HYL : Hid (y.l = upN (k + 1)) := by rw [Hid, hyl, HX.out, HU.out]
      subst hy0
      clear own1 grow1 nil1 at1 hyb OX hyl hl
      gi_wp2
      go_roundw
      case rel => exact ⟨k + 1, y, by omega, by go_num, rfl, HYL.out, hyo, HB.out⟩
      case measure => simp [intOf]; omega
    · have e : k = m := by omega
      subst e
      gi_wp2_with (refine ⟨trivial, fun h => (by cases h), ?_⟩; refine (callsIn_wide.2 (orders_any x _)).mono ?_; rintro e w' ⟨rfl, hq⟩; have hq' := hq.symm; clear hq; subst hq')
      obtain ⟨Va, hVa⟩ : ∃ Va, Va = wr.alloc (.cells #[] 37) := ⟨_, rfl⟩
      obtain ⟨Vb, hVb⟩ : ∃ Vb, Vb = Va.alloc (.cells #[.slice (some ⟨wr.heap.size, 0, none⟩) 0 0] 34) := ⟨_, rfl⟩
      obtain ⟨V0, hV0⟩ : ∃ V0, V0 = Vb.alloc (.cells #[x.val] 37) := ⟨_, rfl⟩
      rw [← hVa, ← hVb, ← hV0]
      have za : Va.heap.size = wr.heap.size + 1 := by rw [hVa]; simp
      have zb : Vb.heap.size = wr.heap.size + 2 := by rw [hVb]; simp; omega
      have z0 : V0.heap.size = wr.heap.size + 3 := by rw [hV0]; simp; omega
      have Ba : Below wr.heap.size wr Va := by rw [hVa]; exact box_below
      have Bb : Below Va.heap.size Va Vb := by rw [hVb]; exact box_below
      have B0 : Below Vb.heap.size Vb V0 := by rw [hV0]; exact box_below
      have Bab := Ba.then Bb Ba.size
      have Bab0 := Bab.then B0 Bab.size
      have Bb0 := Bb.then B0 Bb.size
      have RR0 : RRows V0 w.heap.size (.slice (some ⟨wr.heap.size, 0, none⟩) 0 0) [] := by
        have h1 : RRows Va wr.heap.size (.slice (some ⟨wr.heap.size, 0, none⟩) 0 0) [] := by rw [hVa]; exact none_rows wr
        exact (h1.below Bb0).low z
      have bt0 : V0.heap[wr.heap.size + 1]? = some (.cells #[.slice (some ⟨wr.heap.size, 0, none⟩) 0 0] 34 (0, 0)) := by
        have h1 : Vb.heap[Va.heap.size]? = some (.cells #[.slice (some ⟨wr.heap.size, 0, none⟩) 0 0] 34 (0, 0)) := by rw [hVb]; exact heap_alloc_new _ _
        rw [za] at h1
        exact (B0.block _ (by omega)).trans h1
      have bn0 : V0.heap[wr.heap.size + 1 + 1]? = some (.cells #[x.val] 37 (0, 0)) := by
        have h1 : V0.heap[Vb.heap.size]? = some (.cells #[x.val] 37 (0, 0)) := by rw [hV0]; exact heap_alloc_new _ _
        rwa [zb] at h1
      have xo0 : RowOk V0 0 x := (HR.out.below Bab0).low (Nat.zero_le _)
      have xlt : ∀ b, x.o = some b → b < wr.heap.size := fun b hb => (HR.out.lt hb).1
      have BW0 : Below w.heap.size w V0 := hw.then Bab0 z
      have hk6 : (turnsL k x.l).length ≤ 720 := by rw [turnsL_len k x.l HL.out]; exact (factN_le k h6).1
      obtain ⟨Bt, hBt⟩ : ∃ Bt, Bt = wr.heap.size + 1 := ⟨_, rfl⟩
      obtain ⟨Bn, hBn⟩ : ∃ Bn, Bn = wr.heap.size + 1 + 1 := ⟨_, rfl⟩
      rw [← hBt] at bt0
      rw [← hBn] at bn0
      rw [← hBn, ← hBt]
      have q1 : Bt < V0.heap.size := by omega
      have q2 : Bn < V0.heap.size := by omega
      have q3 : Bt ≠ Bn := by omega
      have q4 : wr.heap.size < Bt := by omega
      have q5 : w.heap.size ≤ Bt := by omega
      have q6 : wr.heap.size ≠ Bn := by omega
      clear hVa hVb hV0 hBt hBn za zb Ba Bb B0 Bab Bb0
      refine range_own rfl (fun h => by cases h) (gf := 71) (lb := #[.pointer (some ⟨Bn, 0, none⟩)]) rfl trivial (enters_of Try.func71 (by kernel_rfl) rfl) (orders1_gives k (n - 1) x Bn V0 HL.out h6 xo0 bn0) (Rest.refl _ _)
        (fun b hb => by
          rcases hb with hb | hb
          · omega
          · have := xlt b hb; omega) rfl (InvT (turnsL k x.l) (fun b => b = Bn ∨ x.o = some b) w Bt) (fun k' s W1 W2 h hR => h.rest hR) ?start (fun x' => { tmps := #[.int .i64 k, undef, .slice none 0 0, x.val, u4, .pointer (some ⟨Bt, 0, none⟩), .slice x'.a x'.l.length x'.c, .int .i64 k, .bool true, .bool false, .slice (some ⟨w.heap.size, 0, none⟩) 0 0, .int .i64 k, .int .i64 k, .bool false, u14, u15, u16, u17, u18, u19, .slice (some ⟨wr.heap.size, 0, none⟩) 0 0, x.val, .func (.func 71) #[] #[.pointer (some ⟨Bn, 0, none⟩)], .slice x'.a x'.l.length x'.c, undef, undef, undef, undef, undef], defers := [] }) ?assign ?body ?done
      case start =>
        refine ⟨⟨_, [], bt0, RR0, rfl, fun g hg => ?_, fun x' hx' => by cases hx'⟩, BW0, fun b hb => by have := BW0.size; omega, ⟨q1, fun h => ?_, q5⟩, fun b hb => ?_⟩
        · have e : wr.heap.size = g := Option.some.inj hg
          subst e
          refine ⟨by omega, by omega, fun h => ?_⟩
          rcases h with h | h
          · exact q6 h
          · have := xlt _ h; omega
        · rcases h with h | h
          · exact q3 h
          · have := xlt _ h; omega
        · rcases hb with hb | hb
          · omega
          · have := xlt b hb; omega
      case assign =>
        intro l' x' X K hK
        unfold Rw.val
        gi_wp2
        exact hK
      case body =>
        rintro l' k' s x' V hl' ⟨r, hr⟩ hnl ⟨⟨v, X, hb, hR, hX, hv, hx⟩, hB, hold, ⟨ht, hnt, hgt⟩, hsz⟩ hc
        have oks : RowOk V w.heap.size x' := hc.ok.raise (fun g hg => by
          by_cases c : g < w.heap.size
          · exact absurd (hold g c) (hc.no g hg)
          · omega)
        have zV := hB.size
        have hXl : X.length ≤ 720 := by
          have h1 : X.length = ((turnsL k x.l).take k').length := by rw [← hX]; simp
          rw [h1, List.length_take]; omega
        have lt := lt_of_block hb
        have vlt : ∀ g, v.ownBlock = some g → g < V.heap.size := fun g hg => (World.ownsRow.lt hR.own g hg).2
        have cB : V.cell? ⟨Bt, 0, none⟩ = some v := by simpa using cell_of_blk 0 hb (by simp)
        have BX : Below V.heap.size V (V.alloc (.cells #[.slice x'.a x'.l.length x'.c] 37)) := box_below
        have OR := hR.below BX
        have HV : Hid (V.heap[Bt]? = some (.cells #[v] 34 (0, 0))) := hb
        clear hb
        gi_wp2_with (gi_at_builtin; refine wpListIn_append_own_at _ rfl (.tmp 24) (.tmp 26) 34 rfl w.heap.size 37 j1 (.slice none 0 0) 1 24 Try.underlying34 hj1 hj2 hj3 hj4 rfl (by decide) _ _ _ rfl OR.own ⟨V.heap.size, 0, none⟩ 1 1 [.slice x'.a x'.l.length x'.c] rfl rfl (cell_one_new _ _ _) (fun u hu => by obtain rfl := List.mem_singleton.1 hu; rfl) (by unfold maxLen; omega) (by omega) (by simp; omega) ?_)
        intro v2 W2 own2 grow2 nil2 at2
        replace at2 : v2.ownBlock = v.ownBlock ∨ v2.ownBlock = some (V.alloc (.cells #[.slice x'.a x'.l.length x'.c] 37)).heap.size := by rw [World.size_alloc]; exact at2
        replace grow2 : (V.alloc (.cells #[.slice x'.a x'.l.length x'.c] 37)).grownBy W2 v.ownBlock := grow2
        have zx : (V.alloc (.cells #[.slice x'.a x'.l.length x'.c] 37)).heap.size = V.heap.size + 1 := by simp
        have hfr : ∀ g, x'.o = some g → (∀ y ∈ X, y.o ≠ some g) ∧ v.ownBlock ≠ some g := fun g hg => ⟨fun y hy e => hc.no g hg (hx y hy g e).1, fun e => hc.no g hg (hv g e).1⟩
        have RR2 : RRows W2 w.heap.size v2 (X ++ [x']) := OR.app (oks.below BX) hfr own2 grow2 at2
        obtain ⟨g2, cap2, rfl⟩ := ownsRow_succ own2
        have g2lt := (World.ownsRow.lt own2 g2 rfl).2
        have zg := grow2.size
        have bt2 : W2.heap[Bt]? = some (.cells #[v] 34 (0, 0)) := (grow2.block Bt (by omega) (fun e => (hv Bt e.symm).2.1 rfl)).trans ((BX.block _ lt).trans HV.out)
        have cB2 : W2.cell? ⟨Bt, 0, none⟩ = some v := by simpa using cell_of_blk 0 bt2 (by simp)
        have fB2 : W2.frozen? ⟨Bt, 0, none⟩ = false := free_of_blk 0 bt2
        have F := blk_set (j := 0) bt2 (.slice (some ⟨g2, 0, none⟩) (X.length + 1) cap2)
        have HF : Hid ((W2.setCell ⟨Bt, 0, none⟩ (.slice (some ⟨g2, 0, none⟩) (X.length + 1) cap2)).heap[Bt]? = some (.cells #[.slice (some ⟨g2, 0, none⟩) (X.length + 1) cap2] 34 (0, 0))) := by unfold Hid; simpa using F
        have HRR : Hid _ := RR2
        have HGR : Hid _ := grow2
        have HAT : Hid (some g2 = v.ownBlock ∨ g2 = V.heap.size + 1) := by
          rcases at2 with e | e
          · exact Or.inl e
          · right; have e' : some g2 = some _ := e; injection e' with e'; omega
        have HC : Hid _ := hc
        have HXE : Hid (X.map (·.l) = (turnsL k x.l).take k') := hX
        clear F RR2 own2 grow2 nil2 at2 bt2 OR hc hX
        gi_wp2
        have hkeep : ∀ t : Nat → Prop, (∀ b, t b → b < V.heap.size ∧ b ≠ Bt ∧ v.ownBlock ≠ some b) → Rest t V (W2.setCell ⟨Bt, 0, none⟩ (.slice (some ⟨g2, 0, none⟩) (X.length + 1) cap2)) := fun t ht' => by
          have h1 := (Rest.refl t V).alloc (fun b hb => (ht' b hb).1) (.cells #[.slice x'.a x'.l.length x'.c] 37)
          have h2 : Rest t (V.alloc (.cells #[.slice x'.a x'.l.length x'.c] 37)) W2 := ⟨HGR.out.os, HGR.out.tape, HGR.out.output, HGR.out.size, fun b hb => HGR.out.block b (by have := (ht' b hb).1; omega) (Ne.symm (ht' b hb).2.2)⟩
          have h3 : Rest t W2 (W2.setCell ⟨Bt, 0, none⟩ (.slice (some ⟨g2, 0, none⟩) (X.length + 1) cap2)) := ⟨rfl, rfl, rfl, by simp [World.setCell], fun b hb => Below.heap_setCell _ _ _ _ (ht' b hb).2.1⟩
          exact (h1.trans h2).trans h3
        have zf : (W2.setCell ⟨Bt, 0, none⟩ (.slice (some ⟨g2, 0, none⟩) (X.length + 1) cap2)).heap.size = W2.heap.size := by simp [World.setCell]
        have g2ne : g2 ≠ Bt := by
          rcases HAT.out with e | e
          · exact (hv g2 e.symm).2.1
          · omega
        have x'lt : ∀ g, x'.o = some g → g < V.heap.size ∧ g ≠ Bt := fun g hg => ⟨(oks.lt hg).1, fun e => HC.out.no g hg (e ▸ ht)⟩
        refine ⟨fun b => s b ∨ x'.o = some b ∨ (V.heap.size ≤ b ∧ b < W2.heap.size), ⟨⟨_, X ++ [x'], HF.out, HRR.out.keep (fun g hg => ?_) (fun y hy g hg => ?_), ?_, fun g hg => ?_, fun y hy g hg => ?_⟩, ?_, fun b hb => Or.inl (hold b hb), ⟨Or.inl ht, hnt, hgt⟩, fun b hb => by have := hsz b hb; omega⟩, ?_, ?_, hkeep _ (fun b hb => ⟨hb.1, fun e => hb.2.1 (e ▸ ht), fun e => hb.2.1 (hv b e).1⟩), hkeep _ (fun b hb => ⟨hsz b hb, fun e => hnt (e ▸ hb), fun e => (hv b e).2.2 hb⟩)⟩
        · have e : g2 = g := Option.some.inj hg
          exact Below.heap_setCell _ _ _ _ (fun h => g2ne (e.trans h))
        · refine Below.heap_setCell _ _ _ _ ?_
          rcases List.mem_append.1 hy with hy | hy
          · exact (hx y hy g hg).2
          · obtain rfl := List.mem_singleton.1 hy
            exact (x'lt g hg).2
        · rw [List.map_append, HXE.out, List.take_succ_eq_append_getElem HC.out.lt]
          have e := HC.out.eq
          rw [List.getElem?_eq_getElem HC.out.lt] at e
          simp [e]
        · have e : g2 = g := Option.some.inj hg
          subst e
          rcases HAT.out with e | e
          · have := hv g2 e.symm; exact ⟨Or.inl this.1, this.2⟩
          · exact ⟨Or.inr (Or.inr ⟨by omega, g2lt⟩), g2ne, fun h => by have := hsz _ h; omega⟩
        · rcases List.mem_append.1 hy with hy | hy
          · exact ⟨Or.inl (hx y hy g hg).1, (hx y hy g hg).2⟩
          · obtain rfl := List.mem_singleton.1 hy
            exact ⟨Or.inr (Or.inl hg), (x'lt g hg).2⟩
        · exact hB.trans ((hkeep (fun b => b < w.heap.size) (fun b hb => ⟨by omega, by omega, fun e => by have := (World.ownsRow.lt hR.own b e).1; omega⟩)).below fun b hb => hb)
        · rintro b (h | h | h)
          · exact Or.inl h
          · exact Or.inr (Or.inr h)
          · exact Or.inr (Or.inl h.1)
        · rintro b (h | h | h)
          · have := HC.out.bd b h; omega
          · have := (x'lt b h).1; omega
          · omega
      case done =>
        rintro D s V hD ⟨⟨v, X, hb, hR, hX, hv, hx⟩, hB, hold, ⟨ht, hnt, hgt⟩, hsz⟩ hnD hbd hdf
        have cB : V.cell? ⟨Bt, 0, none⟩ = some v := by simpa using cell_of_blk 0 hb (by simp)
        have HR9 : Hid (RRows V w.heap.size v X) := hR
        have HX9 : Hid (X.map (·.l) = turnsL k (upN k)) := by
          rw [Hid, hX, List.take_length, HX.out]
        have zD : w.heap.size ≤ D := by have := BW0.size; omega
        clear hX hR
        gi_wp2
        refine ⟨by simp, .inl ⟨_, _, rfl, run_takeDeferred hdf, ?_⟩⟩
        refine ⟨_, results_tmp rfl _ _ _, v, X, rfl, HR9.out.keep (fun g hg => World.putObj_heap_other (fun e => hnD (e ▸ (hv g hg).1))) (fun y hy g hg => World.putObj_heap_other (fun e => hnD (e ▸ (hx y hy g hg).1))), HX9.out, hB.trans ((Rest.putObj V _ (s := fun b => b < w.heap.size) (by omega)).below fun b hb => hb)⟩

end Go.Proofs.Ytnbeaeekfahijaa

/- Turns, of the program and of the model, at every number. -/
namespace Go.Proofs.Ytnbeaeekfahijaa
open Go Go.RowKit

theorem implTurns_any (n : Int) (w : World) :
    Calls Try.prog 27 #[.int .i64 n] w fun e w' => ∃ v X, e = .returned v ∧ RRows w' w.heap.size v X ∧ X.map (·.l) = turnsV n ∧ Below w.heap.size w w' := by
  by_cases c : 0 ≤ n ∧ n ≤ 6
  · obtain ⟨m, rfl⟩ := Int.eq_ofNat_of_zero_le c.1
    refine (implTurns_yes m (by omega) w).mono ?_
    rintro e w' ⟨v, X, rfl, hR, hX, hB⟩
    exact ⟨v, X, rfl, hR, by rw [hX]; unfold turnsV; rw [if_pos c]; simp, hB⟩
  · have dc : inB n 0 6 = false := by unfold inB; simp; omega
    have HV : Hid (turnsV n = []) := by unfold Hid turnsV; rw [if_neg c]
    go_enter Try.func27, Try.ntmps27
    go_wp2_with fail
    refine (within_any _ _ _ _).mono ?_
    rw [dc]
    rintro e w' ⟨rfl, hq⟩; have hq' := hq.symm; clear hq; subst hq'
    go_wp2
    go_ret
    exact ⟨_, [], rfl, ⟨⟨rfl, Or.inl ⟨rfl, rfl⟩⟩, (fun x hx => by cases hx), List.Pairwise.nil, (fun x hx => by cases hx)⟩, by rw [HV.out]; rfl, Below.refl _ _⟩

theorem turns_tot {n : Int} {X : List Rw} (h : X.map (·.l) = turnsV n) : X.length ≤ 720 ∧ totR X X.length ≤ 4320 ∧ ∀ x ∈ X, x.l.length ≤ 6 := by
  obtain ⟨h1, h2⟩ := turnsV_bd n
  have hx : ∀ x ∈ X, x.l.length ≤ 6 := fun x hx => h2 _ (by rw [← h]; exact List.mem_map.2 ⟨x, hx, rfl⟩)
  have hl : X.length ≤ 720 := by have := congrArg List.length h; simp at this; omega
  exact ⟨hl, by have := totR_bd hx X.length (Nat.le_refl _); omega, hx⟩

end Go.Proofs.Ytnbeaeekfahijaa
