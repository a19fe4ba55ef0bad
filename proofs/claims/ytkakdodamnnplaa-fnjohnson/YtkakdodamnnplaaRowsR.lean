/- Rows of rows of int64s: each row in a block of its own; the laws' own helpers over them. -/
import Derived.Test.YtkakdodamnnplaaIntRow
namespace Go.Proofs.Ytkakdodamnnplaa
open Go.RowKit

theorem IntS.drewI {w : World} {a : Option Addr} {n cap : Nat} {zs : List Int} (h : IntS w a n cap zs) : IntS w.drew a n cap zs := h.below (Below.refl _ _).drew

/-- a row: its block (none: no block), its room, what it holds -/
structure Rw where
  o : Option Nat
  c : Nat
  l : List Int
def Rw.a (x : Rw) : Option Addr := x.o.map fun g => ⟨g, 0, none⟩
def Rw.val (x : Rw) : Value := .slice x.a x.l.length x.c
def ints (l : List Int) : List Value := l.map (Value.int .i64)

def RowOk (w : World) (base : Nat) (x : Rw) : Prop := w.ownsRow base 2 1 x.val x.l.length (ints x.l)

theorem RowOk.below {w w' : World} {base : Nat} {x : Rw} (h : RowOk w base x) (hb : Below w.heap.size w w') : RowOk w' base x := by
  refine ⟨h.1, ?_⟩
  rcases h.2 with h2 | ⟨g, cap, cur, e, h1, h2, h3⟩
  · exact Or.inl h2
  · exact Or.inr ⟨g, cap, cur, e, h1, (hb.block g (lt_of_block h2)).trans h2, h3⟩
theorem RowOk.keep {w w' : World} {base : Nat} {x : Rw} (h : RowOk w base x) (hb : ∀ g, x.o = some g → w'.heap[g]? = w.heap[g]?) : RowOk w' base x := by
  refine ⟨h.1, ?_⟩
  rcases h.2 with h2 | ⟨g, cap, cur, e, h1, h2, h3⟩
  · exact Or.inl h2
  · refine Or.inr ⟨g, cap, cur, e, h1, (hb g ?_).trans h2, h3⟩
    unfold Rw.val Rw.a at e
    injection e with e1 _ _
    cases ho : x.o with
    | none => rw [ho] at e1; cases e1
    | some g' => rw [ho] at e1; injection e1 with e1; injection e1 with e1; rw [e1]
theorem RowOk.low {w : World} {base base' : Nat} {x : Rw} (h : RowOk w base x) (hb : base' ≤ base) : RowOk w base' x := by
  refine ⟨h.1, ?_⟩
  rcases h.2 with h2 | ⟨g, cap, cur, e, h1, h3⟩
  · exact Or.inl h2
  · exact Or.inr ⟨g, cap, cur, e, by omega, h3⟩
/-- no block: nothing is held; a block: it is the row's -/
theorem RowOk.what {w : World} {base : Nat} {x : Rw} (h : RowOk w base x) : (x.o = none ∧ x.l = [] ∧ x.c = 0) ∨ (∃ g, x.o = some g ∧ base ≤ g ∧ IntB w g x.l.length x.l ∧ x.l.length ≤ x.c ∧ x.c ≤ maxLen) := by
  cases ho : x.o with
  | none =>
    left
    rcases h.2 with ⟨h1, h2⟩ | ⟨g, cap, cur, e, _⟩
    · unfold Rw.val at h1
      injection h1 with _ h3 h4
      exact ⟨rfl, List.eq_nil_of_length_eq_zero h3, h4⟩
    · unfold Rw.val Rw.a at e
      rw [ho] at e
      injection e with e1 _ _
      cases e1
  | some g =>
    right
    have h' : w.ownsRow base 2 1 (.slice (some ⟨g, 0, none⟩) x.l.length x.c) x.l.length (ints x.l) := by
      have := h; unfold RowOk Rw.val Rw.a at this; rw [ho] at this; exact this
    obtain ⟨h1, _, h3, h4, h5⟩ := own_ints h'
    exact ⟨g, rfl, h5, h1, h3, h4⟩
theorem RowOk.toS {w : World} {base : Nat} {x : Rw} (h : RowOk w base x) : IntS w x.a x.l.length x.c x.l := by
  rcases h.what with ⟨h1, h2, h3⟩ | ⟨g, h1, _, h2, h3, h4⟩
  · unfold Rw.a
    rw [h1, h2, h3]
    exact IntS.nil_ w
  · unfold Rw.a
    rw [h1]
    exact h2.toS rfl h3 h4
theorem RowOk.lt {w : World} {base : Nat} {x : Rw} (h : RowOk w base x) {g : Nat} (hg : x.o = some g) : g < w.heap.size ∧ base ≤ g := by
  rcases h.what with ⟨h1, _⟩ | ⟨g', h1, h0, h2, _⟩
  · rw [h1] at hg; cases hg
  · rw [h1] at hg; cases hg; exact ⟨h2.lt, h0⟩

/-- a row of rows -/
structure RRows (w : World) (base : Nat) (v : Value) (X : List Rw) : Prop where
  own : w.ownsRow base 34 1 v X.length (X.map Rw.val)
  ok : ∀ x ∈ X, RowOk w base x
  apart : X.Pairwise fun x y => ∀ g, x.o = some g → y.o ≠ some g
  outer : ∀ x ∈ X, ∀ g, x.o = some g → v.ownBlock ≠ some g

/-- a slice of slices that hold the lists L -/
structure SS (w : World) (v : Value) (L : List (List Int)) (X : List Rw) : Prop where
  sh : ∃ a c, v = .slice a X.length c ∧ X.length ≤ c ∧ c ≤ maxLen ∧ (0 < X.length → ∃ b, a = some ⟨b, 0, none⟩ ∧ b < w.heap.size ∧ ∀ i (hi : i < X.length), w.cell? ⟨b, i, none⟩ = some X[i].val)
  eq : X.map (·.l) = L
  ok : ∀ i (hi : i < X.length), IntS w X[i].a X[i].l.length X[i].c X[i].l

theorem own_cells {w : World} {base g cap n : Nat} {e : TypeId} {vs : List Value} (h : w.ownsRow base e 1 (.slice (some ⟨g, 0, none⟩) n cap) n vs) : g < w.heap.size ∧ base ≤ g ∧ n ≤ cap ∧ cap ≤ maxLen ∧ ∀ i (hi : i < vs.length), w.cell? ⟨g, i, none⟩ = some vs[i] := by
  have hl : vs.length = n := by have := h.1; omega
  rcases h.2 with ⟨e, _⟩ | ⟨g', cap', cur, e, hb, hg, h1, h2, h3, h4⟩
  · cases e
  · injection e with e1 _ e3
    injection e1 with e1
    injection e1 with e1 _ _
    subst e1 e3
    refine ⟨lt_of_block hg, hb, h1, h2, fun i hi => ?_⟩
    have : (cur.toList.take (n * 1))[i]? = vs[i]? := by rw [h4]
    rw [List.getElem?_take, if_pos (by omega), Array.getElem?_toList, List.getElem?_eq_getElem hi] at this
    simp [World.cell?, hg, this]

theorem RRows.toS {w : World} {base : Nat} {v : Value} {X : List Rw} (h : RRows w base v X) : SS w v (X.map (·.l)) X := by
  refine ⟨?_, rfl, fun i hi => (h.ok _ (List.getElem_mem hi)).toS⟩
  rcases h.own.2 with ⟨h1, h2⟩ | ⟨g, cap, cur, e, _⟩
  · exact ⟨none, 0, by rw [h1, h2], by omega, by unfold maxLen; omega, fun h3 => by omega⟩
  · have h0 := h.own
    rw [e] at h0
    obtain ⟨h1, _, h3, h4, h5⟩ := own_cells h0
    exact ⟨_, cap, e, h3, h4, fun _ => ⟨g, rfl, h1, fun i hi => by have := h5 i (by simpa using hi); rw [this]; simp⟩⟩
theorem SS.below {w w' : World} {v : Value} {L : List (List Int)} {X : List Rw} (h : SS w v L X) (hb : Below w.heap.size w w') : SS w' v L X := by
  obtain ⟨a, c, e, h1, h2, h3⟩ := h.sh
  refine ⟨⟨a, c, e, h1, h2, fun h0 => ?_⟩, h.eq, fun i hi => (h.ok i hi).below hb⟩
  obtain ⟨b, e2, h4, h5⟩ := h3 h0
  exact ⟨b, e2, Nat.lt_of_lt_of_le h4 hb.size, fun i hi => (hb.cell (p := ⟨b, i, none⟩) h4).trans (h5 i hi)⟩
theorem RRows.below {w w' : World} {base : Nat} {v : Value} {X : List Rw} (h : RRows w base v X) (hb : Below w.heap.size w w') : RRows w' base v X := by
  refine ⟨⟨h.own.1, ?_⟩, fun x hx => (h.ok x hx).below hb, h.apart, h.outer⟩
  rcases h.own.2 with h2 | ⟨g, cap, cur, e, h1, h2, h3⟩
  · exact Or.inl h2
  · exact Or.inr ⟨g, cap, cur, e, h1, (hb.block g (lt_of_block h2)).trans h2, h3⟩
theorem RRows.low {w : World} {base base' : Nat} {v : Value} {X : List Rw} (h : RRows w base v X) (hb : base' ≤ base) : RRows w base' v X := by
  refine ⟨⟨h.own.1, ?_⟩, fun x hx => (h.ok x hx).low hb, h.apart, h.outer⟩
  rcases h.own.2 with h2 | ⟨g, cap, cur, e, h1, h3⟩
  · exact Or.inl h2
  · exact Or.inr ⟨g, cap, cur, e, by omega, h3⟩

/-- how many numbers the first k rows hold -/
def totR (X : List Rw) (k : Nat) : Nat := ((X.take k).map fun x => x.l.length).sum
theorem totR_succ {X : List Rw} {k : Nat} (h : k < X.length) : totR X (k + 1) = totR X k + X[k].l.length := by
  unfold totR
  rw [List.take_succ_eq_append_getElem h, List.map_append, List.sum_append]
  simp
theorem totR_le {X : List Rw} : ∀ {j k : Nat}, j ≤ k → k ≤ X.length → totR X j ≤ totR X k
  | j, 0, h, _ => by have : j = 0 := by omega
                     subst this; exact Nat.le_refl _
  | j, k + 1, h, hk => by
    by_cases e : j = k + 1
    · subst e; exact Nat.le_refl _
    · have := totR_le (X := X) (j := j) (k := k) (by omega) (by omega)
      rw [totR_succ (by omega)]
      omega
theorem totR_bd {X : List Rw} {m : Nat} (h : ∀ x ∈ X, x.l.length ≤ m) : ∀ k, k ≤ X.length → totR X k ≤ k * m
  | 0, _ => by simp [totR]
  | k + 1, hk => by
    have h1 := totR_bd h k (by omega)
    have h2 := h _ (List.getElem_mem (show k < X.length by omega))
    rw [totR_succ (by omega), Nat.add_mul]
    omega

/-- of the rows of X the first k hold their marks -/
def MarkedTo (w : World) (X : List Rw) (k0 : Int) (k : Nat) : Prop :=
  ∀ i (hi : i < X.length), i < k → ∀ g, X[i].o = some g → IntB w g X[i].l.length (imarks (k0 + totR X i) X[i].l.length)

/-- the row of rows with all its rows marked -/
structure Held (w : World) (v : Value) (X : List Rw) (k0 : Int) : Prop where
  sh : ∃ a c, v = .slice a X.length c ∧ X.length ≤ c ∧ c ≤ maxLen ∧ (0 < X.length → ∃ b, a = some ⟨b, 0, none⟩ ∧ b < w.heap.size ∧ ∀ i (hi : i < X.length), w.cell? ⟨b, i, none⟩ = some X[i].val)
  mkd : MarkedTo w X k0 X.length
  nl : ∀ x ∈ X, x.o = none → x.l = [] ∧ x.c = 0
theorem Held.below {w w' : World} {v : Value} {X : List Rw} {k0 : Int} (h : Held w v X k0) (hb : Below w.heap.size w w') : Held w' v X k0 := by
  obtain ⟨a, c, e, h1, h2, h3⟩ := h.sh
  refine ⟨⟨a, c, e, h1, h2, fun h0 => ?_⟩, fun i hi hk g hg => (h.mkd i hi hk g hg).below hb, h.nl⟩
  obtain ⟨b, e2, h4, h5⟩ := h3 h0
  exact ⟨b, e2, Nat.lt_of_lt_of_le h4 hb.size, fun i hi => (hb.cell (p := ⟨b, i, none⟩) h4).trans (h5 i hi)⟩

theorem IntB.blk {w w' : World} {B n : Nat} {zs : List Int} (h : IntB w B n zs) (hb : w'.heap[B]? = w.heap[B]?) : IntB w' B n zs := by
  obtain ⟨cur, h1, h2⟩ := h
  exact ⟨cur, hb.trans h1, h2⟩

theorem apart_ne {X : List Rw} (h : X.Pairwise fun x y => ∀ g, x.o = some g → y.o ≠ some g) {i j : Nat} (hi : i < X.length) (hj : j < X.length) (hne : i ≠ j) {g : Nat} (hg : X[i].o = some g) : X[j].o ≠ some g := by
  rw [List.pairwise_iff_getElem] at h
  rcases Nat.lt_or_gt_of_ne hne with c | c
  · exact h i j hi hj c g hg
  · exact fun e => h j i hj hi c g e hg

end Go.Proofs.Ytkakdodamnnplaa
