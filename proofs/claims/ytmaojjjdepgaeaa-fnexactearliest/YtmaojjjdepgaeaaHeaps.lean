/- Several texts in one. -/
import Derived.Test.YtmaojjjdepgaeaaJob
import Derived.Test.YtmaojjjdepgaeaaCmp
import Derived.Test.YtmaojjjdepgaeaaStepApp
import Derived.Test.YtmaojjjdepgaeaaInts
import Derived.Deep.RegionHeld3
import Derived.Shelf.SlSortCmp.QuietGrown
import Derived.BigRegion
import Derived.Shelf.Abstract
import Derived.Deep.RegionLaw
/- A heap, plain mathematics: jobs by their dues, then by their ids. -/
namespace Go.Proofs.Ytmaojjjdepgaeaa

/-- is the one ahead of the other: due sooner, or as soon and a lesser id -/
def mlt (a b : Jb) : Prop := a.due < b.due ∨ (a.due = b.due ∧ a.id < b.id)
def mle (a b : Jb) : Prop := a.due < b.due ∨ (a.due = b.due ∧ a.id ≤ b.id)
theorem mle_of_lt {a b : Jb} (h : mlt a b) : mle a b := by unfold mlt at h; unfold mle; omega
theorem mle_of_not {a b : Jb} (h : ¬ mlt a b) : mle b a := by unfold mlt at h; unfold mle; omega
theorem mle_refl (a : Jb) : mle a a := by unfold mle; omega
theorem mle_trans {a b c : Jb} (h : mle a b) (k : mle b c) : mle a c := by unfold mle at *; omega

def mg (ys : List (Jb)) (i : Nat) : Jb := ys.getD i jb0
def sw (ys : List (Jb)) (i j : Nat) : List (Jb) := (ys.set i (mg ys j)).set j (mg ys i)

theorem mg_get {ys : List (Jb)} {i : Nat} (h : i < ys.length) : mg ys i = ys[i] := by simp [mg, h]
theorem sw_len (ys : List (Jb)) (i j : Nat) : (sw ys i j).length = ys.length := by simp [sw]
theorem sw_perm {ys : List (Jb)} {i j : Nat} (hi : i < ys.length) (hj : j < ys.length) : (sw ys i j).Perm ys := by
  unfold sw; rw [mg_get hi, mg_get hj]; exact List.set_set_perm hi hj
theorem sw_j {ys : List (Jb)} {i j : Nat} (hj : j < ys.length) : mg (sw ys i j) j = mg ys i := by
  unfold sw; rw [mg_get (by simpa using hj)]; simp
theorem sw_i {ys : List (Jb)} {i j : Nat} (hi : i < ys.length) (hj : j < ys.length) : mg (sw ys i j) i = mg ys j := by
  by_cases e : i = j
  · subst e; exact sw_j hj
  · unfold sw; rw [mg_get (by simpa using hi)]; rw [List.getElem_set_ne (by omega)]; simp
theorem sw_o {ys : List (Jb)} {i j k : Nat} (h1 : k ≠ i) (h2 : k ≠ j) : mg (sw ys i j) k = mg ys k := by
  unfold sw mg; simp only [List.getD_eq_getElem?_getD]; rw [List.getElem?_set_ne (by omega), List.getElem?_set_ne (by omega)]

/-- each of the first n is behind the one above it -/
def IsHp (ys : List (Jb)) (n : Nat) : Prop := ∀ c, 0 < c → c < n → mle (mg ys ((c - 1) / 2)) (mg ys c)
/-- but number j may be ahead of the one above it -/
structure UpI (ys : List (Jb)) (n j : Nat) : Prop where
  one : ∀ c, 0 < c → c < n → c ≠ j → mle (mg ys ((c - 1) / 2)) (mg ys c)
  two : ∀ c, 0 < c → c < n → (c - 1) / 2 = j → 0 < j → mle (mg ys ((j - 1) / 2)) (mg ys c)
theorem UpI.stop {ys : List (Jb)} {n j : Nat} (h : UpI ys n j) (hs : j = 0 ∨ ¬ mlt (mg ys j) (mg ys ((j - 1) / 2))) : IsHp ys n := fun c h0 hn => by
  by_cases e : c = j
  · subst e; rcases hs with hs | hs
    · omega
    · exact mle_of_not hs
  · exact h.one c h0 hn e
theorem UpI.step {ys : List (Jb)} {n j p : Nat} (h : UpI ys n j) (hn : n ≤ ys.length) (hj : j < n) (h0 : 0 < j) (hp : p = (j - 1) / 2) (hl : mlt (mg ys j) (mg ys p)) : UpI (sw ys p j) n p := by
  have hpj : p < j := by omega
  have ei : mg (sw ys p j) p = mg ys j := sw_i (by omega) (by omega)
  have ej : mg (sw ys p j) j = mg ys p := sw_j (by omega)
  constructor
  · intro c hc hcn hne
    by_cases e : c = j
    · subst e; rw [← hp, ei, ej]; exact mle_of_lt hl
    · rw [sw_o hne e]
      by_cases e1 : (c - 1) / 2 = p
      · rw [e1, ei]; exact mle_trans (mle_of_lt hl) (by have := h.one c hc hcn e; rwa [e1] at this)
      · by_cases e2 : (c - 1) / 2 = j
        · rw [e2, ej]; have := h.two c hc hcn e2 h0; rwa [← hp] at this
        · rw [sw_o e1 e2]; exact h.one c hc hcn e
  · intro c hc hcn e hp0
    rw [sw_o (by omega) (by omega)]
    have h1 := h.one p hp0 (by omega) (by omega)
    by_cases e1 : c = j
    · subst e1; rw [ej]; exact h1
    · rw [sw_o (by omega) e1]
      refine mle_trans h1 ?_
      have := h.one c hc hcn e1
      rwa [e] at this

/-- but number i may be behind those below it -/
structure DnI (ys : List (Jb)) (n i : Nat) : Prop where
  one : ∀ c, 0 < c → c < n → (c - 1) / 2 ≠ i → mle (mg ys ((c - 1) / 2)) (mg ys c)
  two : ∀ c, 0 < c → c < n → (c - 1) / 2 = i → 0 < i → mle (mg ys ((i - 1) / 2)) (mg ys c)
/-- number j is the first of the two below number i -/
structure Kid (ys : List (Jb)) (n i j : Nat) : Prop where
  lt : j < n
  pos : 0 < j
  up : (j - 1) / 2 = i
  le : ∀ c, 0 < c → c < n → (c - 1) / 2 = i → mle (mg ys j) (mg ys c)
theorem Kid.one {ys : List (Jb)} {n i : Nat} (h : 2 * i + 1 < n) (h2 : ¬ 2 * i + 2 < n) : Kid ys n i (2 * i + 1) :=
  ⟨h, by omega, by omega, fun c _ _ _ => by rw [show c = 2 * i + 1 by omega]; exact mle_refl _⟩
theorem Kid.left {ys : List (Jb)} {n i : Nat} (h2 : 2 * i + 2 < n) (hl : ¬ mlt (mg ys (2 * i + 2)) (mg ys (2 * i + 1))) : Kid ys n i (2 * i + 1) :=
  ⟨by omega, by omega, by omega, fun c _ _ _ => by
    by_cases e : c = 2 * i + 1
    · rw [e]; exact mle_refl _
    · rw [show c = 2 * i + 2 by omega]; exact mle_of_not hl⟩
theorem Kid.right {ys : List (Jb)} {n i : Nat} (h2 : 2 * i + 2 < n) (hl : mlt (mg ys (2 * i + 2)) (mg ys (2 * i + 1))) : Kid ys n i (2 * i + 2) :=
  ⟨by omega, by omega, by omega, fun c _ _ _ => by
    by_cases e : c = 2 * i + 1
    · rw [e]; exact mle_of_lt hl
    · rw [show c = 2 * i + 2 by omega]; exact mle_refl _⟩
theorem DnI.leaf {ys : List (Jb)} {n i : Nat} (h : DnI ys n i) (hs : ¬ 2 * i + 1 < n) : IsHp ys n := fun c h0 hn => h.one c h0 hn (by omega)
theorem DnI.stop {ys : List (Jb)} {n i j : Nat} (h : DnI ys n i) (k : Kid ys n i j) (hl : ¬ mlt (mg ys j) (mg ys i)) : IsHp ys n := fun c h0 hn => by
  by_cases e : (c - 1) / 2 = i
  · rw [e]; exact mle_trans (mle_of_not hl) (k.le c h0 hn e)
  · exact h.one c h0 hn e
theorem DnI.step {ys : List (Jb)} {n i j : Nat} (h : DnI ys n i) (hn : n ≤ ys.length) (k : Kid ys n i j) (hl : mlt (mg ys j) (mg ys i)) : DnI (sw ys i j) n j := by
  have hjn := k.lt
  have hj0 := k.pos
  have hu := k.up
  have hij : i < j := by omega
  have ei : mg (sw ys i j) i = mg ys j := sw_i (by omega) (by omega)
  have ej : mg (sw ys i j) j = mg ys i := sw_j (by omega)
  constructor
  · intro c hc hcn hne
    by_cases e : (c - 1) / 2 = i
    · rw [e, ei]
      by_cases e1 : c = j
      · rw [e1, ej]; exact mle_of_lt hl
      · rw [sw_o (by omega) e1]; exact k.le c hc hcn e
    · rw [sw_o e hne]
      by_cases e1 : c = i
      · subst e1; rw [ei]; exact h.two j hj0 hjn hu hc
      · rw [sw_o e1 (by rintro rfl; exact e hu)]; exact h.one c hc hcn e
  · intro c hc hcn e _
    rw [hu, ei, sw_o (by omega) (by omega)]
    have := h.one c hc hcn (by omega)
    rwa [e] at this

theorem IsHp.root {ys : List (Jb)} {n : Nat} (h : IsHp ys n) : ∀ c, c < n → mle (mg ys 0) (mg ys c) := by
  intro c
  induction c using Nat.strongRecOn with
  | _ c ih =>
    intro hc
    by_cases e : c = 0
    · subst e; exact mle_refl _
    · exact mle_trans (ih ((c - 1) / 2) (by omega) (by omega)) (h c (by omega) hc)
theorem IsHp.push {ys : List (Jb)} {x : Jb} (h : IsHp ys ys.length) : UpI (ys ++ [x]) (ys.length + 1) ys.length := by
  have g : ∀ c, c < ys.length → mg (ys ++ [x]) c = mg ys c := fun c hc => by unfold mg; simp only [List.getD_eq_getElem?_getD]; rw [List.getElem?_append_left hc]
  constructor
  · intro c h0 hc hne
    rw [g _ (by omega), g _ (by omega)]
    exact h c h0 (by omega)
  · intro c h0 hc e h1; omega
theorem IsHp.pop {ys : List (Jb)} {n : Nat} (h : IsHp ys (n + 1)) : DnI (sw ys 0 n) n 0 :=
  ⟨fun c h0 hc hne => by rw [sw_o (by omega) (by omega), sw_o (by omega) (by omega)]; exact h c h0 (by omega), fun c _ _ _ h0 => by omega⟩
theorem IsHp.take {ys : List (Jb)} {n : Nat} (h : IsHp ys n) : IsHp (ys.take n) n := fun c h0 hc => by
  have g : ∀ c, c < n → mg (ys.take n) c = mg ys c := fun c hc => by unfold mg; simp only [List.getD_eq_getElem?_getD]; rw [List.getElem?_take_of_lt hc]
  rw [g _ (by omega), g _ hc]; exact h c h0 hc
theorem pop_perm {ys zs : List (Jb)} {n : Nat} (hn : ys.length = n + 1) (hp : zs.Perm ys) : (mg zs n :: zs.take n).Perm ys := by
  have hl : zs.length = n + 1 := by rw [hp.length_eq]; exact hn
  have e : zs = zs.take n ++ [mg zs n] := by
    rw [mg_get (by omega)]
    have := List.take_append_getElem (l := zs) (i := n) (by omega)
    rw [this, List.take_of_length_le (by omega)]
  refine List.Perm.trans ?_ hp
  conv => rhs; rw [e]
  exact (List.perm_append_singleton _ _).symm

end Go.Proofs.Ytmaojjjdepgaeaa

/- The program's heap of jobs: how it lies, what becomes of it, how its methods are found. -/
namespace Go.Proofs.Ytmaojjjdepgaeaa
open Go.RowKit Go.Sort

/-- one of them as it lies -/
def ml (y : Jb) : List Value := [.int .i64 y.id, .int .i64 y.cores, .int .i64 y.long, .int .i64 y.due, .int .i64 y.wt, .int .i64 y.rank, .int .i64 y.at_]
def mcells (ys : List Jb) : List Value := ys.flatMap ml

theorem mcells_len (ys : List Jb) : (mcells ys).length = ys.length * 7 := by
  induction ys with
  | nil => rfl
  | cons y r ih => unfold mcells at *; rw [List.flatMap_cons, List.length_append, ih, List.length_cons]; simp [ml]; omega
theorem mcells_app (a b : List Jb) : mcells (a ++ b) = mcells a ++ mcells b := by simp [mcells]
theorem mcells_cons (y : Jb) (r : List Jb) : mcells (y :: r) = ml y ++ mcells r := by simp [mcells]
theorem ml_len (y : Jb) : (ml y).length = 7 := rfl
theorem mcells_at : ∀ (ys : List Jb) (i : Nat), i < ys.length → ∀ c, c < 7 → (mcells ys)[i * 7 + c]? = (ml (mg ys i))[c]?
  | [], _, h, _, _ => absurd h (by simp)
  | y :: r, 0, _, c, hc => by
    rw [mcells_cons, Nat.zero_mul, Nat.zero_add, List.getElem?_append_left (by rw [ml_len]; exact hc)]; rfl
  | y :: r, i + 1, h, c, hc => by
    have := mcells_at r i (by simpa using h) c hc
    rw [mcells_cons, show (i + 1) * 7 + c = 7 + (i * 7 + c) by omega, List.getElem?_append_right (by rw [ml_len]; omega), ml_len, Nat.add_sub_cancel_left, this]; rfl
theorem ml_set (y : Jb) (L : List Value) (n : Nat) (v : Value) : (ml y ++ L).set (7 + n) v = ml y ++ L.set n v := by
  rw [List.set_append_right _ _ (by rw [ml_len]; omega), ml_len, Nat.add_sub_cancel_left]
theorem mcells_set : ∀ (ys : List Jb) (i : Nat) (x : Jb), i < ys.length → mcells (ys.set i x) = (((((((mcells ys).set (i * 7) (.int .i64 x.id)).set (i * 7 + 1) (.int .i64 x.cores)).set (i * 7 + 2) (.int .i64 x.long)).set (i * 7 + 3) (.int .i64 x.due)).set (i * 7 + 4) (.int .i64 x.wt)).set (i * 7 + 5) (.int .i64 x.rank)).set (i * 7 + 6) (.int .i64 x.at_)
  | [], _, _, h => absurd h (by simp)
  | y :: r, 0, x, _ => by rw [List.set_cons_zero, mcells_cons, mcells_cons]; first | rfl | simp [ml]
  | y :: r, i + 1, x, h => by
    have ih := mcells_set r i x (by simpa using h)
    rw [List.set_cons_succ, mcells_cons, mcells_cons, ih, show (i + 1) * 7 = 7 + i * 7 by omega]
    simp only [Nat.add_assoc, ml_set]

/-- block P is the heap's box, a its row: ys; bo and bn hold what tells who is first -/
structure HpW (w : World) (base P bo bn : Nat) (a : Option Addr) (cap : Nat) (ys : List Jb) : Prop where
  box : w.heap[P]? = some (.cells #[.func (.func 103) #[] #[.pointer (some ⟨bo, 0, none⟩), .pointer (some ⟨bn, 0, none⟩)], .slice a ys.length cap] 82 (0, 0))
  own : w.ownsRow base 49 7 (.slice a ys.length cap) ys.length (mcells ys)
  ne : ∀ g, a = some ⟨g, 0, none⟩ → P ≠ g
  ge : base ≤ P
  lo : bo < base ∧ bn < base
  o0 : w.cell? ⟨bo, 0, none⟩ = some (.func (.func 74) #[] #[])
  n0 : w.cell? ⟨bn, 0, none⟩ = some (.func (.func 77) #[] #[])

theorem HpW.cell {w : World} {base P bo bn g cap : Nat} {ys : List Jb} (h : HpW w base P bo bn (some ⟨g, 0, none⟩) cap ys) {i : Nat} (hi : i < ys.length) :
    w.cell? ⟨g, i * 7, none⟩ = some (.int .i64 (mg ys i).id) ∧ w.cell? ⟨g, i * 7 + 1, none⟩ = some (.int .i64 (mg ys i).cores) ∧ w.cell? ⟨g, i * 7 + 2, none⟩ = some (.int .i64 (mg ys i).long) ∧ w.cell? ⟨g, i * 7 + 3, none⟩ = some (.int .i64 (mg ys i).due) ∧ w.cell? ⟨g, i * 7 + 4, none⟩ = some (.int .i64 (mg ys i).wt) ∧ w.cell? ⟨g, i * 7 + 5, none⟩ = some (.int .i64 (mg ys i).rank) ∧ w.cell? ⟨g, i * 7 + 6, none⟩ = some (.int .i64 (mg ys i).at_) := by
  have H : ∀ c, c < 7 → w.cell? ⟨g, i * 7 + c, none⟩ = (ml (mg ys i))[c]? := fun c hc => (h.own.cellAt _ (by omega)).trans (mcells_at ys i hi c hc)
  exact ⟨H 0 (by omega), H 1 (by omega), H 2 (by omega), H 3 (by omega), H 4 (by omega), H 5 (by omega), H 6 (by omega)⟩
theorem HpW.free {w : World} {base P bo bn g cap : Nat} {ys : List Jb} (h : HpW w base P bo bn (some ⟨g, 0, none⟩) cap ys) (j : Nat) : w.frozen? ⟨g, j, none⟩ = false := h.own.frozenAt j
theorem HpW.ltP {w : World} {base P bo bn cap : Nat} {a : Option Addr} {ys : List Jb} (h : HpW w base P bo bn a cap ys) : P < w.heap.size := lt_of_block h.box
theorem HpW.ltg {w : World} {base P bo bn cap g : Nat} {ys : List Jb} (h : HpW w base P bo bn (some ⟨g, 0, none⟩) cap ys) : base ≤ g ∧ g < w.heap.size := h.own.lt g rfl
theorem HpW.p0 {w : World} {base P bo bn cap : Nat} {a : Option Addr} {ys : List Jb} (h : HpW w base P bo bn a cap ys) : w.cell? ⟨P, 0, none⟩ = some (.func (.func 103) #[] #[.pointer (some ⟨bo, 0, none⟩), .pointer (some ⟨bn, 0, none⟩)]) := by simp [World.cell?, h.box]
theorem HpW.p1 {w : World} {base P bo bn cap : Nat} {a : Option Addr} {ys : List Jb} (h : HpW w base P bo bn a cap ys) : w.cell? ⟨P, 1, none⟩ = some (.slice a ys.length cap) := by simp [World.cell?, h.box]
theorem HpW.keep {w w' : World} {base P bo bn cap : Nat} {a : Option Addr} {ys : List Jb} (h : HpW w base P bo bn a cap ys) (h1 : w'.heap[P]? = w.heap[P]?) (h2 : ∀ g, a = some ⟨g, 0, none⟩ → w'.heap[g]? = w.heap[g]?) (h3 : ∀ k, k < base → w'.heap[k]? = w.heap[k]?) : HpW w' base P bo bn a cap ys := by
  refine ⟨h1.trans h.box, ⟨h.own.1, ?_⟩, h.ne, h.ge, h.lo, (World.cell?_of_block (a := ⟨bo, 0, none⟩) (h3 bo h.lo.1)).trans h.o0, (World.cell?_of_block (a := ⟨bn, 0, none⟩) (h3 bn h.lo.2)).trans h.n0⟩
  rcases h.own.2 with hh | ⟨g', cap', cur, e, hb, hg, r⟩
  · exact .inl hh
  · have e' := e
    injection e with e1 _ e3
    exact .inr ⟨g', cap', cur, e', hb, (h2 g' e1).trans hg, r⟩
theorem HpW.below {w w' : World} {base P bo bn cap : Nat} {a : Option Addr} {ys : List Jb} (h : HpW w base P bo bn a cap ys) (hb : Below w.heap.size w w') : HpW w' base P bo bn a cap ys :=
  h.keep (hb.block P h.ltP) (fun g e => by subst e; exact hb.block g h.ltg.2) (fun k hk => hb.block k (by have := h.ltP; have := h.ge; omega))
theorem HpW.caps {w : World} {base P bo bn cap : Nat} {a : Option Addr} {ys : List Jb} (h : HpW w base P bo bn a cap ys) (h0 : 0 < ys.length) : ys.length ≤ cap ∧ cap ≤ maxLen := by
  rcases h.own.2 with ⟨_, e⟩ | ⟨g', c', cur, e, h1, h2, h3, h4, _⟩
  · omega
  · injection e with e1 _ e3
    subst e3
    exact ⟨h3, h4⟩
theorem HpW.form {w : World} {base P bo bn cap : Nat} {a : Option Addr} {ys : List Jb} (h : HpW w base P bo bn a cap ys) : a = none ∨ ∃ g, a = some ⟨g, 0, none⟩ := by
  rcases h.own.2 with ⟨e, _⟩ | ⟨g', c', cur, e, _⟩
  · injection e with e1 _ _; exact Or.inl e1
  · injection e with e1 _ _; exact Or.inr ⟨g', e1⟩

/-- what becomes of the heap: of the old blocks only the box and the row may turn, the row is the old one or new -/
structure Turn (w w' : World) (P : Nat) (a a' : Option Addr) : Prop where
  os : w'.os = w.os
  tape : w'.tape = w.tape
  output : w'.output = w.output
  size : w.heap.size ≤ w'.heap.size
  block : ∀ k, k < w.heap.size → k ≠ P → (∀ g, a = some ⟨g, 0, none⟩ → k ≠ g) → w'.heap[k]? = w.heap[k]?
  row : a' = a ∨ ∃ g', a' = some ⟨g', 0, none⟩ ∧ w.heap.size ≤ g'

theorem Turn.refl (w : World) (P : Nat) (a : Option Addr) : Turn w w P a a := ⟨rfl, rfl, rfl, Nat.le_refl _, fun _ _ _ _ => rfl, Or.inl rfl⟩
theorem Turn.trans {a b c : World} {P : Nat} {r r' r'' : Option Addr} (h : Turn a b P r r') (k : Turn b c P r' r'') : Turn a c P r r'' :=
  ⟨k.os.trans h.os, k.tape.trans h.tape, k.output.trans h.output, Nat.le_trans h.size k.size, fun i hi h1 h2 => (k.block i (Nat.lt_of_lt_of_le hi h.size) h1 (fun g e => by
    rcases h.row with e1 | ⟨g', e1, hg⟩
    · exact h2 g (e1 ▸ e)
    · rw [e1] at e; injection e with e; injection e with e _ _; omega)).trans (h.block i hi h1 h2), by
    rcases k.row with e2 | ⟨g2, e2, hg2⟩
    · rcases h.row with e1 | ⟨g', e1, hg⟩
      · exact Or.inl (e2.trans e1)
      · exact Or.inr ⟨g', e2.trans e1, hg⟩
    · exact Or.inr ⟨g2, e2, Nat.le_trans h.size hg2⟩⟩
theorem Turn.of {a b : World} {P : Nat} {r : Option Addr} (h : Below a.heap.size a b) : Turn a b P r r := ⟨h.os, h.tape, h.output, h.size, fun k hk _ _ => h.block k hk, Or.inl rfl⟩
theorem Turn.ofRow {a b : World} {P g : Nat} (h : a.grownBy b (some g)) : Turn a b P (some ⟨g, 0, none⟩) (some ⟨g, 0, none⟩) := ⟨h.os, h.tape, h.output, h.size, fun k hk _ hg => h.block k hk (by simpa using hg g rfl), Or.inl rfl⟩
theorem Turn.below {a b : World} {P base : Nat} {r r' : Option Addr} (h : Turn a b P r r') (hP : base ≤ P) (hg : ∀ g, r = some ⟨g, 0, none⟩ → base ≤ g) (hs : base ≤ a.heap.size) : Below base a b :=
  ⟨h.os, h.tape, h.output, h.size, fun k hk => h.block k (by omega) (by omega) (fun g e => by have := hg g e; omega)⟩
theorem HpW.geg {w : World} {base P bo bn cap : Nat} {a : Option Addr} {ys : List Jb} (h : HpW w base P bo bn a cap ys) : ∀ g, a = some ⟨g, 0, none⟩ → base ≤ g := fun g e => by subst e; exact h.ltg.1
theorem HpW.turnB {w w' : World} {base P bo bn cap : Nat} {a a' : Option Addr} {ys : List Jb} (h : HpW w base P bo bn a cap ys) (t : Turn w w' P a a') : Below base w w' := t.below h.ge h.geg (by have := h.ltP; have := h.ge; omega)

/-! ### how the methods are found -/
theorem mLen (P : Nat) (w : World) : (method 270 79 (.pointer (some ⟨P, 0, none⟩)) "Len").run Try.prog w = .ok (78, .pointer (some ⟨P, 0, none⟩)) w := by kernel_rfl
theorem nLen (P : Nat) (w : World) : (nilAhead 270 79 (.pointer (some ⟨P, 0, none⟩)) "Len").run Try.prog w = .ok (some false) w := by kernel_rfl
theorem mLess (P : Nat) (w : World) : (method 270 79 (.pointer (some ⟨P, 0, none⟩)) "Less").run Try.prog w = .ok (157, .pointer (some ⟨P, 0, none⟩)) w := by kernel_rfl
theorem nLess (P : Nat) (w : World) : (nilAhead 270 79 (.pointer (some ⟨P, 0, none⟩)) "Less").run Try.prog w = .ok (some false) w := by kernel_rfl
theorem mSwap (P : Nat) (w : World) : (method 270 79 (.pointer (some ⟨P, 0, none⟩)) "Swap").run Try.prog w = .ok (160, .pointer (some ⟨P, 0, none⟩)) w := by kernel_rfl
theorem nSwap (P : Nat) (w : World) : (nilAhead 270 79 (.pointer (some ⟨P, 0, none⟩)) "Swap").run Try.prog w = .ok (some false) w := by kernel_rfl
theorem mPush (P : Nat) (w : World) : (method 270 79 (.pointer (some ⟨P, 0, none⟩)) "Push").run Try.prog w = .ok (159, .pointer (some ⟨P, 0, none⟩)) w := by kernel_rfl
theorem nPush (P : Nat) (w : World) : (nilAhead 270 79 (.pointer (some ⟨P, 0, none⟩)) "Push").run Try.prog w = .ok (some false) w := by kernel_rfl
theorem mPop (P : Nat) (w : World) : (method 270 79 (.pointer (some ⟨P, 0, none⟩)) "Pop").run Try.prog w = .ok (158, .pointer (some ⟨P, 0, none⟩)) w := by kernel_rfl
theorem nPop (P : Nat) (w : World) : (nilAhead 270 79 (.pointer (some ⟨P, 0, none⟩)) "Pop").run Try.prog w = .ok (some false) w := by kernel_rfl

theorem lenH_any (base P bo bn cap : Nat) (a : Option Addr) (ys : List Jb) (w : World) (h : HpW w base P bo bn a cap ys) :
    Calls Try.prog 78 #[.pointer (some ⟨P, 0, none⟩)] w fun e w' => e = .returned (.int .i64 ys.length) ∧ w' = w := by
  have KP := h.p1
  clear h
  go_enter Try.func78, Try.ntmps78
  go_wp2
  go_ret
  exact ⟨rfl, rfl⟩

end Go.Proofs.Ytmaojjjdepgaeaa

/- Who is first in the program's heap of jobs; Less. -/
namespace Go.Proofs.Ytmaojjjdepgaeaa
open Go.RowKit Go.Sort

def kOne (x y : Jb) : Int := cmpI x.due y.due
def kTwo (x y : Jb) : Int := cmpI x.id y.id
def mkey (x y : Jb) : Int := or2 (kOne x y) (kTwo x y)

theorem hp_byDue (x y : Jb) (w : World) :
    Calls Try.prog 74 #[.agg #[.int .i64 x.id, .int .i64 x.cores, .int .i64 x.long, .int .i64 x.due, .int .i64 x.wt, .int .i64 x.rank, .int .i64 x.at_], .agg #[.int .i64 y.id, .int .i64 y.cores, .int .i64 y.long, .int .i64 y.due, .int .i64 y.wt, .int .i64 y.rank, .int .i64 y.at_]] w fun e w' => e = .returned (.int .i64 (kOne x y)) ∧ GrS w w' := by
  have hw : ∀ A B, GrS w ((w.alloc A).alloc B) := fun A B => ((GrS.refl w).alloc A).alloc B
  unfold kOne
  go_enter Try.func74, Try.ntmps74
  go_wp2_with (go_at_call 99; refine (compare_any _ _ _).mono ?_; rintro e w' ⟨rfl, rfl⟩)
  go_ret
  exact ⟨rfl, hw _ _⟩

theorem hp_byId (x y : Jb) (w : World) :
    Calls Try.prog 77 #[.agg #[.int .i64 x.id, .int .i64 x.cores, .int .i64 x.long, .int .i64 x.due, .int .i64 x.wt, .int .i64 x.rank, .int .i64 x.at_], .agg #[.int .i64 y.id, .int .i64 y.cores, .int .i64 y.long, .int .i64 y.due, .int .i64 y.wt, .int .i64 y.rank, .int .i64 y.at_]] w fun e w' => e = .returned (.int .i64 (kTwo x y)) ∧ GrS w w' := by
  have hw : ∀ A B, GrS w ((w.alloc A).alloc B) := fun A B => ((GrS.refl w).alloc A).alloc B
  unfold kTwo
  go_enter Try.func77, Try.ntmps77
  go_wp2_with (go_at_call 99; refine (compare_any _ _ _).mono ?_; rintro e w' ⟨rfl, rfl⟩)
  go_ret
  exact ⟨rfl, hw _ _⟩


set_option maxRecDepth 8000 in
set_option maxHeartbeats 4000000 in
theorem thenH (x y : Jb) (bo bn : Nat) (w : World) (ho : w.cell? ⟨bo, 0, none⟩ = some (.func (.func 74) #[] #[])) (hn : w.cell? ⟨bn, 0, none⟩ = some (.func (.func 77) #[] #[])) :
    Calls Try.prog 103 #[.agg #[.int .i64 x.id, .int .i64 x.cores, .int .i64 x.long, .int .i64 x.due, .int .i64 x.wt, .int .i64 x.rank, .int .i64 x.at_], .agg #[.int .i64 y.id, .int .i64 y.cores, .int .i64 y.long, .int .i64 y.due, .int .i64 y.wt, .int .i64 y.rank, .int .i64 y.at_], .pointer (some ⟨bo, 0, none⟩), .pointer (some ⟨bn, 0, none⟩)] w fun e w' => e = .returned (.int .i64 (mkey x y)) ∧ GrS w w' := by
  have hbo := World.block_lt_of_cell? w _ ho
  have hbn := World.block_lt_of_cell? w _ hn
  obtain ⟨W0, hW0⟩ : ∃ W0, W0 = (w.alloc (.cells #[.int .i64 x.id, .int .i64 x.cores, .int .i64 x.long, .int .i64 x.due, .int .i64 x.wt, .int .i64 x.rank, .int .i64 x.at_] 49)).alloc (.cells #[.int .i64 y.id, .int .i64 y.cores, .int .i64 y.long, .int .i64 y.due, .int .i64 y.wt, .int .i64 y.rank, .int .i64 y.at_] 49) := ⟨_, rfl⟩
  have HG : Hid (GrS w W0) := by rw [hW0]; exact ((GrS.refl w).alloc _).alloc _
  have HKK : Hid (∀ w', GrS W0 w' → GrS W0 w' ∧ w'.cell? ⟨bo, 0, none⟩ = some (.func (.func 74) #[] #[]) ∧ w'.cell? ⟨bn, 0, none⟩ = some (.func (.func 77) #[] #[]) ∧ w'.cell? ⟨w.heap.size, 0, none⟩ = some (.int .i64 x.id) ∧ w'.cell? ⟨w.heap.size, 1, none⟩ = some (.int .i64 x.cores) ∧ w'.cell? ⟨w.heap.size, 2, none⟩ = some (.int .i64 x.long) ∧ w'.cell? ⟨w.heap.size, 3, none⟩ = some (.int .i64 x.due) ∧ w'.cell? ⟨w.heap.size, 4, none⟩ = some (.int .i64 x.wt) ∧ w'.cell? ⟨w.heap.size, 5, none⟩ = some (.int .i64 x.rank) ∧ w'.cell? ⟨w.heap.size, 6, none⟩ = some (.int .i64 x.at_) ∧ w'.cell? ⟨w.heap.size + 1, 0, none⟩ = some (.int .i64 y.id) ∧ w'.cell? ⟨w.heap.size + 1, 1, none⟩ = some (.int .i64 y.cores) ∧ w'.cell? ⟨w.heap.size + 1, 2, none⟩ = some (.int .i64 y.long) ∧ w'.cell? ⟨w.heap.size + 1, 3, none⟩ = some (.int .i64 y.due) ∧ w'.cell? ⟨w.heap.size + 1, 4, none⟩ = some (.int .i64 y.wt) ∧ w'.cell? ⟨w.heap.size + 1, 5, none⟩ = some (.int .i64 y.rank) ∧ w'.cell? ⟨w.heap.size + 1, 6, none⟩ = some (.int .i64 y.at_)) := by
    intro w' hg
    have z : W0.heap.size = w.heap.size + 2 := by rw [hW0]; simp
    have k : ∀ b j, b < W0.heap.size → w'.cell? ⟨b, j, none⟩ = W0.cell? ⟨b, j, none⟩ := fun b j h => hg.cell (a := ⟨b, j, none⟩) h
    refine ⟨hg, ?_⟩
    rw [k bo _ (by simp at hbo; omega), k bn _ (by simp at hbn; omega), k _ _ (by omega), k _ _ (by omega), k _ _ (by omega), k _ _ (by omega), k _ _ (by omega), k _ _ (by omega), k _ _ (by omega), k _ _ (by omega), k _ _ (by omega), k _ _ (by omega), k _ _ (by omega), k _ _ (by omega), k _ _ (by omega), k _ _ (by omega)]
    subst hW0
    refine ⟨(World.cell?_alloc_lt _ _ _ (by simp at hbo ⊢; omega)).trans ((World.cell?_alloc_lt _ _ _ (by simp at hbo ⊢; omega)).trans ho), (World.cell?_alloc_lt _ _ _ (by simp at hbn ⊢; omega)).trans ((World.cell?_alloc_lt _ _ _ (by simp at hbn ⊢; omega)).trans hn), ?_⟩
    simp
  have S0 : GrS W0 W0 := GrS.refl _
  have KB : ∀ w', (GrS W0 w' ∧ w'.cell? ⟨bo, 0, none⟩ = some (.func (.func 74) #[] #[]) ∧ w'.cell? ⟨bn, 0, none⟩ = some (.func (.func 77) #[] #[]) ∧ w'.cell? ⟨w.heap.size, 0, none⟩ = some (.int .i64 x.id) ∧ w'.cell? ⟨w.heap.size, 1, none⟩ = some (.int .i64 x.cores) ∧ w'.cell? ⟨w.heap.size, 2, none⟩ = some (.int .i64 x.long) ∧ w'.cell? ⟨w.heap.size, 3, none⟩ = some (.int .i64 x.due) ∧ w'.cell? ⟨w.heap.size, 4, none⟩ = some (.int .i64 x.wt) ∧ w'.cell? ⟨w.heap.size, 5, none⟩ = some (.int .i64 x.rank) ∧ w'.cell? ⟨w.heap.size, 6, none⟩ = some (.int .i64 x.at_) ∧ w'.cell? ⟨w.heap.size + 1, 0, none⟩ = some (.int .i64 y.id) ∧ w'.cell? ⟨w.heap.size + 1, 1, none⟩ = some (.int .i64 y.cores) ∧ w'.cell? ⟨w.heap.size + 1, 2, none⟩ = some (.int .i64 y.long) ∧ w'.cell? ⟨w.heap.size + 1, 3, none⟩ = some (.int .i64 y.due) ∧ w'.cell? ⟨w.heap.size + 1, 4, none⟩ = some (.int .i64 y.wt) ∧ w'.cell? ⟨w.heap.size + 1, 5, none⟩ = some (.int .i64 y.rank) ∧ w'.cell? ⟨w.heap.size + 1, 6, none⟩ = some (.int .i64 y.at_)) → GrS W0 w' := fun _ h => h.1
  have EC : mkey x y = or2 (kOne x y) (kTwo x y) := rfl
  rw [EC]
  clear EC
  go_enter Try.func103, Try.ntmps103
  go_wp2_with fail
  rw [← hW0]
  clear hW0 ho hn
  have K0 := HKK.out _ S0
  go_region_held3 (fun w' => GrS W0 w' ∧ w'.cell? ⟨bo, 0, none⟩ = some (.func (.func 74) #[] #[]) ∧ w'.cell? ⟨bn, 0, none⟩ = some (.func (.func 77) #[] #[]) ∧ w'.cell? ⟨w.heap.size, 0, none⟩ = some (.int .i64 x.id) ∧ w'.cell? ⟨w.heap.size, 1, none⟩ = some (.int .i64 x.cores) ∧ w'.cell? ⟨w.heap.size, 2, none⟩ = some (.int .i64 x.long) ∧ w'.cell? ⟨w.heap.size, 3, none⟩ = some (.int .i64 x.due) ∧ w'.cell? ⟨w.heap.size, 4, none⟩ = some (.int .i64 x.wt) ∧ w'.cell? ⟨w.heap.size, 5, none⟩ = some (.int .i64 x.rank) ∧ w'.cell? ⟨w.heap.size, 6, none⟩ = some (.int .i64 x.at_) ∧ w'.cell? ⟨w.heap.size + 1, 0, none⟩ = some (.int .i64 y.id) ∧ w'.cell? ⟨w.heap.size + 1, 1, none⟩ = some (.int .i64 y.cores) ∧ w'.cell? ⟨w.heap.size + 1, 2, none⟩ = some (.int .i64 y.long) ∧ w'.cell? ⟨w.heap.size + 1, 3, none⟩ = some (.int .i64 y.due) ∧ w'.cell? ⟨w.heap.size + 1, 4, none⟩ = some (.int .i64 y.wt) ∧ w'.cell? ⟨w.heap.size + 1, 5, none⟩ = some (.int .i64 y.rank) ∧ w'.cell? ⟨w.heap.size + 1, 6, none⟩ = some (.int .i64 y.at_)) ((refine HKK.out _ ?_; first | with_reducible exact SB | with_reducible exact SB.drew | with_reducible exact S0.drew | with_reducible exact S0 | with_reducible exact SB.alloc _ | exact (KB _ (by assumption)).alloc _)) (first
    | (go_at_call 74; refine (hp_byDue _ _ _).mono ?_; rintro e w1 ⟨rfl, hg1⟩; have SB : GrS W0 w1 := (KB _ (by assumption)).trans hg1)
    | (go_at_call 77; refine (hp_byId _ _ _).mono ?_; rintro e w2 ⟨rfl, hg2⟩; have SB : GrS W0 w2 := (KB _ (by assumption)).trans hg2)
    | (go_at_call 104; refine (or2_any _ (kOne x y) (kTwo x y) _ (new2_0 _ _ _ _) (new2_1 _ _ _ _)).mono ?_; rintro e w3 ⟨rfl, hq3⟩; have SB : GrS W0 w3 := (by rw [hq3]; exact KB _ (by assumption)); clear hq3))
  all_goals
    go_wp2
    go_ret
    exact ⟨rfl, HG.out.trans (by first | exact SB | exact SB.drew)⟩

/-- does the program's heap hold the one ahead of the other -/
def mltB (a b : Jb) : Bool := decide (mkey a b < 0)
theorem mltB_iff {a b : Jb} : mltB a b = true ↔ mlt a b := by
  unfold mltB mkey kOne kTwo
  rw [or2_lt, decide_eq_true_iff]
  rfl

set_option maxRecDepth 8000 in
set_option maxHeartbeats 4000000 in
theorem lessH_any (base P bo bn g cap : Nat) (ys : List Jb) (i j : Nat) (w : World) (h : HpW w base P bo bn (some ⟨g, 0, none⟩) cap ys) (hi : i < ys.length) (hj : j < ys.length) :
    Calls Try.prog 157 #[.pointer (some ⟨P, 0, none⟩), .int .i64 i, .int .i64 j] w fun e w' => e = .returned (.bool (mltB (mg ys i) (mg ys j))) ∧ Below w.heap.size w w' := by
  have X := h.cell hi
  have Y := h.cell hj
  obtain ⟨x, hx⟩ : ∃ x, mg ys i = x := ⟨_, rfl⟩
  obtain ⟨y, hy⟩ : ∃ y, mg ys j = y := ⟨_, rfl⟩
  rw [hx] at X ⊢
  rw [hy] at Y ⊢
  have lP := h.ltP
  have lg := h.ltg.2
  have p0 := fun nn os => cell_grown (w := w) (by exact lP) h.p0 nn os
  have p1 := fun nn os => cell_grown (w := w) (by exact lP) h.p1 nn os
  have x0 := fun nn os => cell_grown (w := w) (by exact lg) X.1 nn os
  have y0 := fun nn os => cell_grown (w := w) (by exact lg) Y.1 nn os
  have x1 := fun nn os => cell_grown (w := w) (by exact lg) X.2.1 nn os
  have y1 := fun nn os => cell_grown (w := w) (by exact lg) Y.2.1 nn os
  have x2 := fun nn os => cell_grown (w := w) (by exact lg) X.2.2.1 nn os
  have y2 := fun nn os => cell_grown (w := w) (by exact lg) Y.2.2.1 nn os
  have x3 := fun nn os => cell_grown (w := w) (by exact lg) X.2.2.2.1 nn os
  have y3 := fun nn os => cell_grown (w := w) (by exact lg) Y.2.2.2.1 nn os
  have x4 := fun nn os => cell_grown (w := w) (by exact lg) X.2.2.2.2.1 nn os
  have y4 := fun nn os => cell_grown (w := w) (by exact lg) Y.2.2.2.2.1 nn os
  have x5 := fun nn os => cell_grown (w := w) (by exact lg) X.2.2.2.2.2.1 nn os
  have y5 := fun nn os => cell_grown (w := w) (by exact lg) Y.2.2.2.2.2.1 nn os
  have x6 := fun nn os => cell_grown (w := w) (by exact lg) X.2.2.2.2.2.2 nn os
  have y6 := fun nn os => cell_grown (w := w) (by exact lg) Y.2.2.2.2.2.2 nn os
  have lo : bo < w.heap.size := by have := h.lo; have := h.ge; omega
  have ln : bn < w.heap.size := by have := h.lo; have := h.ge; omega
  have CA : ∀ nn os, Calls Try.prog 103 #[.agg #[.int .i64 x.id, .int .i64 x.cores, .int .i64 x.long, .int .i64 x.due, .int .i64 x.wt, .int .i64 x.rank, .int .i64 x.at_], .agg #[.int .i64 y.id, .int .i64 y.cores, .int .i64 y.long, .int .i64 y.due, .int .i64 y.wt, .int .i64 y.rank, .int .i64 y.at_], .pointer (some ⟨bo, 0, none⟩), .pointer (some ⟨bn, 0, none⟩)] (grow (w.drewN nn) os) fun e w' => e = .returned (.int .i64 (mkey x y)) ∧ ∃ q os', w' = grow ((grow (w.drewN nn) os).drewN q) os' :=
    fun nn os => thenH x y bo bn _ (cell_grown (by exact lo) h.o0 nn os) (cell_grown (by exact ln) h.n0 nn os)
  have hi' : (i : Int) < (ys.length : Int) := by omega
  have hj' : (j : Int) < (ys.length : Int) := by omega
  unfold mltB
  have hmo : Try.prog.follows .mixedOrders = true := by kernel_rfl
  clear X Y hx hy h
  generalize mkey x y = cv at CA ⊢
  go_enter Try.func157, Try.ntmps157
  go_wp2_with fail
  go_quiet_grown ((go_at_call 103; exact Calls.grown_of (CA _ _)))
  go_wp2
  go_ret
  exact ⟨rfl, below_grow _ _ _⟩

end Go.Proofs.Ytmaojjjdepgaeaa

/- Swap of the program's heap of jobs. -/
namespace Go.Proofs.Ytmaojjjdepgaeaa
open Go.RowKit Go.Sort

theorem cell_over {w : World} {a b : Addr} {u v v' : Value} (ha : w.cell? a = some v') (hb : w.cell? b = some v) (h : a = b → u = v) : (w.setCell a u).cell? b = some v := by
  by_cases e : a = b
  · subst e; rw [World.cell?_setCell_same _ _ _ ha, h rfl]
  · exact (World.cell?_setCell_other _ _ _ _ e).trans hb
def setL (g : Nat) : World → Nat → List Value → World
  | w, _, [] => w
  | w, o, v :: r => setL g (w.setCell ⟨g, o, none⟩ v) (o + 1) r
theorem setL_cell {g b : Nat} {v : Value} : ∀ (l : List Value) (w : World) (o : Nat), (∀ c, c < l.length → ∃ u, w.cell? ⟨g, o + c, none⟩ = some u) → w.cell? ⟨g, b, none⟩ = some v → (∀ c u, l[c]? = some u → b = o + c → u = v) → (setL g w o l).cell? ⟨g, b, none⟩ = some v
  | [], _, _, _, hb, _ => hb
  | u :: r, w, o, hl, hb, he => by
    obtain ⟨u0, h0⟩ := hl 0 (by simp)
    have h0' : w.cell? ⟨g, o, none⟩ = some u0 := h0
    refine setL_cell r _ (o + 1) (fun c hc => ?_) (cell_over h0' hb (fun e => ?_)) (fun c u' hu e => he (c + 1) u' (by simpa using hu) (by omega))
    · obtain ⟨u1, h1⟩ := hl (c + 1) (by simp; omega)
      refine ⟨u1, (World.cell?_setCell_other _ _ _ _ (fun e => by injection e; omega)).trans ?_⟩
      rw [show o + 1 + c = o + (c + 1) by omega]; exact h1
    · injection e with _ e _
      exact he 0 u rfl (by omega)

set_option maxRecDepth 8000 in
set_option maxHeartbeats 8000000 in
theorem swap_any (P g n cap i j : Nat) (x y : Jb) (w : World) (hi : i < n) (hj : j < n) (p1 : w.cell? ⟨P, 1, none⟩ = some (.slice (some ⟨g, 0, none⟩) n cap))
    (hx : w.cell? ⟨g, i * 7, none⟩ = some (.int .i64 x.id) ∧ w.cell? ⟨g, i * 7 + 1, none⟩ = some (.int .i64 x.cores) ∧ w.cell? ⟨g, i * 7 + 2, none⟩ = some (.int .i64 x.long) ∧ w.cell? ⟨g, i * 7 + 3, none⟩ = some (.int .i64 x.due) ∧ w.cell? ⟨g, i * 7 + 4, none⟩ = some (.int .i64 x.wt) ∧ w.cell? ⟨g, i * 7 + 5, none⟩ = some (.int .i64 x.rank) ∧ w.cell? ⟨g, i * 7 + 6, none⟩ = some (.int .i64 x.at_))
    (hy : w.cell? ⟨g, j * 7, none⟩ = some (.int .i64 y.id) ∧ w.cell? ⟨g, j * 7 + 1, none⟩ = some (.int .i64 y.cores) ∧ w.cell? ⟨g, j * 7 + 2, none⟩ = some (.int .i64 y.long) ∧ w.cell? ⟨g, j * 7 + 3, none⟩ = some (.int .i64 y.due) ∧ w.cell? ⟨g, j * 7 + 4, none⟩ = some (.int .i64 y.wt) ∧ w.cell? ⟨g, j * 7 + 5, none⟩ = some (.int .i64 y.rank) ∧ w.cell? ⟨g, j * 7 + 6, none⟩ = some (.int .i64 y.at_))
    (fz : ∀ k, w.frozen? ⟨g, k, none⟩ = false) :
    Calls Try.prog 160 #[.pointer (some ⟨P, 0, none⟩), .int .i64 i, .int .i64 j] w fun e w' => e = .returned (.tuple #[]) ∧ ∃ q,
      w' = (((((((((((((((w).setCell ⟨g, i * 7, none⟩ (.int .i64 y.id)).setCell ⟨g, i * 7 + 1, none⟩ (.int .i64 y.cores)).setCell ⟨g, i * 7 + 2, none⟩ (.int .i64 y.long)).setCell ⟨g, i * 7 + 3, none⟩ (.int .i64 y.due)).setCell ⟨g, i * 7 + 4, none⟩ (.int .i64 y.wt)).setCell ⟨g, i * 7 + 5, none⟩ (.int .i64 y.rank)).setCell ⟨g, i * 7 + 6, none⟩ (.int .i64 y.at_)).setCell ⟨g, j * 7, none⟩ (.int .i64 x.id)).setCell ⟨g, j * 7 + 1, none⟩ (.int .i64 x.cores)).setCell ⟨g, j * 7 + 2, none⟩ (.int .i64 x.long)).setCell ⟨g, j * 7 + 3, none⟩ (.int .i64 x.due)).setCell ⟨g, j * 7 + 4, none⟩ (.int .i64 x.wt)).setCell ⟨g, j * 7 + 5, none⟩ (.int .i64 x.rank)).setCell ⟨g, j * 7 + 6, none⟩ (.int .i64 x.at_)).drewN q := by
  have hi' : (i : Int) < (n : Int) := by omega
  have hj' : (j : Int) < (n : Int) := by omega
  obtain ⟨x0, x1, x2, x3, x4, x5, x6⟩ := hx
  obtain ⟨y0, y1, y2, y3, y4, y5, y6⟩ := hy
  have f0 := fz (i * 7)
  have g0 := fz (j * 7)
  have f1 := fz (i * 7 + 1)
  have g1 := fz (j * 7 + 1)
  have f2 := fz (i * 7 + 2)
  have g2 := fz (j * 7 + 2)
  have f3 := fz (i * 7 + 3)
  have g3 := fz (j * 7 + 3)
  have f4 := fz (i * 7 + 4)
  have g4 := fz (j * 7 + 4)
  have f5 := fz (i * 7 + 5)
  have g5 := fz (j * 7 + 5)
  have f6 := fz (i * 7 + 6)
  have g6 := fz (j * 7 + 6)
  clear fz
  have E : ∀ c, c < 7 → ∃ u, w.cell? ⟨g, i * 7 + c, none⟩ = some u := fun c hc => by
    obtain rfl | rfl | rfl | rfl | rfl | rfl | rfl : c = 0 ∨ c = 1 ∨ c = 2 ∨ c = 3 ∨ c = 4 ∨ c = 5 ∨ c = 6 := by omega
    all_goals first | exact ⟨_, x0⟩ | exact ⟨_, x1⟩ | exact ⟨_, x2⟩ | exact ⟨_, x3⟩ | exact ⟨_, x4⟩ | exact ⟨_, x5⟩ | exact ⟨_, x6⟩
  have Q : ∀ c v, c < 7 → w.cell? ⟨g, j * 7 + c, none⟩ = some v → ([.int .i64 y.id, .int .i64 y.cores, .int .i64 y.long, .int .i64 y.due, .int .i64 y.wt, .int .i64 y.rank, .int .i64 y.at_] : List Value)[c]? = some v → ((((((((w).setCell ⟨g, i * 7, none⟩ (.int .i64 y.id)).setCell ⟨g, i * 7 + 1, none⟩ (.int .i64 y.cores)).setCell ⟨g, i * 7 + 2, none⟩ (.int .i64 y.long)).setCell ⟨g, i * 7 + 3, none⟩ (.int .i64 y.due)).setCell ⟨g, i * 7 + 4, none⟩ (.int .i64 y.wt)).setCell ⟨g, i * 7 + 5, none⟩ (.int .i64 y.rank)).setCell ⟨g, i * 7 + 6, none⟩ (.int .i64 y.at_)).cell? ⟨g, j * 7 + c, none⟩ = some v := by
    intro c v hc hb hv
    refine setL_cell [.int .i64 y.id, .int .i64 y.cores, .int .i64 y.long, .int .i64 y.due, .int .i64 y.wt, .int .i64 y.rank, .int .i64 y.at_] w (i * 7) (fun c hc => E c hc) hb (fun d u hd e => ?_)
    have hdl : d < 7 := by
      have := (List.getElem?_eq_some_iff.1 hd).1
      simpa using this
    have hdc : d = c := by omega
    subst hdc
    rw [hd] at hv; injection hv
  have s0 := Q 0 _ (by omega) y0 rfl
  have s1 := Q 1 _ (by omega) y1 rfl
  have s2 := Q 2 _ (by omega) y2 rfl
  have s3 := Q 3 _ (by omega) y3 rfl
  have s4 := Q 4 _ (by omega) y4 rfl
  have s5 := Q 5 _ (by omega) y5 rfl
  have s6 := Q 6 _ (by omega) y6 rfl
  clear E Q
  simp only [Nat.add_zero] at s0
  go_enter Try.func160, Try.ntmps160
  go_wp2_with fail
  go_region
  go_wp2
  go_end0
  exact ⟨rfl, 1, rfl⟩

set_option maxHeartbeats 1000000 in
/-- the heap, its row swapped -/
theorem swapH_any (base P bo bn g cap : Nat) (ys : List Jb) (i j : Nat) (w : World) (h : HpW w base P bo bn (some ⟨g, 0, none⟩) cap ys) (hi : i < ys.length) (hj : j < ys.length) :
    Calls Try.prog 160 #[.pointer (some ⟨P, 0, none⟩), .int .i64 i, .int .i64 j] w fun e w' => e = .returned (.tuple #[]) ∧ HpW w' base P bo bn (some ⟨g, 0, none⟩) cap (sw ys i j) ∧ Turn w w' P (some ⟨g, 0, none⟩) (some ⟨g, 0, none⟩) := by
  refine (swap_any P g ys.length cap i j (mg ys i) (mg ys j) w hi hj h.p1 (h.cell hi) (h.cell hj) h.free).mono ?_
  rintro e w' ⟨rfl, q, hq⟩
  have o0 := h.own.stored (i * 7) (.int .i64 (mg ys j).id)
  have o1 := o0.1.stored (i * 7 + 1) (.int .i64 (mg ys j).cores)
  have o2 := o1.1.stored (i * 7 + 2) (.int .i64 (mg ys j).long)
  have o3 := o2.1.stored (i * 7 + 3) (.int .i64 (mg ys j).due)
  have o4 := o3.1.stored (i * 7 + 4) (.int .i64 (mg ys j).wt)
  have o5 := o4.1.stored (i * 7 + 5) (.int .i64 (mg ys j).rank)
  have o6 := o5.1.stored (i * 7 + 6) (.int .i64 (mg ys j).at_)
  have o7 := o6.1.stored (j * 7) (.int .i64 (mg ys i).id)
  have o8 := o7.1.stored (j * 7 + 1) (.int .i64 (mg ys i).cores)
  have o9 := o8.1.stored (j * 7 + 2) (.int .i64 (mg ys i).long)
  have o10 := o9.1.stored (j * 7 + 3) (.int .i64 (mg ys i).due)
  have o11 := o10.1.stored (j * 7 + 4) (.int .i64 (mg ys i).wt)
  have o12 := o11.1.stored (j * 7 + 5) (.int .i64 (mg ys i).rank)
  have o13 := o12.1.stored (j * 7 + 6) (.int .i64 (mg ys i).at_)
  have gr := (((((((((((((o0.2.trans o1.2).trans o2.2).trans o3.2).trans o4.2).trans o5.2).trans o6.2).trans o7.2).trans o8.2).trans o9.2).trans o10.2).trans o11.2).trans o12.2).trans o13.2)
  have oF := o13.1
  clear o0 o1 o2 o3 o4 o5 o6 o7 o8 o9 o10 o11 o12 o13
  generalize ((((((((((((((w).setCell ⟨g, i * 7, none⟩ (.int .i64 (mg ys j).id)).setCell ⟨g, i * 7 + 1, none⟩ (.int .i64 (mg ys j).cores)).setCell ⟨g, i * 7 + 2, none⟩ (.int .i64 (mg ys j).long)).setCell ⟨g, i * 7 + 3, none⟩ (.int .i64 (mg ys j).due)).setCell ⟨g, i * 7 + 4, none⟩ (.int .i64 (mg ys j).wt)).setCell ⟨g, i * 7 + 5, none⟩ (.int .i64 (mg ys j).rank)).setCell ⟨g, i * 7 + 6, none⟩ (.int .i64 (mg ys j).at_)).setCell ⟨g, j * 7, none⟩ (.int .i64 (mg ys i).id)).setCell ⟨g, j * 7 + 1, none⟩ (.int .i64 (mg ys i).cores)).setCell ⟨g, j * 7 + 2, none⟩ (.int .i64 (mg ys i).long)).setCell ⟨g, j * 7 + 3, none⟩ (.int .i64 (mg ys i).due)).setCell ⟨g, j * 7 + 4, none⟩ (.int .i64 (mg ys i).wt)).setCell ⟨g, j * 7 + 5, none⟩ (.int .i64 (mg ys i).rank)).setCell ⟨g, j * 7 + 6, none⟩ (.int .i64 (mg ys i).at_) = W at oF gr hq
  subst hq
  have em : mcells (sw ys i j) = ((((((((((((((mcells ys).set (i * 7) (.int .i64 (mg ys j).id)).set (i * 7 + 1) (.int .i64 (mg ys j).cores)).set (i * 7 + 2) (.int .i64 (mg ys j).long)).set (i * 7 + 3) (.int .i64 (mg ys j).due)).set (i * 7 + 4) (.int .i64 (mg ys j).wt)).set (i * 7 + 5) (.int .i64 (mg ys j).rank)).set (i * 7 + 6) (.int .i64 (mg ys j).at_)).set (j * 7) (.int .i64 (mg ys i).id)).set (j * 7 + 1) (.int .i64 (mg ys i).cores)).set (j * 7 + 2) (.int .i64 (mg ys i).long)).set (j * 7 + 3) (.int .i64 (mg ys i).due)).set (j * 7 + 4) (.int .i64 (mg ys i).wt)).set (j * 7 + 5) (.int .i64 (mg ys i).rank)).set (j * 7 + 6) (.int .i64 (mg ys i).at_) := by
    unfold sw
    rw [mcells_set _ _ _ (by simpa using hj), mcells_set _ _ _ hi]
  refine ⟨rfl, ⟨?_, ?_, h.ne, h.ge, h.lo, ?_, ?_⟩, Turn.ofRow ⟨gr.os, gr.tape, gr.output, gr.size, gr.block⟩⟩
  · rw [sw_len]; exact (gr.block P h.ltP (by simpa using h.ne g rfl)).trans h.box
  · rw [sw_len, em]; exact oF
  · exact (World.cell?_of_block (a := ⟨bo, 0, none⟩) (gr.block bo (by have := h.lo; have := h.ge; have := h.ltP; omega) (by have := h.lo; have := h.ltg; simp; omega))).trans h.o0
  · exact (World.cell?_of_block (a := ⟨bn, 0, none⟩) (gr.block bn (by have := h.lo; have := h.ge; have := h.ltP; omega) (by have := h.lo; have := h.ltg; simp; omega))).trans h.n0

end Go.Proofs.Ytmaojjjdepgaeaa

/- The library's up over the program's heap of jobs. -/
namespace Go.Proofs.Ytmaojjjdepgaeaa
open Go.RowKit Go.Sort Go.Shelf

set_option maxRecDepth 8000 in
set_option maxHeartbeats 4000000 in
theorem up_any (base P bo bn g cap j0 : Nat) (ys0 : List Jb) (w : World) (h0 : HpW w base P bo bn (some ⟨g, 0, none⟩) cap ys0) (hn : ys0.length ≤ 1048576) (hj0 : j0 < ys0.length) (hu : UpI ys0 ys0.length j0) :
    Calls Try.prog 105 #[.iface 79 (.pointer (some ⟨P, 0, none⟩)), .int .i64 j0] w fun e w' => e = .returned (.tuple #[]) ∧ ∃ ys, HpW w' base P bo bn (some ⟨g, 0, none⟩) cap ys ∧ ys.Perm ys0 ∧ IsHp ys ys.length ∧ Turn w w' P (some ⟨g, 0, none⟩) (some ⟨g, 0, none⟩) := by
  have eLess := fun args w => enters_of Try.func157 (by kernel_rfl) rfl args w
  have eSwap := fun args w => enters_of Try.func160 (by kernel_rfl) rfl args w
  have mL := mLess P
  have nL := nLess P
  have mS := mSwap P
  have nS := nSwap P
  go_enter Try.func105, Try.ntmps105
  go_wp2
  go_loopw [1, 4] (fun s i wr => ∃ (j : Nat) (ys : List Jb), s = .int .i64 j ∧ j < ys0.length ∧ Hid (HpW wr base P bo bn (some ⟨g, 0, none⟩) cap ys) ∧ Hid (ys.Perm ys0) ∧ Hid (UpI ys ys0.length j) ∧ Hid (Turn w wr P (some ⟨g, 0, none⟩) (some ⟨g, 0, none⟩))) (fun s _ _ => (intOf s).toNat)
  case atStart => exact ⟨j0, ys0, rfl, hj0, h0, List.Perm.refl _, hu, Turn.refl _ _ _⟩
  case round =>
    obtain ⟨j, ys, rfl, hj, HH, HP, HU, HT⟩ := hrel
    by_cases hz : j = 0
    · subst hz
      go_wp2
      go_end0
      exact ⟨rfl, ys, HH.out, HP.out, by rw [HP.out.length_eq]; exact HU.out.stop (Or.inl rfl), HT.out⟩
    · have HL : Hid (ys.length = ys0.length) := HP.out.length_eq
      obtain ⟨p, hp⟩ : ∃ p : Nat, p = (j - 1) / 2 := ⟨_, rfl⟩
      have hq : ((j : Int) - 1).tdiv 2 = (p : Int) := by rw [Int.tdiv_eq_ediv_of_nonneg (by omega)]; omega
      have hpj : p < j := by omega
      have HPE : Hid (p = (j - 1) / 2) := hp
      clear hp
      have hne : ((p : Int) == (j : Int)) = false := by simp; omega
      have CL := lessH_any base P bo bn g cap ys j p wr HH.out (by have := HL.out; omega) (by have := HL.out; omega)
      cases hb : mltB (mg ys j) (mg ys p) with
      | true =>
        rw [hb] at CL
        have HU2 : Hid (UpI (sw ys p j) ys0.length p) := HU.out.step (by have := HL.out; omega) hj (by omega) HPE.out (mltB_iff.1 hb)
        go_wp2_with (first
          | (go_at_call 157; refine CL.mono ?_; rintro e w1 ⟨rfl, hb1⟩
             have H1 := HH.out.below hb1
             have CS := swapH_any base P bo bn g cap ys p j w1 H1 (by have := HL.out; omega) (by have := HL.out; omega)
             have HT1 : Hid (Turn w w1 P (some ⟨g, 0, none⟩) (some ⟨g, 0, none⟩)) := HT.out.trans (Turn.of hb1)
             clear H1 CL)
          | (go_at_call 160; refine CS.mono ?_; rintro e w2 ⟨rfl, H2, T2⟩))
        have HT2 : Hid (Turn w w2 P (some ⟨g, 0, none⟩) (some ⟨g, 0, none⟩)) := HT1.out.trans T2
        have HH2 : Hid _ := H2
        have HP2 : Hid ((sw ys p j).Perm ys0) := (sw_perm (by have := HL.out; omega) (by have := HL.out; omega)).trans HP.out
        clear H2 T2
        go_roundw
        case rel => exact ⟨p, sw ys p j, rfl, by omega, HH2, HP2, HU2, HT2⟩
        case measure => simp [intOf]; omega
      | false =>
        rw [hb] at CL
        have HS : Hid (IsHp ys ys0.length) := HU.out.stop (Or.inr (fun h => by have := mltB_iff.2 h; rw [← HPE.out, hb] at this; cases this))
        go_wp2_with (first
          | (go_at_call 157; refine CL.mono ?_; rintro e w1 ⟨rfl, hb1⟩))
        go_end0
        exact ⟨rfl, ys, HH.out.below hb1, HP.out, by rw [HL.out]; exact HS.out, HT.out.trans (Turn.of hb1)⟩

end Go.Proofs.Ytmaojjjdepgaeaa

/- The library's down over the program's heap of jobs. -/
namespace Go.Proofs.Ytmaojjjdepgaeaa
open Go.RowKit Go.Sort Go.Shelf

set_option maxRecDepth 8000 in
set_option maxHeartbeats 8000000 in
theorem down_any (base P bo bn g cap n : Nat) (ys0 : List Jb) (w : World) (h0 : HpW w base P bo bn (some ⟨g, 0, none⟩) cap ys0) (hn : ys0.length ≤ 1048576) (hn0 : n ≤ ys0.length) (hd : DnI ys0 n 0) :
    Calls Try.prog 113 #[.iface 79 (.pointer (some ⟨P, 0, none⟩)), .int .i64 0, .int .i64 n] w fun e w' => ∃ b ys, e = .returned (.bool b) ∧ HpW w' base P bo bn (some ⟨g, 0, none⟩) cap ys ∧ ys.Perm ys0 ∧ IsHp ys n ∧ (∀ k, n ≤ k → mg ys k = mg ys0 k) ∧ Turn w w' P (some ⟨g, 0, none⟩) (some ⟨g, 0, none⟩) := by
  have eLess := fun args w => enters_of Try.func157 (by kernel_rfl) rfl args w
  have eSwap := fun args w => enters_of Try.func160 (by kernel_rfl) rfl args w
  have mL := mLess P
  have nL := nLess P
  have mS := mSwap P
  have nS := nSwap P
  go_enter Try.func113, Try.ntmps113
  go_wp2
  go_loopw [7, 8, 9, 10] (fun s _ _ _ wr => ∃ (i : Nat) (ys : List Jb), s = .int .i64 i ∧ (i < n ∨ i = 0) ∧ Hid (HpW wr base P bo bn (some ⟨g, 0, none⟩) cap ys) ∧ Hid (ys.Perm ys0) ∧ Hid (DnI ys n i) ∧ Hid (∀ k, n ≤ k → mg ys k = mg ys0 k) ∧ Hid (Turn w wr P (some ⟨g, 0, none⟩) (some ⟨g, 0, none⟩))) (fun s _ _ _ _ => n - (intOf s).toNat)
  case atStart => exact ⟨0, ys0, rfl, Or.inr rfl, h0, List.Perm.refl _, hd, fun _ _ => rfl, Turn.refl _ _ _⟩
  case round =>
    obtain ⟨i, ys, rfl, hi, HH, HP, HD, HK, HT⟩ := hrel
    have HL : Hid (ys.length = ys0.length) := HP.out.length_eq
    by_cases c1 : 2 * i + 1 < n
    · have c1' : ¬ ((n : Int) ≤ 2 * (i : Int) + 1) := by omega
      have c1'' : ¬ (2 * (i : Int) + 1 < 0) := by omega
      by_cases c2 : 2 * i + 2 < n
      · have c2' : 2 * (i : Int) + 1 + 1 < (n : Int) := by omega
        have C2 : Calls Try.prog 157 #[.pointer (some ⟨P, 0, none⟩), .int .i64 (2 * (i : Int) + 1 + 1), .int .i64 (2 * (i : Int) + 1)] wr fun e w' => e = .returned (.bool (mltB (mg ys (2 * i + 2)) (mg ys (2 * i + 1)))) ∧ Below wr.heap.size wr w' := by
          have := lessH_any base P bo bn g cap ys (2 * i + 2) (2 * i + 1) wr HH.out (by have := HL.out; omega) (by have := HL.out; omega)
          rw [show 2 * i + 2 = 2 * i + 1 + 1 by omega] at this
          push_cast at this; exact this
        cases hb2 : mltB (mg ys (2 * i + 2)) (mg ys (2 * i + 1)) with
        | true =>
          rw [hb2] at C2
          go_wp2_with (go_at_call 157; refine C2.mono ?_; rintro e w1 ⟨rfl, hb1⟩; have Hw : Hid _ := HH.out.below hb1; have Tw : Hid (Turn w w1 P (some ⟨g, 0, none⟩) (some ⟨g, 0, none⟩)) := HT.out.trans (Turn.of hb1); clear C2)
          have HKid : Hid (Kid ys n i (2 * i + 1 + 1)) := Kid.right c2 (mltB_iff.1 hb2)
          have CL : Calls Try.prog 157 #[.pointer (some ⟨P, 0, none⟩), .int .i64 (2 * (i : Int) + 1 + 1), .int .i64 i] w1 fun e w' => e = .returned (.bool (mltB (mg ys (2 * i + 1 + 1)) (mg ys i))) ∧ Below w1.heap.size w1 w' := by
            have := lessH_any base P bo bn g cap ys (2 * i + 1 + 1) i w1 Hw.out (by have := HL.out; omega) (by have := HL.out; omega)
            push_cast at this; exact this
          cases hb : mltB (mg ys (2 * i + 1 + 1)) (mg ys i) with
          | true =>
            rw [hb] at CL
            have HD2 : Hid (DnI (sw ys i (2 * i + 1 + 1)) n (2 * i + 1 + 1)) := HD.out.step (by have := HL.out; omega) HKid.out (mltB_iff.1 hb)
            have HK2 : Hid (∀ k, n ≤ k → mg (sw ys i (2 * i + 1 + 1)) k = mg ys0 k) := fun k hk => (sw_o (by omega) (by omega)).trans (HK.out k hk)
            have HP2 : Hid ((sw ys i (2 * i + 1 + 1)).Perm ys0) := (sw_perm (by have := HL.out; omega) (by have := HL.out; omega)).trans HP.out
            go_wp2_with (first
              | (go_at_call 157; refine CL.mono ?_; rintro e w3 ⟨rfl, hb3⟩
                 have H3 := Hw.out.below hb3
                 have CS := swapH_any base P bo bn g cap ys i (2 * i + 1 + 1) w3 H3 (by have := HL.out; omega) (by have := HL.out; omega)
                 push_cast at CS
                 have HT3 : Hid (Turn w w3 P (some ⟨g, 0, none⟩) (some ⟨g, 0, none⟩)) := Tw.out.trans (Turn.of hb3)
                 clear H3 CL)
              | (go_at_call 160; refine CS.mono ?_; rintro e w4 ⟨rfl, H4, T4⟩))
            have HT4 : Hid (Turn w w4 P (some ⟨g, 0, none⟩) (some ⟨g, 0, none⟩)) := HT3.out.trans T4
            have HH4 : Hid _ := H4
            clear H4 T4
            go_roundw
            case rel => exact ⟨2 * i + 1 + 1, sw ys i (2 * i + 1 + 1), by go_num, by omega, HH4, HP2, HD2, HK2, HT4⟩
            case measure => simp [intOf]; omega
          | false =>
            rw [hb] at CL
            have HS : Hid (IsHp ys n) := HD.out.stop HKid.out (fun h => by have := mltB_iff.2 h; rw [hb] at this; cases this)
            go_wp2_with (first
              | (go_at_call 157; refine CL.mono ?_; rintro e w3 ⟨rfl, hb3⟩))
            go_ret
            exact ⟨_, ys, rfl, Hw.out.below hb3, HP.out, HS.out, HK.out, Tw.out.trans (Turn.of hb3)⟩
        | false =>
          rw [hb2] at C2
          go_wp2_with (go_at_call 157; refine C2.mono ?_; rintro e w1 ⟨rfl, hb1⟩; have Hw : Hid _ := HH.out.below hb1; have Tw : Hid (Turn w w1 P (some ⟨g, 0, none⟩) (some ⟨g, 0, none⟩)) := HT.out.trans (Turn.of hb1); clear C2)
          have HKid : Hid (Kid ys n i (2 * i + 1)) := Kid.left c2 (fun h => by have := mltB_iff.2 h; rw [hb2] at this; cases this)
          have CL : Calls Try.prog 157 #[.pointer (some ⟨P, 0, none⟩), .int .i64 (2 * (i : Int) + 1), .int .i64 i] w1 fun e w' => e = .returned (.bool (mltB (mg ys (2 * i + 1)) (mg ys i))) ∧ Below w1.heap.size w1 w' := by
            have := lessH_any base P bo bn g cap ys (2 * i + 1) i w1 Hw.out (by have := HL.out; omega) (by have := HL.out; omega)
            push_cast at this; exact this
          cases hb : mltB (mg ys (2 * i + 1)) (mg ys i) with
          | true =>
            rw [hb] at CL
            have HD2 : Hid (DnI (sw ys i (2 * i + 1)) n (2 * i + 1)) := HD.out.step (by have := HL.out; omega) HKid.out (mltB_iff.1 hb)
            have HK2 : Hid (∀ k, n ≤ k → mg (sw ys i (2 * i + 1)) k = mg ys0 k) := fun k hk => (sw_o (by omega) (by omega)).trans (HK.out k hk)
            have HP2 : Hid ((sw ys i (2 * i + 1)).Perm ys0) := (sw_perm (by have := HL.out; omega) (by have := HL.out; omega)).trans HP.out
            go_wp2_with (first
              | (go_at_call 157; refine CL.mono ?_; rintro e w3 ⟨rfl, hb3⟩
                 have H3 := Hw.out.below hb3
                 have CS := swapH_any base P bo bn g cap ys i (2 * i + 1) w3 H3 (by have := HL.out; omega) (by have := HL.out; omega)
                 push_cast at CS
                 have HT3 : Hid (Turn w w3 P (some ⟨g, 0, none⟩) (some ⟨g, 0, none⟩)) := Tw.out.trans (Turn.of hb3)
                 clear H3 CL)
              | (go_at_call 160; refine CS.mono ?_; rintro e w4 ⟨rfl, H4, T4⟩))
            have HT4 : Hid (Turn w w4 P (some ⟨g, 0, none⟩) (some ⟨g, 0, none⟩)) := HT3.out.trans T4
            have HH4 : Hid _ := H4
            clear H4 T4
            go_roundw
            case rel => exact ⟨2 * i + 1, sw ys i (2 * i + 1), by go_num, by omega, HH4, HP2, HD2, HK2, HT4⟩
            case measure => simp [intOf]; omega
          | false =>
            rw [hb] at CL
            have HS : Hid (IsHp ys n) := HD.out.stop HKid.out (fun h => by have := mltB_iff.2 h; rw [hb] at this; cases this)
            go_wp2_with (first
              | (go_at_call 157; refine CL.mono ?_; rintro e w3 ⟨rfl, hb3⟩))
            go_ret
            exact ⟨_, ys, rfl, Hw.out.below hb3, HP.out, HS.out, HK.out, Tw.out.trans (Turn.of hb3)⟩
      · have c2' : ¬ (2 * (i : Int) + 1 + 1 < (n : Int)) := by omega
        have Hw : Hid _ := HH.out
        have Tw : Hid _ := HT.out
        have HKid : Hid (Kid ys n i (2 * i + 1)) := Kid.one c1 c2
        have CL : Calls Try.prog 157 #[.pointer (some ⟨P, 0, none⟩), .int .i64 (2 * (i : Int) + 1), .int .i64 i] wr fun e w' => e = .returned (.bool (mltB (mg ys (2 * i + 1)) (mg ys i))) ∧ Below wr.heap.size wr w' := by
          have := lessH_any base P bo bn g cap ys (2 * i + 1) i wr Hw.out (by have := HL.out; omega) (by have := HL.out; omega)
          push_cast at this; exact this
        cases hb : mltB (mg ys (2 * i + 1)) (mg ys i) with
        | true =>
          rw [hb] at CL
          have HD2 : Hid (DnI (sw ys i (2 * i + 1)) n (2 * i + 1)) := HD.out.step (by have := HL.out; omega) HKid.out (mltB_iff.1 hb)
          have HK2 : Hid (∀ k, n ≤ k → mg (sw ys i (2 * i + 1)) k = mg ys0 k) := fun k hk => (sw_o (by omega) (by omega)).trans (HK.out k hk)
          have HP2 : Hid ((sw ys i (2 * i + 1)).Perm ys0) := (sw_perm (by have := HL.out; omega) (by have := HL.out; omega)).trans HP.out
          go_wp2_with (first
            | (go_at_call 157; refine CL.mono ?_; rintro e w3 ⟨rfl, hb3⟩
               have H3 := Hw.out.below hb3
               have CS := swapH_any base P bo bn g cap ys i (2 * i + 1) w3 H3 (by have := HL.out; omega) (by have := HL.out; omega)
               push_cast at CS
               have HT3 : Hid (Turn w w3 P (some ⟨g, 0, none⟩) (some ⟨g, 0, none⟩)) := Tw.out.trans (Turn.of hb3)
               clear H3 CL)
            | (go_at_call 160; refine CS.mono ?_; rintro e w4 ⟨rfl, H4, T4⟩))
          have HT4 : Hid (Turn w w4 P (some ⟨g, 0, none⟩) (some ⟨g, 0, none⟩)) := HT3.out.trans T4
          have HH4 : Hid _ := H4
          clear H4 T4
          go_roundw
          case rel => exact ⟨2 * i + 1, sw ys i (2 * i + 1), by go_num, by omega, HH4, HP2, HD2, HK2, HT4⟩
          case measure => simp [intOf]; omega
        | false =>
          rw [hb] at CL
          have HS : Hid (IsHp ys n) := HD.out.stop HKid.out (fun h => by have := mltB_iff.2 h; rw [hb] at this; cases this)
          go_wp2_with (first
            | (go_at_call 157; refine CL.mono ?_; rintro e w3 ⟨rfl, hb3⟩))
          go_ret
          exact ⟨_, ys, rfl, Hw.out.below hb3, HP.out, HS.out, HK.out, Tw.out.trans (Turn.of hb3)⟩
    · have c1' : (n : Int) ≤ 2 * (i : Int) + 1 := by omega
      have HS : Hid (IsHp ys n) := HD.out.leaf c1
      go_wp2
      go_ret
      exact ⟨_, ys, rfl, HH.out, HP.out, HS.out, HK.out, HT.out⟩

end Go.Proofs.Ytmaojjjdepgaeaa

/- Push of the program's heap of jobs. -/
namespace Go.Proofs.Ytmaojjjdepgaeaa
open Go.RowKit Go.Sort

theorem infoMa : (Try.prog.info? 49).map (fun i => (i.zero, i.size, i.bytes)) = some (some (.agg #[.int .i64 0, .int .i64 0, .int .i64 0, .int .i64 0, .int .i64 0, .int .i64 0, .int .i64 0]), 7, 56) := by kernel_rfl

theorem newm_cells (W : World) (x : Jb) (T : TypeId) : ∀ i u, (ml x)[i]? = some u → ((W.alloc (.cells #[.int .i64 x.id, .int .i64 x.cores, .int .i64 x.long, .int .i64 x.due, .int .i64 x.wt, .int .i64 x.rank, .int .i64 x.at_] T)).drew).cell? ((⟨W.heap.size, 0, none⟩ : Addr).add i) = some u := by
  intro i u hi
  have hadd : (⟨W.heap.size, 0, none⟩ : Addr).add i = ⟨W.heap.size, i, none⟩ := by unfold Addr.add; split <;> simp_all
  rw [hadd]
  show (W.alloc (.cells #[.int .i64 x.id, .int .i64 x.cores, .int .i64 x.long, .int .i64 x.due, .int .i64 x.wt, .int .i64 x.rank, .int .i64 x.at_] T)).cell? _ = _
  rw [Joins.cell_alloc_mark_at _ _ _ _ _ _ rfl]
  show (List.toArray (ml x))[i]? = _
  rw [List.getElem?_toArray]
  exact hi
theorem ml_one (x : Jb) : ∀ u ∈ ml x, u.oneCell' = true := by simp [ml, Value.oneCell']

theorem asM (v : Value) (w : World) : (Instr.typeAssert (.iface 49 v) 20 49 false).run Try.prog w = .ok v w := by kernel_rfl

theorem push_done {base P bo bn g5 c5 cap : Nat} {a : Option Addr} {ys : List Jb} {x : Jb} {w w5 : World} {o : Obj} {b : Option Nat} (h : HpW w base P bo bn a cap ys) (hab : b = (Value.slice a ys.length cap).ownBlock) (G5 : w.grownBy w5 b)
    (HB5 : w5.heap[P]? = some (.cells #[.func (.func 103) #[] #[.pointer (some ⟨bo, 0, none⟩), .pointer (some ⟨bn, 0, none⟩)], .slice a ys.length cap] 82 (0, 0)))
    (own5 : w5.ownsRow base 49 7 (.slice (some ⟨g5, 0, none⟩) (ys.length + 1) c5) (ys.length + 1) (mcells ys ++ [.int .i64 x.id, .int .i64 x.cores, .int .i64 x.long, .int .i64 x.due, .int .i64 x.wt, .int .i64 x.rank, .int .i64 x.at_]))
    (at5 : (Value.slice (some ⟨g5, 0, none⟩) (ys.length + 1) c5).ownBlock = (Value.slice a ys.length cap).ownBlock ∨ (Value.slice (some ⟨g5, 0, none⟩) (ys.length + 1) c5).ownBlock = some (w.alloc o).drew.heap.size) :
    HpW (w5.setCell ⟨P, 1, none⟩ (.slice (some ⟨g5, 0, none⟩) (ys.length + 1) c5)) base P bo bn (some ⟨g5, 0, none⟩) c5 (ys ++ [x]) ∧ Turn w (w5.setCell ⟨P, 1, none⟩ (.slice (some ⟨g5, 0, none⟩) (ys.length + 1) c5)) P a (some ⟨g5, 0, none⟩) := by
  have hb : ∀ g, a = some ⟨g, 0, none⟩ → b = some g := fun g e => by rw [hab, e]; rfl
  have hn : a = none → b = none := fun e => by rw [hab, e]; rfl
  have hP1 := h.ltP
  have hg : a = some ⟨g5, 0, none⟩ ∨ w.heap.size + 1 = g5 := by
    rcases at5 with e | e
    · left
      rcases h.form with e2 | ⟨g, e2⟩
      · rw [e2] at e; cases e
      · rw [e2] at e ⊢; have e : some g5 = some g := e; injection e with e; rw [e]
    · refine Or.inr ?_
      have : g5 = (w.alloc o).drew.heap.size := Option.some.inj e
      rw [this]; show _ = (w.alloc o).heap.size; simp
  have hP5 : P ≠ g5 := by
    rcases hg with e | e
    · exact h.ne g5 e
    · omega
  have hsz : (w5.setCell ⟨P, 1, none⟩ (.slice (some ⟨g5, 0, none⟩) (ys.length + 1) c5)).heap.size = w5.heap.size := by simp [World.setCell]
  have hk : ∀ k, k ≠ P → (w5.setCell ⟨P, 1, none⟩ (.slice (some ⟨g5, 0, none⟩) (ys.length + 1) c5)).heap[k]? = w5.heap[k]? := fun k hk => Below.heap_setCell _ _ _ _ hk
  have hblk : ∀ k, k < w.heap.size → k ≠ P → (∀ g, a = some ⟨g, 0, none⟩ → k ≠ g) → (w5.setCell ⟨P, 1, none⟩ (.slice (some ⟨g5, 0, none⟩) (ys.length + 1) c5)).heap[k]? = w.heap[k]? := fun k h0 h1 h2 => (hk k h1).trans (G5.block k h0 (by
    rcases h.form with e2 | ⟨g, e2⟩
    · rw [hn e2]; simp
    · rw [hb g e2]; simpa using h2 g e2))
  have hlow : ∀ k, k < base → (w5.setCell ⟨P, 1, none⟩ (.slice (some ⟨g5, 0, none⟩) (ys.length + 1) c5)).heap[k]? = w.heap[k]? := fun k h0 => hblk k (by have := h.ge; omega) (by have := h.ge; omega) (fun g e => by have := h.geg g e; omega)
  refine ⟨⟨?_, ?_, fun g e => ?_, h.ge, h.lo, (World.cell?_of_block (a := ⟨bo, 0, none⟩) (hlow bo h.lo.1)).trans h.o0, (World.cell?_of_block (a := ⟨bn, 0, none⟩) (hlow bn h.lo.2)).trans h.n0⟩, ⟨G5.os, G5.tape, G5.output, by rw [hsz]; exact G5.size, hblk, ?_⟩⟩
  · have := blk_set (j := 1) HB5 (.slice (some ⟨g5, 0, none⟩) (ys.length + 1) c5)
    rw [this]; simp
  · rw [List.length_append, mcells_app]
    refine ⟨own5.1, ?_⟩
    rcases own5.2 with ⟨e, _⟩ | ⟨g', c', cur, e, h1, h2, r⟩
    · cases e
    · have e' := e
      injection e with e1 _ e3
      injection e1 with e1
      injection e1 with e1 _ _
      subst e1 e3
      exact .inr ⟨g5, c5, cur, rfl, h1, (hk g5 (Ne.symm hP5)).trans h2, r⟩
  · injection e with e; injection e with e _ _; omega
  · rcases hg with e | e
    · exact Or.inl e.symm
    · exact Or.inr ⟨g5, rfl, by omega⟩

set_option maxRecDepth 8000 in
set_option maxHeartbeats 4000000 in
theorem pushG_any (base P bo bn g cap : Nat) (ys : List Jb) (x : Jb) (w : World) (h : HpW w base P bo bn (some ⟨g, 0, none⟩) cap ys) (hb : base ≤ w.heap.size) (hn : ys.length ≤ 1048576) :
    Calls Try.prog 159 #[.pointer (some ⟨P, 0, none⟩), .iface 49 (.agg #[.int .i64 x.id, .int .i64 x.cores, .int .i64 x.long, .int .i64 x.due, .int .i64 x.wt, .int .i64 x.rank, .int .i64 x.at_])] w fun e w' => e = .returned (.tuple #[]) ∧ ∃ g' cap', HpW w' base P bo bn (some ⟨g', 0, none⟩) cap' (ys ++ [x]) ∧ Turn w w' P (some ⟨g, 0, none⟩) (some ⟨g', 0, none⟩) := by
  obtain ⟨i1, hj, hj0, hj1, hj2⟩ := info_parts infoMa
  have hP1 := h.ltP
  have KP := h.p1
  have KA : Hid (∀ o, (w.alloc o).cell? ⟨P, 1, none⟩ = some (.slice (some ⟨g, 0, none⟩) ys.length cap)) := fun o => (World.cell?_alloc_lt _ _ _ (by simpa using hP1)).trans KP
  have HOP : Hid (∀ W, Below w.heap.size w W → W.ownsRow base 49 7 (.slice (some ⟨g, 0, none⟩) ys.length cap) ys.length (mcells ys)) := fun W hW => (h.below hW).own
  have HBX : Hid _ := h.box
  have HH : Hid _ := h
  have Hk : Hid (∀ (W5 : World) (o : Obj), ((w.alloc o).drew).grownBy W5 (Value.slice (some ⟨g, 0, none⟩) ys.length cap).ownBlock → w.grownBy W5 (some g)) := fun W5 o hg =>
    ⟨hg.os, hg.tape, hg.output, Nat.le_trans (by simp) hg.size, fun r hr hne => (hg.block r (by simp; omega) (by simpa [Value.ownBlock] using hne)).trans (Below.heap_alloc _ _ _ hr)⟩
  have HPb : Hid (some P ≠ (some g)) := by have := h.ne g rfl; unfold Hid; simpa using this
  clear h
  have as1 := asM
  go_enter Try.func159, Try.ntmps159
  go_wp2_with fail
  have KA' := KA.out
  go_region_law (refine step_append_own rfl (.tmp 8) (.tmp 11) 24 rfl base 49 i1 (.agg #[.int .i64 0, .int .i64 0, .int .i64 0, .int .i64 0, .int .i64 0, .int .i64 0, .int .i64 0]) 7 56 Try.underlying24 hj hj0 hj1 hj2 rfl (by decide) (.slice (some ⟨g, 0, none⟩) ys.length cap) ys.length (mcells ys) rfl (HOP.out _ (by first | exact ((Below.refl _ _).alloc (Nat.le_refl _) _).drew | exact (Below.refl _ _).drew.alloc (Nat.le_refl _) _)) ⟨w.heap.size, 0, none⟩ 1 1 [.int .i64 x.id, .int .i64 x.cores, .int .i64 x.long, .int .i64 x.due, .int .i64 x.wt, .int .i64 x.rank, .int .i64 x.at_] rfl rfl (newm_cells _ _ _) (ml_one x) (by unfold maxLen; omega) (by omega) (by simp; omega) ?_
                 intro v5 w5 own5 grow5 nil5 at5
                 have G5 := Hk.out _ _ grow5
                 have KB5 := (G5.block P hP1 HPb.out).trans HBX.out
                 have KP5 : w5.cell? ⟨P, 1, none⟩ = some (.slice (some ⟨g, 0, none⟩) ys.length cap) := by simp [World.cell?, KB5]
                 have FP5 : w5.frozen? ⟨P, 1, none⟩ = false := free_of_blk 1 KB5
                 have HB5 : Hid _ := KB5
                 obtain ⟨g5, c5, rfl⟩ := own_form own5 (by omega)
                 clear nil5 KB5)
  all_goals
    have D := push_done (o := .cells #[.int .i64 x.id, .int .i64 x.cores, .int .i64 x.long, .int .i64 x.due, .int .i64 x.wt, .int .i64 x.rank, .int .i64 x.at_] 49) HH.out rfl G5 HB5.out own5 at5
    clear own5 at5 grow5
    go_end0
    exact ⟨rfl, g5, c5, D⟩

set_option maxRecDepth 8000 in
set_option maxHeartbeats 4000000 in
theorem pushN_any (base P bo bn cap : Nat) (ys : List Jb) (x : Jb) (w : World) (h : HpW w base P bo bn none cap ys) (hb : base ≤ w.heap.size) (hn : ys.length ≤ 1048576) :
    Calls Try.prog 159 #[.pointer (some ⟨P, 0, none⟩), .iface 49 (.agg #[.int .i64 x.id, .int .i64 x.cores, .int .i64 x.long, .int .i64 x.due, .int .i64 x.wt, .int .i64 x.rank, .int .i64 x.at_])] w fun e w' => e = .returned (.tuple #[]) ∧ ∃ g' cap', HpW w' base P bo bn (some ⟨g', 0, none⟩) cap' (ys ++ [x]) ∧ Turn w w' P none (some ⟨g', 0, none⟩) := by
  obtain ⟨i1, hj, hj0, hj1, hj2⟩ := info_parts infoMa
  have hP1 := h.ltP
  have KP := h.p1
  have KA : Hid (∀ o, (w.alloc o).cell? ⟨P, 1, none⟩ = some (.slice none ys.length cap)) := fun o => (World.cell?_alloc_lt _ _ _ (by simpa using hP1)).trans KP
  have HOP : Hid (∀ W, Below w.heap.size w W → W.ownsRow base 49 7 (.slice none ys.length cap) ys.length (mcells ys)) := fun W hW => (h.below hW).own
  have HBX : Hid _ := h.box
  have HH : Hid _ := h
  have Hk : Hid (∀ (W5 : World) (o : Obj), ((w.alloc o).drew).grownBy W5 (Value.slice none ys.length cap).ownBlock → w.grownBy W5 none) := fun W5 o hg =>
    ⟨hg.os, hg.tape, hg.output, Nat.le_trans (by simp) hg.size, fun r hr hne => (hg.block r (by simp; omega) (by simp [Value.ownBlock])).trans (Below.heap_alloc _ _ _ hr)⟩
  have HPb : Hid (some P ≠ none) := by unfold Hid; simp
  clear h
  have as1 := asM
  go_enter Try.func159, Try.ntmps159
  go_wp2_with fail
  have KA' := KA.out
  go_region_law (refine step_append_own rfl (.tmp 8) (.tmp 11) 24 rfl base 49 i1 (.agg #[.int .i64 0, .int .i64 0, .int .i64 0, .int .i64 0, .int .i64 0, .int .i64 0, .int .i64 0]) 7 56 Try.underlying24 hj hj0 hj1 hj2 rfl (by decide) (.slice none ys.length cap) ys.length (mcells ys) rfl (HOP.out _ (by first | exact ((Below.refl _ _).alloc (Nat.le_refl _) _).drew | exact (Below.refl _ _).drew.alloc (Nat.le_refl _) _)) ⟨w.heap.size, 0, none⟩ 1 1 [.int .i64 x.id, .int .i64 x.cores, .int .i64 x.long, .int .i64 x.due, .int .i64 x.wt, .int .i64 x.rank, .int .i64 x.at_] rfl rfl (newm_cells _ _ _) (ml_one x) (by unfold maxLen; omega) (by omega) (by simp; omega) ?_
                 intro v5 w5 own5 grow5 nil5 at5
                 have G5 := Hk.out _ _ grow5
                 have KB5 := (G5.block P hP1 HPb.out).trans HBX.out
                 have KP5 : w5.cell? ⟨P, 1, none⟩ = some (.slice none ys.length cap) := by simp [World.cell?, KB5]
                 have FP5 : w5.frozen? ⟨P, 1, none⟩ = false := free_of_blk 1 KB5
                 have HB5 : Hid _ := KB5
                 obtain ⟨g5, c5, rfl⟩ := own_form own5 (by omega)
                 clear nil5 KB5)
  all_goals
    have D := push_done (o := .cells #[.int .i64 x.id, .int .i64 x.cores, .int .i64 x.long, .int .i64 x.due, .int .i64 x.wt, .int .i64 x.rank, .int .i64 x.at_] 49) HH.out rfl G5 HB5.out own5 at5
    clear own5 at5 grow5
    go_end0
    exact ⟨rfl, g5, c5, D⟩

theorem pushM_any (base P bo bn cap : Nat) (a : Option Addr) (ys : List Jb) (x : Jb) (w : World) (h : HpW w base P bo bn a cap ys) (hb : base ≤ w.heap.size) (hn : ys.length ≤ 1048576) :
    Calls Try.prog 159 #[.pointer (some ⟨P, 0, none⟩), .iface 49 (.agg #[.int .i64 x.id, .int .i64 x.cores, .int .i64 x.long, .int .i64 x.due, .int .i64 x.wt, .int .i64 x.rank, .int .i64 x.at_])] w fun e w' => e = .returned (.tuple #[]) ∧ ∃ g' cap', HpW w' base P bo bn (some ⟨g', 0, none⟩) cap' (ys ++ [x]) ∧ Turn w w' P a (some ⟨g', 0, none⟩) := by
  rcases h.form with e | ⟨g, e⟩
  · subst e; exact pushN_any base P bo bn cap ys x w h hb hn
  · subst e; exact pushG_any base P bo bn g cap ys x w h hb hn

end Go.Proofs.Ytmaojjjdepgaeaa

/- Pop of the program's heap of jobs. -/
namespace Go.Proofs.Ytmaojjjdepgaeaa
open Go.RowKit Go.Sort

theorem mcells_take (ys : List Jb) (n : Nat) : (mcells ys).take (n * 7) = mcells (ys.take n) := by
  induction ys generalizing n with
  | nil => simp [mcells]
  | cons y r ih =>
    cases n with
    | zero => simp [mcells]
    | succ n => rw [mcells_cons, List.take_succ_cons, mcells_cons, show (n + 1) * 7 = (ml y).length + n * 7 by rw [ml_len]; omega, List.take_length_add_append, ih]

theorem pop_done {base P bo bn g cap n : Nat} {ys : List Jb} {w : World} (o : Obj) (h : HpW w base P bo bn (some ⟨g, 0, none⟩) cap ys) (hn : ys.length = n + 1) :
    HpW ((w.setCell ⟨P, 1, none⟩ (.slice (some ⟨g, 0, none⟩) n cap)).alloc o) base P bo bn (some ⟨g, 0, none⟩) cap (ys.take n) ∧ Turn w ((w.setCell ⟨P, 1, none⟩ (.slice (some ⟨g, 0, none⟩) n cap)).alloc o) P (some ⟨g, 0, none⟩) (some ⟨g, 0, none⟩) := by
  obtain ⟨hg0, hg1⟩ := h.ltg
  have hP1 := h.ltP
  have hne := h.ne g rfl
  have hPb := h.ge
  have hl : (ys.take n).length = n := by rw [List.length_take]; omega
  have hsz : (w.setCell ⟨P, 1, none⟩ (.slice (some ⟨g, 0, none⟩) n cap)).heap.size = w.heap.size := by simp [World.setCell]
  have ha : ∀ k, k < w.heap.size → ((w.setCell ⟨P, 1, none⟩ (.slice (some ⟨g, 0, none⟩) n cap)).alloc o).heap[k]? = (w.setCell ⟨P, 1, none⟩ (.slice (some ⟨g, 0, none⟩) n cap)).heap[k]? := fun k hk => Below.heap_alloc _ _ _ (by omega)
  have hb : ∀ k, k < w.heap.size → k ≠ P → ((w.setCell ⟨P, 1, none⟩ (.slice (some ⟨g, 0, none⟩) n cap)).alloc o).heap[k]? = w.heap[k]? := fun k hk hkP => (ha k hk).trans (Below.heap_setCell _ _ _ _ hkP)
  refine ⟨⟨?_, ?_, h.ne, h.ge, h.lo, (World.cell?_of_block (a := ⟨bo, 0, none⟩) (hb bo (by have := h.lo; omega) (by have := h.lo; omega))).trans h.o0, (World.cell?_of_block (a := ⟨bn, 0, none⟩) (hb bn (by have := h.lo; omega) (by have := h.lo; omega))).trans h.n0⟩, ⟨rfl, rfl, rfl, by simp, fun k hk h1 _ => hb k hk h1, Or.inl rfl⟩⟩
  · rw [ha P hP1, blk_set (j := 1) h.box, hl]; simp
  · rw [hl, ← mcells_take]
    have hm := mcells_len ys
    refine ⟨by rw [List.length_take]; omega, ?_⟩
    rcases h.own.2 with ⟨e, _⟩ | ⟨g', c', cur, e, h1, h2, h3, h4, h5, h6⟩
    · cases e
    · injection e with e1 _ e3
      injection e1 with e1
      injection e1 with e1 _ _
      subst e1 e3
      refine .inr ⟨g, cap, cur, rfl, h1, (hb g hg1 (Ne.symm hne)).trans h2, by omega, h4, h5, ?_⟩
      rw [← h6, List.take_take, show min (n * 7) (ys.length * 7) = n * 7 by omega]

set_option maxRecDepth 8000 in
set_option maxHeartbeats 4000000 in
theorem popM_any (base P bo bn g cap n : Nat) (ys : List Jb) (w : World) (h : HpW w base P bo bn (some ⟨g, 0, none⟩) cap ys) (hn : ys.length = n + 1) (hc : cap ≤ maxLen) (hnc : n + 1 ≤ cap) :
    Calls Try.prog 158 #[.pointer (some ⟨P, 0, none⟩)] w fun e w' => e = .returned (.iface 49 (.agg #[.int .i64 (mg ys n).id, .int .i64 (mg ys n).cores, .int .i64 (mg ys n).long, .int .i64 (mg ys n).due, .int .i64 (mg ys n).wt, .int .i64 (mg ys n).rank, .int .i64 (mg ys n).at_])) ∧ HpW w' base P bo bn (some ⟨g, 0, none⟩) cap (ys.take n) ∧ Turn w w' P (some ⟨g, 0, none⟩) (some ⟨g, 0, none⟩) := by
  obtain ⟨hg0, hg1⟩ := h.ltg
  have hP1 := h.ltP
  have hne := h.ne g rfl
  have hPb := h.ge
  have X := h.cell (i := n) (by omega)
  have KP := h.p1
  have FP : w.frozen? ⟨P, 1, none⟩ = false := free_of_blk 1 h.box
  rw [hn] at KP
  have HH : Hid (HpW w base P bo bn (some ⟨g, 0, none⟩) cap ys) := h
  clear h
  unfold maxLen at hc
  obtain ⟨x, hx⟩ : ∃ x, mg ys n = x := ⟨_, rfl⟩
  rw [hx] at X ⊢
  obtain ⟨x0, x1, x2, x3, x4, x5, x6⟩ := X
  have HN : Hid (ys.length = n + 1) := hn
  clear hn hx
  go_enter Try.func158, Try.ntmps158
  go_wp2
  go_ret
  exact ⟨rfl, by first | exact pop_done _ HH.out HN.out | exact pop_swap HH.out HN.out⟩

end Go.Proofs.Ytmaojjjdepgaeaa

/- The library's Push and Pop over the program's heap of jobs. -/
namespace Go.Proofs.Ytmaojjjdepgaeaa
open Go.RowKit Go.Sort Go.Shelf

set_option maxRecDepth 8000 in
set_option maxHeartbeats 4000000 in
theorem heapPush_any (base P bo bn cap : Nat) (a : Option Addr) (ys : List Jb) (x : Jb) (w : World) (h : HpW w base P bo bn a cap ys) (hb : base ≤ w.heap.size) (hn : ys.length < 1048576) (hh : IsHp ys ys.length) :
    Calls Try.prog 79 #[.iface 79 (.pointer (some ⟨P, 0, none⟩)), .iface 49 (.agg #[.int .i64 x.id, .int .i64 x.cores, .int .i64 x.long, .int .i64 x.due, .int .i64 x.wt, .int .i64 x.rank, .int .i64 x.at_])] w fun e w' => e = .returned (.tuple #[]) ∧ ∃ g' cap' zs, HpW w' base P bo bn (some ⟨g', 0, none⟩) cap' zs ∧ zs.Perm (x :: ys) ∧ IsHp zs zs.length ∧ Turn w w' P a (some ⟨g', 0, none⟩) := by
  have ePush := fun args w => enters_of Try.func159 (by kernel_rfl) rfl args w
  have eLen := fun args w => enters_of Try.func78 (by kernel_rfl) rfl args w
  have mP := mPush P
  have nP := nPush P
  have mL := mLen P
  have nL := nLen P
  have CP := pushM_any base P bo bn cap a ys x w h hb (by omega)
  have HU : Hid (UpI (ys ++ [x]) (ys.length + 1) ys.length) := hh.push
  have HL : Hid ((ys ++ [x]).length = ys.length + 1) := by unfold Hid; simp
  clear h hh
  go_enter Try.func79, Try.ntmps79
  go_wp2_with (first
    | (go_at_call 159; refine CP.mono ?_; rintro e w1 ⟨rfl, g1, c1, H1, T1⟩
       have HH1 : Hid _ := H1
       have HT1 : Hid _ := T1
       have CLn := lenH_any base P bo bn c1 _ _ _ H1
       rw [HL.out] at CLn
       clear H1 T1 CP)
    | (go_at_call 78; refine CLn.mono ?_; rintro e w2 ⟨rfl, rfl⟩)
    | (go_at_call 105; refine (up_any base P bo bn g1 c1 ys.length (ys ++ [x]) _ HH1.out (by rw [HL.out]; omega) (by rw [HL.out]; omega) (by rw [HL.out]; exact HU.out)).mono ?_; rintro e w3 ⟨rfl, zs, H3, hp, hs, T3⟩))
  go_end0
  exact ⟨rfl, g1, c1, zs, H3, hp.trans (List.perm_append_singleton _ _), hs, HT1.out.trans T3⟩

set_option maxRecDepth 8000 in
set_option maxHeartbeats 4000000 in
theorem heapPop_any (base P bo bn g cap n : Nat) (ys : List Jb) (w : World) (h : HpW w base P bo bn (some ⟨g, 0, none⟩) cap ys) (hn : ys.length = n + 1) (hn1 : n < 1048576) (hh : IsHp ys ys.length) :
    Calls Try.prog 96 #[.iface 79 (.pointer (some ⟨P, 0, none⟩))] w fun e w' => e = .returned (.iface 49 (.agg #[.int .i64 (mg ys 0).id, .int .i64 (mg ys 0).cores, .int .i64 (mg ys 0).long, .int .i64 (mg ys 0).due, .int .i64 (mg ys 0).wt, .int .i64 (mg ys 0).rank, .int .i64 (mg ys 0).at_])) ∧ ∃ zs, HpW w' base P bo bn (some ⟨g, 0, none⟩) cap zs ∧ (mg ys 0 :: zs).Perm ys ∧ IsHp zs zs.length ∧ Turn w w' P (some ⟨g, 0, none⟩) (some ⟨g, 0, none⟩) := by
  have ePop := fun args w => enters_of Try.func158 (by kernel_rfl) rfl args w
  have eLen := fun args w => enters_of Try.func78 (by kernel_rfl) rfl args w
  have eSwap := fun args w => enters_of Try.func160 (by kernel_rfl) rfl args w
  have mP := mPop P
  have nP := nPop P
  have mL := mLen P
  have nL := nLen P
  have mS := mSwap P
  have nS := nSwap P
  obtain ⟨hc0, hc1⟩ := h.caps (by omega)
  have CLn := lenH_any base P bo bn cap _ _ _ h
  rw [hn] at CLn
  have CS := swapH_any base P bo bn g cap ys 0 n w h (by omega) (by omega)
  have HD : Hid (DnI (sw ys 0 n) n 0) := IsHp.pop (by rw [← hn]; exact hh)
  have HL : Hid (ys.length = n + 1) := hn
  have hl2 : (sw ys 0 n).length = n + 1 := by rw [sw_len]; exact hn
  have HL2 : Hid _ := hl2
  have HX : Hid (mg (sw ys 0 n) n = mg ys 0) := sw_j (by omega)
  have HPs : Hid ((sw ys 0 n).Perm ys) := sw_perm (by omega) (by omega)
  have HC : Hid (n + 1 ≤ cap) := by unfold Hid; omega
  clear hl2 h hh
  rw [hn] at hc0
  clear hn
  obtain ⟨x, hx⟩ : ∃ x, mg ys 0 = x := ⟨_, rfl⟩
  rw [hx] at HX ⊢
  have HX0 : Hid (mg ys 0 = x) := hx
  clear hx
  go_enter Try.func96, Try.ntmps96
  go_wp2_with (first
    | (go_at_call 78; refine CLn.mono ?_; rintro e w2 ⟨rfl, rfl⟩)
    | (go_at_call 160; refine CS.mono ?_; rintro e w1 ⟨rfl, H1, T1⟩
       have HH1 : Hid _ := H1
       have HT1 : Hid _ := T1
       clear H1 T1 CS CLn)
    | (go_at_call 113; refine (down_any base P bo bn g cap n (sw ys 0 n) _ HH1.out (by rw [HL2.out]; omega) (by rw [HL2.out]; omega) HD.out).mono ?_; rintro e w3 ⟨b, zs, rfl, H3, hp, hs, hk, T3⟩
       have HH3 : Hid _ := H3
       have HT3 : Hid _ := T3
       have HP3 : Hid _ := hp
       have HS3 : Hid _ := hs
       have HX3 : Hid (mg zs n = x) := (hk n (Nat.le_refl _)).trans HX.out
       clear H3 T3 hp hs hk)
    | (go_at_call 158; refine (popM_any base P bo bn g cap n zs _ HH3.out (HP3.out.length_eq.trans HL2.out) hc1 HC.out).mono ?_; rw [HX3.out]; rintro e w4 ⟨rfl, H4, T4⟩))
  go_ret
  have hzl : (zs.take n).length = n := by rw [List.length_take, HP3.out.length_eq, HL2.out]; omega
  refine ⟨rfl, zs.take n, H4, ?_, by rw [hzl]; exact IsHp.take HS3.out, (HT1.out.trans HT3.out).trans T4⟩
  have := pop_perm (ys := ys) HL.out (HP3.out.trans HPs.out)
  rwa [HX3.out] at this

end Go.Proofs.Ytmaojjjdepgaeaa
