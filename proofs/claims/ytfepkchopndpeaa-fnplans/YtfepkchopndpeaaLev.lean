/- Levels: the plain mathematics of a line of steps. No program. -/
import Derived.KernelRfl
namespace Go.Proofs.Ytfepkchopndpeaa

abbrev Lev := Int × Int
/-- where level i begins -/
def fr (ls : List Lev) (i : Nat) : Int := (ls[i]?.getD (0, 0)).1
/-- what is free there -/
def fe (ls : List Lev) (i : Nat) : Int := (ls[i]?.getD (0, 0)).2

/-- a right profile -/
structure PO (t : Int) (ls : List Lev) : Prop where
  t0 : 0 ≤ t
  t1 : t ≤ 1000
  n1 : 1 ≤ ls.length
  n2 : ls.length ≤ 200
  z : fr ls 0 = 0
  el : ∀ i, i < ls.length → fr ls i < 1000000000 ∧ 0 ≤ fe ls i ∧ fe ls i ≤ t
  st : ∀ i, i + 1 < ls.length → fr ls i < fr ls (i + 1) ∧ fe ls i ≠ fe ls (i + 1)

noncomputable def poB (t : Int) (ls : List Lev) : Bool := @decide (PO t ls) (Classical.propDecidable _)

theorem poB_t {t : Int} {ls : List Lev} (h : poB t ls = true) : PO t ls := by
  exact @of_decide_eq_true _ (Classical.propDecidable _) h
theorem poB_f {t : Int} {ls : List Lev} (h : poB t ls = false) : ¬ PO t ls := by
  exact @of_decide_eq_false _ (Classical.propDecidable _) h
theorem poB_mk {t : Int} {ls : List Lev} (h : PO t ls) : poB t ls = true := by
  exact @decide_eq_true _ (Classical.propDecidable _) h
theorem poB_no {t : Int} {ls : List Lev} (h : ¬ PO t ls) : poB t ls = false := by
  exact @decide_eq_false _ (Classical.propDecidable _) h

theorem PO.rise {t : Int} {ls : List Lev} (h : PO t ls) : ∀ (d i : Nat), i + d + 1 < ls.length → fr ls i < fr ls (i + d + 1)
  | 0, i, hd => (h.st i hd).1
  | d + 1, i, hd => by
    have h1 := PO.rise h d i (by omega)
    have h2 := (h.st (i + d + 1) (by omega)).1
    have e : i + (d + 1) + 1 = i + d + 1 + 1 := by omega
    rw [e]; omega

theorem PO.lt {t : Int} {ls : List Lev} (h : PO t ls) {i j : Nat} (hij : i < j) (hj : j < ls.length) : fr ls i < fr ls j := by
  have := h.rise (j - i - 1) i (by omega)
  have e : i + (j - i - 1) + 1 = j := by omega
  rwa [e] at this

theorem PO.le {t : Int} {ls : List Lev} (h : PO t ls) {i j : Nat} (hij : i ≤ j) (hj : j < ls.length) : fr ls i ≤ fr ls j := by
  rcases Nat.lt_or_eq_of_le hij with h1 | rfl
  · have := h.lt h1 hj; omega
  · omega

theorem PO.pos {t : Int} {ls : List Lev} (h : PO t ls) {i : Nat} (hi : i < ls.length) : 0 ≤ fr ls i := by
  have := h.le (Nat.zero_le i) hi
  rw [h.z] at this; exact this

/-- of the first k levels the last one that begins no later than t (0 where there is none) -/
def lvlTo (ls : List Lev) (t : Int) : Nat → Nat
  | 0 => 0
  | k + 1 => if fr ls k ≤ t then k else lvlTo ls t k
def lvl (ls : List Lev) (t : Int) : Nat := lvlTo ls t ls.length
/-- what is free at t -/
def atI (ls : List Lev) (t : Int) : Int := fe ls (lvl ls t)

theorem lvlTo_lt (ls : List Lev) (t : Int) : ∀ k, 0 < k → lvlTo ls t k < k
  | 0, h => absurd h (by omega)
  | k + 1, _ => by
    unfold lvlTo; split
    · omega
    · by_cases h0 : k = 0
      · subst h0; simp [lvlTo]
      · have := lvlTo_lt ls t k (by omega); omega

/-- the mark of a level -/
theorem PO.lvl_spec {T : Int} {ls : List Lev} (h : PO T ls) {t : Int} (ht : 0 ≤ t) : lvl ls t < ls.length ∧ fr ls (lvl ls t) ≤ t ∧ ∀ j, lvl ls t < j → j < ls.length → t < fr ls j := by
  have key : ∀ k, 0 < k → k ≤ ls.length → fr ls (lvlTo ls t k) ≤ t ∧ ∀ j, lvlTo ls t k < j → j < k → t < fr ls j := by
    intro k
    induction k with
    | zero => intro h0; omega
    | succ k ih =>
      intro _ hk
      unfold lvlTo
      by_cases hc : fr ls k ≤ t
      · rw [if_pos hc]; exact ⟨hc, fun j h1 h2 => by omega⟩
      · rw [if_neg hc]
        by_cases h0 : k = 0
        · subst h0; exact absurd (by rw [h.z]; exact ht) hc
        · obtain ⟨h1, h2⟩ := ih (by omega) (by omega)
          exact ⟨h1, fun j a b => by
            by_cases e : j = k
            · subst e; omega
            · exact h2 j a (by omega)⟩
  obtain ⟨h1, h2⟩ := key ls.length h.n1 (Nat.le_refl _)
  exact ⟨lvlTo_lt ls t _ h.n1, h1, h2⟩

/-- whoever has the mark is it -/
theorem PO.lvl_eq {T : Int} {ls : List Lev} (h : PO T ls) {t : Int} (ht : 0 ≤ t) {i : Nat} (hi : i < ls.length) (h1 : fr ls i ≤ t) (h2 : i + 1 < ls.length → t < fr ls (i + 1)) : lvl ls t = i := by
  obtain ⟨a, b, c⟩ := h.lvl_spec ht
  rcases Nat.lt_trichotomy (lvl ls t) i with h3 | h3 | h3
  · have := c i h3 hi; omega
  · exact h3
  · have h4 := h2 (by omega)
    have := h.le (i := i + 1) (j := lvl ls t) (by omega) a
    omega

theorem PO.lvl_mono {T : Int} {ls : List Lev} (h : PO T ls) {s t : Int} (hs : 0 ≤ s) (hst : s ≤ t) : lvl ls s ≤ lvl ls t := by
  obtain ⟨a, b, c⟩ := h.lvl_spec (t := t) (by omega)
  obtain ⟨a', b', c'⟩ := h.lvl_spec hs
  by_cases hlt : lvl ls t < lvl ls s
  · have := c _ hlt a'; omega
  · omega

end Go.Proofs.Ytfepkchopndpeaa
