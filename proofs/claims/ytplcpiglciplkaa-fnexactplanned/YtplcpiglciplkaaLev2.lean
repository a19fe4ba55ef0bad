/- The levels of a stretch, and the least of them: plain mathematics. -/
import Derived.Test.YtplcpiglciplkaaLev
namespace Go.Proofs.Ytplcpiglciplkaa

/-- the levels of the times from x on, ahead of y -/
def dur (ls : List Lev) (x y : Int) : List Lev := if y ≤ x then [] else (ls.drop (lvl ls x)).take (lvl ls (y - 1) + 1 - lvl ls x)

theorem fr_cut (ls : List Lev) (i m k : Nat) (hk : k < m) : fr ((ls.drop i).take m) k = fr ls (i + k) := by
  unfold fr; rw [List.getElem?_take_of_lt hk, List.getElem?_drop]
theorem fe_cut (ls : List Lev) (i m k : Nat) (hk : k < m) : fe ((ls.drop i).take m) k = fe ls (i + k) := by
  unfold fe; rw [List.getElem?_take_of_lt hk, List.getElem?_drop]

theorem dur_nil {ls : List Lev} {x y : Int} (h : y ≤ x) : dur ls x y = [] := by unfold dur; rw [if_pos h]
theorem dur_cut {ls : List Lev} {x y : Int} (h : x < y) : dur ls x y = (ls.drop (lvl ls x)).take (lvl ls (y - 1) + 1 - lvl ls x) := by unfold dur; rw [if_neg (by omega)]

theorem PO.dur_len {T : Int} {ls : List Lev} (po : PO T ls) {x y : Int} (hx : 0 ≤ x) (h : x < y) : (dur ls x y).length = lvl ls (y - 1) + 1 - lvl ls x := by
  rw [dur_cut h, List.length_take, List.length_drop]
  have := (po.lvl_spec (t := y - 1) (by omega)).1
  have := po.lvl_mono hx (t := y - 1) (by omega)
  omega
theorem dur_fr {ls : List Lev} {x y : Int} (h : x < y) {k : Nat} (hk : k < lvl ls (y - 1) + 1 - lvl ls x) : fr (dur ls x y) k = fr ls (lvl ls x + k) := by
  rw [dur_cut h, fr_cut _ _ _ _ hk]
theorem dur_fe {ls : List Lev} {x y : Int} (h : x < y) {k : Nat} (hk : k < lvl ls (y - 1) + 1 - lvl ls x) : fe (dur ls x y) k = fe ls (lvl ls x + k) := by
  rw [dur_cut h, fe_cut _ _ _ _ hk]

/-- the least of m and what is free at the first k -/
def minTo (l : List Lev) (m : Int) : Nat → Int
  | 0 => m
  | k + 1 => min (minTo l m k) (fe l k)
/-- the same of those that begin from x on, ahead of y -/
def minIn (l : List Lev) (x y : Int) (m : Int) : Nat → Int
  | 0 => m
  | k + 1 => if x ≤ fr l k ∧ fr l k ≤ y - 1 then min (minIn l x y m k) (fe l k) else minIn l x y m k
/-- what Least tells of a right profile and two times -/
def leastI (T : Int) (ls : List Lev) (x y : Int) : Int := if y ≤ x then T else minIn ls x y (atI ls x) ls.length

theorem least_same {T : Int} {ls : List Lev} (po : PO T ls) {x y : Int} (hx : 0 ≤ x) : minTo (dur ls x y) T (dur ls x y).length = leastI T ls x y := by
  by_cases hxy : y ≤ x
  · rw [dur_nil hxy]; unfold leastI; rw [if_pos hxy]; rfl
  · have h : x < y := by omega
    unfold leastI
    rw [if_neg hxy, po.dur_len hx h]
    obtain ⟨A, hA⟩ : ∃ A, A = lvl ls x := ⟨_, rfl⟩
    obtain ⟨B, hB⟩ : ∃ B, B = lvl ls (y - 1) := ⟨_, rfl⟩
    obtain ⟨a1, a2, a3⟩ := po.lvl_spec hx
    obtain ⟨b1, b2, b3⟩ := po.lvl_spec (t := y - 1) (by omega)
    have hAB := po.lvl_mono hx (t := y - 1) (by omega)
    have hfe : ∀ k, k < B + 1 - A → fe (dur ls x y) k = fe ls (A + k) := by rw [hA, hB]; exact fun k hk => dur_fe h hk
    rw [← hA] at a1 a2 a3 hAB
    rw [← hB] at b1 b2 b3 hAB
    have e0 : atI ls x = fe ls A := by rw [hA]; rfl
    rw [← hA, ← hB, e0]
    -- the model: up to A nothing, from A on the row's own
    have m1 : ∀ k, k ≤ A → minIn ls x y (fe ls A) k = fe ls A := by
      intro k
      induction k with
      | zero => intro _; rfl
      | succ k ih =>
        intro hk
        have := po.lt (i := k) (j := A) (by omega) a1
        rw [minIn, if_neg (by omega)]
        exact ih (by omega)
    have m2 : minIn ls x y (fe ls A) (A + 1) = fe ls A := by
      rw [minIn, m1 A (Nat.le_refl _)]
      split
      · exact Int.min_self _
      · rfl
    have m3 : ∀ j, A + j ≤ B → minIn ls x y (fe ls A) (A + j + 1) = minTo (dur ls x y) T (j + 1) := by
      intro j
      induction j with
      | zero =>
        intro _
        show minIn ls x y (fe ls A) (A + 1) = min (minTo (dur ls x y) T 0) (fe (dur ls x y) 0)
        rw [m2, hfe 0 (by omega)]
        have := (po.el A a1).2.2
        show fe ls A = min T (fe ls (A + 0))
        rw [Nat.add_zero]; omega
      | succ j ih =>
        intro hj
        have c1 := po.lt (i := A) (j := A + (j + 1)) (by omega) (by omega)
        have c2 := a3 (A + (j + 1)) (by omega) (by omega)
        have c3 := po.le (i := A + (j + 1)) (j := B) hj b1
        rw [minIn, if_pos (by omega), show A + (j + 1) = A + j + 1 from by omega, ih (by omega)]
        show _ = min (minTo (dur ls x y) T (j + 1)) (fe (dur ls x y) (j + 1))
        rw [hfe (j + 1) (by omega), show A + (j + 1) = A + j + 1 from by omega]
    have m4 : ∀ d, B + 1 + d ≤ ls.length → minIn ls x y (fe ls A) (B + 1 + d) = minTo (dur ls x y) T (B + 1 - A) := by
      intro d
      induction d with
      | zero =>
        intro _
        have := m3 (B - A) (by omega)
        rw [show A + (B - A) + 1 = B + 1 from by omega, show B - A + 1 = B + 1 - A from by omega] at this
        exact this
      | succ d ih =>
        intro hd
        have := b3 (B + 1 + d) (by omega) (by omega)
        rw [show B + 1 + (d + 1) = B + 1 + d + 1 from by omega, minIn, if_neg (by omega)]
        exact ih (by omega)
    have := m4 (ls.length - (B + 1)) (by omega)
    rw [show B + 1 + (ls.length - (B + 1)) = ls.length from by omega] at this
    exact this.symm

end Go.Proofs.Ytplcpiglciplkaa
