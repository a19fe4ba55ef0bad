/- The area of a stretch: plain mathematics. -/
import Derived.Test.YtplcpiglciplkaaCopied
namespace Go.Proofs.Ytplcpiglciplkaa

/-- where level i is over -/
def nxt (ls : List Lev) (i : Nat) (e : Int) : Int := if i + 1 < ls.length then fr ls (i + 1) else e
theorem nxt_in {ls : List Lev} {i : Nat} {e : Int} (h : i + 1 < ls.length) : nxt ls i e = fr ls (i + 1) := by unfold nxt; rw [if_pos h]
theorem nxt_out {ls : List Lev} {i : Nat} {e : Int} (h : ¬ i + 1 < ls.length) : nxt ls i e = e := by unfold nxt; rw [if_neg h]

/-- how much of level i's time lies from x on, ahead of y -/
def spanI (ls : List Lev) (x y : Int) (i : Nat) : Int := max 0 (min (nxt ls i 1000000000) y - max (fr ls i) x)
def areaIn (ls : List Lev) (x y : Int) : Nat → Int
  | 0 => 0
  | k + 1 => areaIn ls x y k + fe ls k * spanI ls x y k
def areaTo (c : List Lev) (y : Int) : Nat → Int
  | 0 => 0
  | k + 1 => areaTo c y k + fe c k * (nxt c k y - fr c k)

theorem nxt_bd {T : Int} {ls : List Lev} (po : PO T ls) {i : Nat} (hi : i < ls.length) : fr ls i < nxt ls i 1000000000 ∧ nxt ls i 1000000000 ≤ 1000000000 := by
  by_cases h : i + 1 < ls.length
  · rw [nxt_in h]; exact ⟨(po.st i h).1, by have := (po.el (i + 1) h).1; omega⟩
  · rw [nxt_out h]; exact ⟨(po.el i hi).1, by omega⟩

theorem mul_bd {a b c : Int} (h0 : 0 ≤ a) (h1 : a ≤ 1000) (h2 : 0 ≤ b) (h3 : b ≤ c) : 0 ≤ a * b ∧ a * b ≤ 1000 * c := by
  refine ⟨Int.mul_nonneg h0 h2, ?_⟩
  exact Int.le_trans (Int.mul_le_mul_of_nonneg_right h1 h2) (by omega)

/-- all spans of the first k levels make up no more than the time till then -/
theorem area_bd {T : Int} {ls : List Lev} (po : PO T ls) {x y : Int} : ∀ k, k < ls.length → 0 ≤ areaIn ls x y k ∧ areaIn ls x y k ≤ 1000 * fr ls k ∧ 0 ≤ fe ls k * spanI ls x y k ∧ fe ls k * spanI ls x y k ≤ 1000 * (nxt ls k 1000000000 - fr ls k) := by
  intro k
  induction k with
  | zero =>
    intro hk
    have h := nxt_bd po hk
    have e := po.el 0 hk
    have t1 := po.t1
    have := mul_bd (a := fe ls 0) (b := spanI ls x y 0) (c := nxt ls 0 1000000000 - fr ls 0) (by omega) (by omega) (by unfold spanI; omega) (by unfold spanI; omega)
    exact ⟨Int.le_refl _, by show (0 : Int) ≤ _; rw [po.z]; omega, this.1, this.2⟩
  | succ k ih =>
    intro hk
    have h := nxt_bd po hk
    have e := po.el (k + 1) hk
    have t1 := po.t1
    have := mul_bd (a := fe ls (k + 1)) (b := spanI ls x y (k + 1)) (c := nxt ls (k + 1) 1000000000 - fr ls (k + 1)) (by omega) (by omega) (by unfold spanI; omega) (by unfold spanI; omega)
    obtain ⟨i1, i2, i3, i4⟩ := ih (by omega)
    rw [nxt_in hk] at i4
    exact ⟨by show 0 ≤ areaIn ls x y k + _; omega, by show areaIn ls x y k + _ ≤ _; omega, this.1, this.2⟩

theorem PO.cpd_part {T : Int} {ls : List Lev} (po : PO T ls) {x y : Int} (hx : 0 ≤ x) (h : x < y) (hy : y ≤ 1000000000) {j : Nat} (hj : j < lvl ls (y - 1) + 1 - lvl ls x) :
    fe (cpd ls x y) j = fe ls (lvl ls x + j) ∧ spanI ls x y (lvl ls x + j) = nxt (cpd ls x y) j y - fr (cpd ls x y) j := by
  have hlen := po.dur_len hx h
  have hcl := cpd_len ls x y
  obtain ⟨a1, a2, a3⟩ := po.lvl_spec hx
  obtain ⟨b1, b2, b3⟩ := po.lvl_spec (t := y - 1) (by omega)
  refine ⟨by rw [cpd_fe, dur_fe h hj], ?_⟩
  have hfr : fr (cpd ls x y) j = max (fr ls (lvl ls x + j)) x := by
    cases j with
    | zero => rw [cpd_fr0 (by omega), Nat.add_zero]; omega
    | succ j =>
      rw [cpd_fr, dur_fr h hj]
      have := a3 (lvl ls x + (j + 1)) (by omega) (by omega)
      omega
  have hk := nxt_bd po (i := lvl ls x + j) (by omega)
  have hB := po.le (i := lvl ls x + j) (j := lvl ls (y - 1)) (by omega) b1
  have hnx : nxt (cpd ls x y) j y = min (nxt ls (lvl ls x + j) 1000000000) y := by
    by_cases hj1 : j + 1 < lvl ls (y - 1) + 1 - lvl ls x
    · rw [nxt_in (by omega), cpd_fr, dur_fr h hj1, nxt_in (by omega)]
      have := po.le (i := lvl ls x + (j + 1)) (j := lvl ls (y - 1)) (by omega) b1
      rw [show lvl ls x + j + 1 = lvl ls x + (j + 1) from by omega]
      omega
    · rw [nxt_out (by omega)]
      by_cases hn : lvl ls x + j + 1 < ls.length
      · rw [nxt_in hn]
        have := b3 (lvl ls x + j + 1) (by omega) hn
        omega
      · rw [nxt_out hn]; omega
  have hA : x < nxt ls (lvl ls x + j) 1000000000 := by
    by_cases hn : lvl ls x + j + 1 < ls.length
    · rw [nxt_in hn]; exact a3 _ (by omega) hn
    · rw [nxt_out hn]; omega
  rw [hnx, hfr]
  unfold spanI
  omega

theorem area_same {T : Int} {ls : List Lev} (po : PO T ls) {x y : Int} (hx : 0 ≤ x) (hy : y ≤ 1000000000) : areaTo (cpd ls x y) y (cpd ls x y).length = areaIn ls x y ls.length := by
  by_cases hxy : y ≤ x
  · have e0 : cpd ls x y = [] := by unfold cpd; rw [dur_nil hxy]
    rw [e0]
    have : ∀ k, areaIn ls x y k = 0 := by
      intro k
      induction k with
      | zero => rfl
      | succ k ih =>
        have : spanI ls x y k = 0 := by unfold spanI; omega
        show areaIn ls x y k + fe ls k * spanI ls x y k = 0
        rw [ih, this]; simp
    rw [this]; rfl
  · have h : x < y := by omega
    have hlen := po.dur_len hx h
    have hcl := cpd_len ls x y
    obtain ⟨a1, a2, a3⟩ := po.lvl_spec hx
    obtain ⟨b1, b2, b3⟩ := po.lvl_spec (t := y - 1) (by omega)
    have hAB := po.lvl_mono hx (t := y - 1) (by omega)
    have m1 : ∀ k, k ≤ lvl ls x → areaIn ls x y k = 0 := by
      intro k
      induction k with
      | zero => intro _; rfl
      | succ k ih =>
        intro hk
        have := po.le (i := k + 1) (j := lvl ls x) hk a1
        have e : spanI ls x y k = 0 := by unfold spanI; rw [nxt_in (by omega)]; omega
        show areaIn ls x y k + fe ls k * spanI ls x y k = 0
        rw [ih (by omega), e]; simp
    have m2 : ∀ j, j ≤ lvl ls (y - 1) + 1 - lvl ls x → areaIn ls x y (lvl ls x + j) = areaTo (cpd ls x y) y j := by
      intro j
      induction j with
      | zero => intro _; exact m1 _ (Nat.le_refl _)
      | succ j ih =>
        intro hj
        obtain ⟨e1, e2⟩ := po.cpd_part hx h hy (j := j) (by omega)
        show areaIn ls x y (lvl ls x + j) + fe ls (lvl ls x + j) * spanI ls x y (lvl ls x + j) = areaTo (cpd ls x y) y j + fe (cpd ls x y) j * (nxt (cpd ls x y) j y - fr (cpd ls x y) j)
        rw [ih (by omega), e1, e2]
    have m3 : ∀ d, lvl ls (y - 1) + 1 + d ≤ ls.length → areaIn ls x y (lvl ls (y - 1) + 1 + d) = areaTo (cpd ls x y) y (lvl ls (y - 1) + 1 - lvl ls x) := by
      intro d
      induction d with
      | zero =>
        intro _
        have := m2 (lvl ls (y - 1) + 1 - lvl ls x) (Nat.le_refl _)
        rw [show lvl ls x + (lvl ls (y - 1) + 1 - lvl ls x) = lvl ls (y - 1) + 1 + 0 from by omega] at this
        exact this
      | succ d ih =>
        intro hd
        have := b3 (lvl ls (y - 1) + 1 + d) (by omega) (by omega)
        have e : spanI ls x y (lvl ls (y - 1) + 1 + d) = 0 := by unfold spanI; omega
        show areaIn ls x y (lvl ls (y - 1) + 1 + d) + fe ls (lvl ls (y - 1) + 1 + d) * spanI ls x y (lvl ls (y - 1) + 1 + d) = _
        rw [ih (by omega), e]; simp
    rw [hcl, hlen]
    have := m3 (ls.length - (lvl ls (y - 1) + 1)) (by omega)
    rw [show lvl ls (y - 1) + 1 + (ls.length - (lvl ls (y - 1) + 1)) = ls.length from by omega] at this
    exact this.symm

end Go.Proofs.Ytplcpiglciplkaa
