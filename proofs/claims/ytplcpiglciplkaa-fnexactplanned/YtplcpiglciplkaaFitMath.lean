/- No time ahead of the first fit has room: the plain mathematics. -/
import Derived.Test.YtplcpiglciplkaaFit
namespace Go.Proofs.Ytplcpiglciplkaa
open Go.RowKit

theorem least_ex {p : Nat → Prop} : ∀ m, p m → ∃ j, j ≤ m ∧ p j ∧ ∀ i, i < j → ¬ p i := by
  intro m
  induction m using Nat.strongRecOn with
  | ind m ih =>
    intro hm
    by_cases h : ∃ i, i < m ∧ p i
    · obtain ⟨i, hi, hp⟩ := h
      obtain ⟨j, h1, h2, h3⟩ := ih i hi hp
      exact ⟨j, by omega, h2, h3⟩
    · exact ⟨m, Nat.le_refl _, hm, fun i hi hp => h ⟨i, hi, hp⟩⟩

theorem PO.least_le {T : Int} {ls : List Lev} (po : PO T ls) {x y : Int} (hx : 0 ≤ x) : leastI T ls x y ≤ T := by
  have h := (minTo_ge (dur ls x y) T (leastI T ls x y) (dur ls x y).length).1 (by rw [least_same po hx]; exact Int.le_refl _)
  exact h.1

/-- what is free all along is free at each time -/
theorem PO.least_at {T : Int} {ls : List Lev} (po : PO T ls) {x y t : Int} (hx : 0 ≤ x) (h1 : x ≤ t) (h2 : t < y) : leastI T ls x y ≤ atI ls t := by
  obtain ⟨a1, a2, _⟩ := po.lvl_spec (t := t) (by omega)
  exact (po.least_ge hx (po.least_le hx)).1 (Int.le_refl _) (by omega) (lvl ls t) (po.lvl_mono hx h1) a1 (by omega)

theorem later_pos {s t long : Int} (hs : s < 1000000000) (h : s < laterI s long) (ht : t < 1000000000) : t < laterI t long := by
  unfold laterI at *
  split at h <;> split <;> omega

theorem fitI_never {ls : List Lev} {x long n : Int} (h : ¬ x < 1000000000) : fitI ls x long n = 1000000000 := by
  refine fitI_no fun i hi => ?_
  have : (cpd ls x 1000000000).length = 0 := by rw [cpd_len, dur_nil (by omega)]; rfl
  omega

/-- either there is room somewhere, and the first such beginning is told, or Never is -/
theorem PO.fit_cases {T : Int} {ls : List Lev} (_po : PO T ls) {x long n : Int} :
    (∃ j, j < (cpd ls x 1000000000).length ∧ okFit (cpd ls x 1000000000) long n j ∧ (∀ i, i < j → ¬ okFit (cpd ls x 1000000000) long n i) ∧ fitI ls x long n = fr (cpd ls x 1000000000) j) ∨ ((∀ i, i < (cpd ls x 1000000000).length → ¬ okFit (cpd ls x 1000000000) long n i) ∧ fitI ls x long n = 1000000000) := by
  by_cases h : ∃ i, i < (cpd ls x 1000000000).length ∧ okFit (cpd ls x 1000000000) long n i
  · obtain ⟨i, hi, ho⟩ := h
    obtain ⟨j, h1, h2, h3⟩ := least_ex i ho
    exact Or.inl ⟨j, by omega, h2, h3, fitI_at (by omega) h2 h3⟩
  · have hn : ∀ i, i < (cpd ls x 1000000000).length → ¬ okFit (cpd ls x 1000000000) long n i := fun i hi ho => h ⟨i, hi, ho⟩
    exact Or.inr ⟨hn, fitI_no hn⟩

theorem PO.fit_bd {T : Int} {ls : List Lev} (po : PO T ls) {x long n : Int} (hx : 0 ≤ x) (hx2 : x ≤ 1000000000) : x ≤ fitI ls x long n ∧ fitI ls x long n ≤ 1000000000 := by
  by_cases h : x < 1000000000
  · rcases po.fit_cases (x := x) (long := long) (n := n) with ⟨j, hj, _, _, e⟩ | ⟨_, e⟩
    · obtain ⟨_, l2, l3, _⟩ := po.cpd_lvl hx h hj
      rw [e]; omega
    · rw [e]; omega
  · rw [fitI_never h]; omega

/-- at the first fit there is room as long as is wanted -/
theorem PO.fit_room {T : Int} {ls : List Lev} (po : PO T ls) {x long n : Int} (hx : 0 ≤ x) (hn : n ≤ T) (h : fitI ls x long n < 1000000000) : n ≤ leastI T ls (fitI ls x long n) (laterI (fitI ls x long n) long) := by
  by_cases h1 : x < 1000000000
  · rcases po.fit_cases (x := x) (long := long) (n := n) with ⟨j, hj, ho, _, e⟩ | ⟨_, e⟩
    · rw [e]; exact (po.okFit_iff hx h1 hn hj).2 ho
    · omega
  · rw [fitI_never h1] at h; omega

/-- no time ahead of it has -/
theorem PO.fit_ahead {T : Int} {ls : List Lev} (po : PO T ls) {x long n t : Int} (hx : 0 ≤ x) (hn : n ≤ T) (h1 : x ≤ t) (h2 : t < fitI ls x long n) (h3 : t < 1000000000) : leastI T ls t (laterI t long) < n := by
  have hx1 : x < 1000000000 := by omega
  obtain ⟨c1, c2, c3, c4, c5⟩ := po.cpd_all hx hx1
  obtain ⟨a1, a2, a3⟩ := po.lvl_spec (t := t) (by omega)
  have hmono := po.lvl_mono hx h1
  by_cases hc : leastI T ls t (laterI t long) < n
  · exact hc
  · exfalso
    obtain ⟨p, hp⟩ : ∃ p, lvl ls t = lvl ls x + p := ⟨lvl ls t - lvl ls x, by omega⟩
    have hpl : p < (cpd ls x 1000000000).length := by omega
    obtain ⟨l1, l2, l3, l4⟩ := po.cpd_lvl hx hx1 hpl
    have hfp : fr (cpd ls x 1000000000) p ≤ t := by
      cases p with
      | zero => rw [c3]; exact h1
      | succ q => rw [c4 q hpl, ← hp]; exact a2
    have ok : okFit (cpd ls x 1000000000) long n p := by
      refine (po.okFit_iff hx hx1 hn hpl).1 ((po.least_ge (by omega) hn).2 fun hlt i hi1 hi2 hi3 => ?_)
      have hm := laterI_mono (b := long) hfp
      exact (po.least_ge (by omega) hn).1 (by omega) (later_pos l3 hlt h3) i (by omega) hi2 (by omega)
    rcases po.fit_cases (x := x) (long := long) (n := n) with ⟨j, hj, _, hno, e⟩ | ⟨hno, _⟩
    · have hjp : j ≤ p := by
        rcases Nat.lt_or_ge p j with h | h
        · exact absurd ok (hno p h)
        · exact h
      by_cases ej : j = p
      · rw [ej] at e; omega
      · have := po.cpd_le hx hx1 (i := j) (j := p) (by omega) hpl
        omega
    · exact hno p hpl ok

end Go.Proofs.Ytplcpiglciplkaa
