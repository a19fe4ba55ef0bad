/- The first fit: plain mathematics. -/
import Derived.Test.YtplcpiglciplkaaArea
namespace Go.Proofs.Ytplcpiglciplkaa

/-- the first of the m numbers from j on for which p holds; where there is none the end -/
noncomputable def fstN (p : Nat → Prop) : Nat → Nat → Nat
  | 0, j => j
  | k + 1, j => if @decide (p j) (Classical.propDecidable _) = true then j else fstN p k (j + 1)

theorem fstN_eq (p : Nat → Prop) : ∀ (m j r : Nat), j ≤ r → r ≤ j + m → (∀ i, j ≤ i → i < r → ¬ p i) → (r < j + m → p r) → fstN p m j = r
  | 0, j, r, h1, h2, _, _ => by unfold fstN; omega
  | m + 1, j, r, h1, h2, h3, h4 => by
    unfold fstN
    by_cases e : j = r
    · subst e
      rw [if_pos (@decide_eq_true _ (Classical.propDecidable _) (h4 (by omega)))]
    · rw [if_neg (by intro h; exact h3 j (Nat.le_refl _) (by omega) (@of_decide_eq_true _ (Classical.propDecidable _) h))]
      exact fstN_eq p m (j + 1) r (by omega) (by omega) (fun i a b => h3 i (by omega) b) (fun h => h4 (by omega))

/-- from level j's beginning on there is room for so long -/
def okFit (c : List Lev) (long n : Int) (j : Nat) : Prop := ∀ i, j ≤ i → i < c.length → fr c i < laterI (fr c j) long → n ≤ fe c i
noncomputable def fitI (ls : List Lev) (x long n : Int) : Int :=
  if fstN (okFit (cpd ls x 1000000000) long n) (cpd ls x 1000000000).length 0 < (cpd ls x 1000000000).length then fr (cpd ls x 1000000000) (fstN (okFit (cpd ls x 1000000000) long n) (cpd ls x 1000000000).length 0) else 1000000000

theorem fitI_at {ls : List Lev} {x long n : Int} {j : Nat} (h : j < (cpd ls x 1000000000).length) (h1 : okFit (cpd ls x 1000000000) long n j) (h2 : ∀ i, i < j → ¬ okFit (cpd ls x 1000000000) long n i) : fitI ls x long n = fr (cpd ls x 1000000000) j := by
  have e := fstN_eq (okFit (cpd ls x 1000000000) long n) (cpd ls x 1000000000).length 0 j (by omega) (by omega) (fun i _ hi => h2 i hi) (fun _ => h1)
  unfold fitI; rw [e, if_pos h]
theorem fitI_no {ls : List Lev} {x long n : Int} (h2 : ∀ i, i < (cpd ls x 1000000000).length → ¬ okFit (cpd ls x 1000000000) long n i) : fitI ls x long n = 1000000000 := by
  have e := fstN_eq (okFit (cpd ls x 1000000000) long n) (cpd ls x 1000000000).length 0 (cpd ls x 1000000000).length (by omega) (by omega) (fun i _ hi => h2 i hi) (fun h => by omega)
  unfold fitI; rw [e, if_neg (by omega)]

theorem minTo_ge (l : List Lev) (m n : Int) : ∀ k, n ≤ minTo l m k ↔ n ≤ m ∧ ∀ i, i < k → n ≤ fe l i
  | 0 => ⟨fun h => ⟨h, fun i hi => by omega⟩, fun h => h.1⟩
  | k + 1 => by
    show n ≤ min (minTo l m k) (fe l k) ↔ _
    have ih := minTo_ge l m n k
    constructor
    · intro h
      have h1 : n ≤ minTo l m k := by omega
      refine ⟨(ih.1 h1).1, fun i hi => ?_⟩
      by_cases e : i = k
      · subst e; omega
      · exact (ih.1 h1).2 i (by omega)
    · intro h
      have h1 := ih.2 ⟨h.1, fun i hi => h.2 i (by omega)⟩
      have h2 := h.2 k (by omega)
      omega

theorem PO.least_ge {T : Int} {ls : List Lev} (po : PO T ls) {x y n : Int} (hx : 0 ≤ x) (hn : n ≤ T) :
    n ≤ leastI T ls x y ↔ (x < y → ∀ i, lvl ls x ≤ i → i < ls.length → fr ls i < y → n ≤ fe ls i) := by
  rw [← least_same po hx, minTo_ge]
  by_cases h : x < y
  · have hlen := po.dur_len hx h
    obtain ⟨b1, b2, b3⟩ := po.lvl_spec (t := y - 1) (by omega)
    rw [hlen]
    constructor
    · intro ⟨_, g⟩ _ i h1 h2 h3
      have hi : i ≤ lvl ls (y - 1) := by
        by_cases c : i ≤ lvl ls (y - 1)
        · exact c
        · have := b3 i (by omega) h2; omega
      have := g (i - lvl ls x) (by omega)
      rw [dur_fe h (by omega), show lvl ls x + (i - lvl ls x) = i from by omega] at this
      exact this
    · intro g
      refine ⟨hn, fun i hi => ?_⟩
      rw [dur_fe h hi]
      have := po.le (i := lvl ls x + i) (j := lvl ls (y - 1)) (by omega) b1
      exact g h (lvl ls x + i) (by omega) (by omega) (by omega)
  · rw [dur_nil (by omega)]
    exact ⟨fun _ h' => absurd h' h, fun _ => ⟨hn, fun i hi => absurd hi (by simp)⟩⟩

theorem PO.cpd_all {T : Int} {ls : List Lev} (po : PO T ls) {x : Int} (hx : 0 ≤ x) (h : x < 1000000000) :
    lvl ls x + (cpd ls x 1000000000).length = ls.length ∧ 0 < (cpd ls x 1000000000).length ∧ fr (cpd ls x 1000000000) 0 = x ∧ (∀ i, i + 1 < (cpd ls x 1000000000).length → fr (cpd ls x 1000000000) (i + 1) = fr ls (lvl ls x + (i + 1))) ∧ (∀ i, i < (cpd ls x 1000000000).length → fe (cpd ls x 1000000000) i = fe ls (lvl ls x + i)) := by
  obtain ⟨a1, a2, a3⟩ := po.lvl_spec hx
  have n1 := po.n1
  have e : lvl ls (1000000000 - 1) = ls.length - 1 := po.lvl_eq (by omega) (by omega) (by have := (po.el (ls.length - 1) (by omega)).1; omega) (fun h => by omega)
  have hlen := po.dur_len hx h
  have hcl := cpd_len ls x 1000000000
  rw [e] at hlen
  refine ⟨by omega, by omega, cpd_fr0 (by omega), fun i hi => ?_, fun i hi => ?_⟩
  · rw [cpd_fr, dur_fr h (by omega)]
  · rw [cpd_fe, dur_fe h (by omega)]

theorem PO.cpd_lvl {T : Int} {ls : List Lev} (po : PO T ls) {x : Int} (hx : 0 ≤ x) (h : x < 1000000000) {j : Nat} (hj : j < (cpd ls x 1000000000).length) :
    lvl ls (fr (cpd ls x 1000000000) j) = lvl ls x + j ∧ x ≤ fr (cpd ls x 1000000000) j ∧ fr (cpd ls x 1000000000) j < 1000000000 ∧ fr ls (lvl ls x + j) ≤ fr (cpd ls x 1000000000) j := by
  obtain ⟨c1, c2, c3, c4, c5⟩ := po.cpd_all hx h
  obtain ⟨a1, a2, a3⟩ := po.lvl_spec hx
  cases j with
  | zero => rw [c3]; exact ⟨rfl, by omega, h, a2⟩
  | succ j =>
    rw [c4 j hj]
    have h3 := a3 (lvl ls x + (j + 1)) (by omega) (by omega)
    have h4 := (po.el (lvl ls x + (j + 1)) (by omega)).1
    exact ⟨po.lvl_eq (by omega) (by omega) (by omega) (fun hh => (po.st _ hh).1), by omega, h4, by omega⟩

theorem PO.cpd_le {T : Int} {ls : List Lev} (po : PO T ls) {x : Int} (hx : 0 ≤ x) (h : x < 1000000000) {i j : Nat} (hij : i < j) (hj : j < (cpd ls x 1000000000).length) :
    fr (cpd ls x 1000000000) i < fr (cpd ls x 1000000000) j := by
  obtain ⟨c1, c2, c3, c4, c5⟩ := po.cpd_all hx h
  obtain ⟨a1, a2, a3⟩ := po.lvl_spec hx
  obtain ⟨j, rfl⟩ : ∃ j', j = j' + 1 := ⟨j - 1, by omega⟩
  rw [c4 j hj]
  cases i with
  | zero => rw [c3]; exact a3 _ (by omega) (by omega)
  | succ i => rw [c4 i (by omega)]; exact po.lt (by omega) (by omega)

/-- the model's test at a level's beginning is the program's -/
theorem PO.okFit_iff {T : Int} {ls : List Lev} (po : PO T ls) {x long n : Int} (hx : 0 ≤ x) (h : x < 1000000000) (hn : n ≤ T) {j : Nat} (hj : j < (cpd ls x 1000000000).length) :
    n ≤ leastI T ls (fr (cpd ls x 1000000000) j) (laterI (fr (cpd ls x 1000000000) j) long) ↔ okFit (cpd ls x 1000000000) long n j := by
  obtain ⟨c1, c2, c3, c4, c5⟩ := po.cpd_all hx h
  obtain ⟨l1, l2, l3, l4⟩ := po.cpd_lvl hx h hj
  rw [po.least_ge (by omega) hn, l1]
  constructor
  · intro g i h1 h2 h3
    rw [c5 i h2]
    have hlt : fr (cpd ls x 1000000000) j < laterI (fr (cpd ls x 1000000000) j) long := by
      by_cases e : i = j
      · subst e; exact h3
      · have := po.cpd_le hx h (i := j) (j := i) (by omega) h2; omega
    exact g hlt (lvl ls x + i) (by omega) (by omega) (by
      obtain ⟨_, _, _, l4'⟩ := po.cpd_lvl hx h h2
      omega)
  · intro g hlt i h1 h2 h3
    have hi : i - lvl ls x < (cpd ls x 1000000000).length := by omega
    have := g (i - lvl ls x) (by omega) hi (by
      by_cases e : i - lvl ls x = j
      · rw [e]; exact hlt
      · obtain ⟨i', hi'⟩ : ∃ i', i - lvl ls x = i' + 1 := ⟨i - lvl ls x - 1, by omega⟩
        rw [hi', c4 i' (by omega), show lvl ls x + (i' + 1) = i from by omega]
        exact h3)
    rw [c5 _ hi, show lvl ls x + (i - lvl ls x) = i from by omega] at this
    exact this

theorem laterI_mono {s t b : Int} (h : s ≤ t) : laterI s b ≤ laterI t b := by
  unfold laterI; split <;> split <;> omega

/-- where a level stands in the way no beginning up to it gets by -/
theorem PO.okFit_skip {T : Int} {ls : List Lev} (po : PO T ls) {x long n : Int} (hx : 0 ≤ x) (h : x < 1000000000) {j p : Nat} (hp : p < (cpd ls x 1000000000).length)
    (h1 : fr (cpd ls x 1000000000) p < laterI (fr (cpd ls x 1000000000) j) long) (h2 : fe (cpd ls x 1000000000) p < n) : ∀ i, j ≤ i → i ≤ p → ¬ okFit (cpd ls x 1000000000) long n i := by
  intro i hi hip g
  have hm : fr (cpd ls x 1000000000) j ≤ fr (cpd ls x 1000000000) i := by
    by_cases e : j = i
    · subst e; omega
    · have := po.cpd_le hx h (i := j) (j := i) (by omega) (by omega); omega
  have := laterI_mono (b := long) hm
  have := g p hip hp (by omega)
  omega

/-- where no level up to a late one stands in the way there is room -/
theorem PO.okFit_mk {T : Int} {ls : List Lev} (po : PO T ls) {x long n : Int} (hx : 0 ≤ x) (h : x < 1000000000) {j p : Nat}
    (h1 : p < (cpd ls x 1000000000).length → laterI (fr (cpd ls x 1000000000) j) long ≤ fr (cpd ls x 1000000000) p) (h2 : ∀ i, j ≤ i → i < p → n ≤ fe (cpd ls x 1000000000) i) : okFit (cpd ls x 1000000000) long n j := by
  intro i hi hil hlt
  by_cases e : i < p
  · exact h2 i hi e
  · have := h1 (by omega)
    by_cases e2 : p = i
    · subst e2; omega
    · have := po.cpd_le hx h (i := p) (j := i) (by omega) hil; omega

end Go.Proofs.Ytplcpiglciplkaa
