/- Till then: plain mathematics of chapter 9 (Horn): the earliest due first keeps all dues where nothing is crowded. -/
import Derived.KernelRfl
namespace Go.Proofs.Ytmaojjjdepgaeaa

/-- the sum of the first n -/
def sumN (f : Nat → Int) : Nat → Int
  | 0 => 0
  | n + 1 => sumN f n + f n

theorem sumN_le {f g : Nat → Int} : ∀ n, (∀ i, i < n → f i ≤ g i) → sumN f n ≤ sumN g n
  | 0, _ => Int.le_refl _
  | n + 1, h => by
    have := sumN_le n fun i hi => h i (by omega)
    have := h n (by omega)
    simp only [sumN]; omega
theorem sumN_nn {f : Nat → Int} (n : Nat) (h : ∀ i, i < n → 0 ≤ f i) : 0 ≤ sumN f n := by
  have h0 : ∀ n, sumN (fun _ => 0) n = 0 := by
    intro n
    induction n with
    | zero => rfl
    | succ n ih => simp only [sumN, ih]; rfl
  have := sumN_le (f := fun _ => 0) (g := f) n h
  rw [h0] at this; exact this
theorem sumN_same {f g : Nat → Int} : ∀ n, (∀ i, i < n → f i = g i) → sumN f n = sumN g n
  | 0, _ => rfl
  | n + 1, h => by
    simp only [sumN]
    rw [sumN_same n fun i hi => h i (by omega), h n (by omega)]
/-- one of them turns -/
theorem sumN_one {f g : Nat → Int} {c : Int} {k : Nat} : ∀ n, k < n → (∀ i, i < n → i ≠ k → g i = f i) → g k = f k + c → sumN g n = sumN f n + c
  | 0, h, _, _ => by omega
  | n + 1, h, h1, h2 => by
    simp only [sumN]
    by_cases e : k = n
    · subst e
      rw [sumN_same (f := g) (g := f) k fun i hi => h1 i (by omega) (by omega), h2]
      omega
    · rw [sumN_one n (by omega) (fun i hi => h1 i (by omega)) h2, h1 n (by omega) (by omega)]
      omega

/-- what has to be done from a to b -/
def demN (at_ due long : Nat → Int) (n : Nat) (a b : Int) : Int := sumN (fun i => if a ≤ at_ i ∧ due i ≤ b then long i else 0) n

/-- work, hour by hour: who is at it, what is left -/
structure Horn (n : Nat) (at_ due long : Nat → Int) (W : Nat → Option Nat) (rem : Nat → Nat → Int) (T : Nat) : Prop where
  long0 : ∀ i, i < n → 0 ≤ long i
  at0 : ∀ i, i < n → 0 ≤ at_ i
  rem0 : ∀ i, i < n → rem 0 i = long i
  step : ∀ t i, t < T → i < n → rem (t + 1) i = rem t i - if W t = some i then 1 else 0
  idle : ∀ t, t < T → W t = none → ∀ i, i < n → rem t i ≠ 0 → (t : Int) < at_ i
  busy : ∀ t i, t < T → W t = some i → i < n ∧ rem t i ≠ 0 ∧ at_ i ≤ t ∧ ∀ k, k < n → rem t k ≠ 0 → at_ k ≤ t → due i ≤ due k

variable {n : Nat} {at_ due long : Nat → Int} {W : Nat → Option Nat} {rem : Nat → Nat → Int} {T : Nat}

theorem Horn.nn (h : Horn n at_ due long W rem T) {i : Nat} (hi : i < n) : ∀ t, t ≤ T → 0 ≤ rem t i
  | 0, _ => by rw [h.rem0 i hi]; exact h.long0 i hi
  | t + 1, ht => by
    have h1 := h.nn hi t (by omega)
    rw [h.step t i (by omega) hi]
    split
    · rename_i e
      have := (h.busy t i (by omega) e).2.1
      omega
    · omega
theorem Horn.down (h : Horn n at_ due long W rem T) {i : Nat} (hi : i < n) {s : Nat} : ∀ t, s ≤ t → t ≤ T → rem t i ≤ rem s i := by
  intro t
  induction t with
  | zero => intro h1 _; rw [show s = 0 by omega]; exact Int.le_refl _
  | succ t ih =>
    intro h1 h2
    by_cases e : s = t + 1
    · subst e; exact Int.le_refl _
    · have := ih (by omega) (by omega)
      rw [h.step t i (by omega) hi]
      split <;> omega

/-- the last stretch of hours that are all good -/
theorem last_stretch (good : Nat → Prop) : ∀ t, good t → ∃ s, s ≤ t ∧ (∀ u, s ≤ u → u ≤ t → good u) ∧ (s = 0 ∨ ¬ good (s - 1)) := by
  intro t
  induction t with
  | zero => intro h; exact ⟨0, Nat.le_refl _, fun u _ hu => by rw [show u = 0 by omega]; exact h, Or.inl rfl⟩
  | succ t ih =>
    intro h
    by_cases c : good t
    · obtain ⟨s, h1, h2, h3⟩ := ih c
      refine ⟨s, by omega, fun u hu1 hu2 => ?_, h3⟩
      by_cases e : u = t + 1
      · subst e; exact h
      · exact h2 u hu1 (by omega)
    · exact ⟨t + 1, Nat.le_refl _, fun u hu1 hu2 => by rw [show u = t + 1 by omega]; exact h, Or.inr c⟩

/-- the first of the least of those that matter -/
theorem least_of (f : Nat → Int) (D : Nat → Prop) : ∀ n, (∃ i, i < n ∧ D i) → ∃ i, i < n ∧ D i ∧ ∀ k, k < n → D k → f i ≤ f k := by
  intro n
  induction n with
  | zero => rintro ⟨i, h, _⟩; omega
  | succ n ih =>
    rintro ⟨i, hi, hd⟩
    by_cases c : ∃ i, i < n ∧ D i
    · obtain ⟨j, h1, h2, h3⟩ := ih c
      by_cases e : D n ∧ f n < f j
      · refine ⟨n, by omega, e.1, fun k hk hD => ?_⟩
        by_cases e2 : k = n
        · subst e2; exact Int.le_refl _
        · have := h3 k (by omega) hD; omega
      · refine ⟨j, by omega, h2, fun k hk hD => ?_⟩
        by_cases e2 : k = n
        · subst e2
          have : ¬ f k < f j := fun x => e ⟨hD, x⟩
          omega
        · exact h3 k (by omega) hD
    · have e : i = n := by
        by_cases e : i = n
        · exact e
        · exact absurd ⟨i, by omega, hd⟩ c
      subst e
      refine ⟨i, hi, hd, fun k hk hD => ?_⟩
      by_cases e2 : k = i
      · subst e2; exact Int.le_refl _
      · exact absurd ⟨k, by omega, hD⟩ c

/-- where nothing is crowded no one is at it when its time is over -/
theorem Horn.keeps (h : Horn n at_ due long W rem T) (hc : ∀ i j, i < n → j < n → demN at_ due long n (at_ i) (due j) ≤ max 0 (due j - at_ i)) : ∀ t j, t < T → W t = some j → (t : Int) < due j := by
  intro t j ht hj
  apply Classical.byContradiction
  intro hcon
  have hb := h.busy t j ht hj
  obtain ⟨s, hs, hgood, hstart⟩ := last_stretch (fun u => ∃ i, W u = some i ∧ due i ≤ due j) t ⟨j, hj, Int.le_refl _⟩
  -- who works in the stretch has begun in it
  have hin : ∀ u, s ≤ u → u ≤ t → ∃ i, W u = some i ∧ i < n ∧ (s : Int) ≤ at_ i ∧ due i ≤ due j := by
    intro u h1 h2
    obtain ⟨i, e, hd⟩ := hgood u h1 h2
    obtain ⟨hi, hr, ha, _⟩ := h.busy u i (by omega) e
    refine ⟨i, e, hi, ?_, hd⟩
    rcases hstart with h0 | hno
    · subst h0; exact h.at0 i hi
    · apply Classical.byContradiction
      intro hlt
      have hs0 : s ≠ 0 := by
        intro e0; subst e0
        have := h.at0 i hi
        exact hlt (by simpa using this)
      have hr2 : rem (s - 1) i ≠ 0 := by
        have a1 := h.down hi (s := s - 1) u (by omega) (by omega)
        have a2 := h.nn hi u (by omega)
        omega
      rcases hw : W (s - 1) with _ | k
      · have := h.idle (s - 1) (by omega) hw i hi hr2
        omega
      · have := (h.busy (s - 1) k (by omega) hw).2.2.2 i hi hr2 (by omega)
        exact hno ⟨k, hw, by omega⟩
  -- each hour of it takes one from what is left of them
  have hsum : ∀ q, s + q ≤ t + 1 → sumN (fun i => if (s : Int) ≤ at_ i ∧ due i ≤ due j then rem (s + q) i else 0) n + q = sumN (fun i => if (s : Int) ≤ at_ i ∧ due i ≤ due j then rem s i else 0) n := by
    intro q
    induction q with
    | zero => intro _; simp
    | succ q ih =>
      intro hq
      obtain ⟨i, e, hi, ha, hd⟩ := hin (s + q) (by omega) (by omega)
      have := sumN_one (f := fun i => if (s : Int) ≤ at_ i ∧ due i ≤ due j then rem (s + q) i else 0) (g := fun i => if (s : Int) ≤ at_ i ∧ due i ≤ due j then rem (s + q + 1) i else 0) (c := -1) (k := i) n hi
        (fun k hk hne => by
          show (if _ then _ else _) = (if _ then _ else _)
          rw [h.step (s + q) k (by omega) hk, e, if_neg (fun x => hne (Option.some.inj x).symm), Int.sub_zero])
        (by
          show (if _ then _ else _) = (if _ then _ else _) + _
          rw [if_pos ⟨ha, hd⟩, if_pos ⟨ha, hd⟩, h.step (s + q) i (by omega) hi, e, if_pos rfl]
          omega)
      have ih := ih (by omega)
      rw [show s + (q + 1) = s + q + 1 by omega, this]
      push_cast
      omega
  have h1 := hsum (t + 1 - s) (by omega)
  rw [show s + (t + 1 - s) = t + 1 by omega] at h1
  have h2 : 0 ≤ sumN (fun i => if (s : Int) ≤ at_ i ∧ due i ≤ due j then rem (t + 1) i else 0) n := sumN_nn n fun i hi => by
    show 0 ≤ if (s : Int) ≤ at_ i ∧ due i ≤ due j then rem (t + 1) i else 0
    split
    · exact h.nn hi (t + 1) (by omega)
    · omega
  -- the first to begin among them
  obtain ⟨i0, q1, q2, q3⟩ := least_of at_ (fun i => (s : Int) ≤ at_ i ∧ due i ≤ due j) n ⟨j, hb.1, by
    obtain ⟨i, e, hi, ha, hd⟩ := hin t hs (Nat.le_refl _)
    rw [hj] at e
    injection e with e; subst e
    exact ⟨ha, hd⟩⟩
  have h3 : sumN (fun i => if (s : Int) ≤ at_ i ∧ due i ≤ due j then rem s i else 0) n ≤ demN at_ due long n (at_ i0) (due j) := sumN_le n fun i hi => by
    show (if _ then _ else _) ≤ (if _ then _ else _)
    by_cases c : (s : Int) ≤ at_ i ∧ due i ≤ due j
    · rw [if_pos c, if_pos ⟨q3 i hi c, c.2⟩]
      have := h.down hi (s := 0) s (by omega) (by omega)
      rw [h.rem0 i hi] at this
      exact this
    · rw [if_neg c]
      split
      · exact h.long0 i hi
      · exact Int.le_refl _
  have h4 := hc i0 j q1 hb.1
  have h5 := q2.1
  omega

/-- how many hours one has had -/
def hours (W : Nat → Option Nat) (i : Nat) (t : Nat) : Int := sumN (fun u => if W u = some i then 1 else 0) t
theorem Horn.hours_ (h : Horn n at_ due long W rem T) {i : Nat} (hi : i < n) : ∀ t, t ≤ T → hours W i t = long i - rem t i
  | 0, _ => by rw [h.rem0 i hi]; show (0 : Int) = _; omega
  | t + 1, ht => by
    have := h.hours_ hi t (by omega)
    unfold hours at this ⊢
    rw [sumN, this, h.step t i (by omega) hi]
    omega

/-- whoever keeps all dues has no more to do from a to b than there are hours -/
theorem kept_fits {W : Nat → Option Nat} {T : Nat} (hlong : ∀ i, i < n → hours W i T = long i) (hin : ∀ t i, t < T → W t = some i → i < n ∧ at_ i ≤ t ∧ (t : Int) < due i) (a b : Int) : demN at_ due long n a b ≤ max 0 (b - a) := by
  -- the hours from a to b that go to those
  have key : ∀ t, t ≤ T → sumN (fun i => if a ≤ at_ i ∧ due i ≤ b then hours W i t else 0) n ≤ max 0 (min (t : Int) b - a) := by
    intro t
    induction t with
    | zero =>
      intro _
      have : sumN (fun i => if a ≤ at_ i ∧ due i ≤ b then hours W i 0 else 0) n ≤ sumN (fun _ => 0) n := sumN_le n fun i _ => by
        show (if _ then _ else _) ≤ _
        split
        · exact Int.le_refl _
        · exact Int.le_refl _
      have h0 : ∀ n, sumN (fun _ => 0) n = 0 := by
        intro n
        induction n with
        | zero => rfl
        | succ n ih => simp only [sumN, ih]; rfl
      rw [h0] at this
      omega
    | succ t ih =>
      intro ht
      have ih := ih (by omega)
      have same : ∀ i, W t ≠ some i → hours W i (t + 1) = hours W i t := by
        intro i hi
        unfold hours
        rw [sumN, if_neg hi]; omega
      rcases hw : W t with _ | k
      · rw [sumN_same (g := fun i => if a ≤ at_ i ∧ due i ≤ b then hours W i t else 0) n fun i _ => by
          show (if _ then _ else _) = (if _ then _ else _)
          rw [same i (by rw [hw]; intro x; cases x)]]
        omega
      · obtain ⟨hk, h1, h2⟩ := hin t k (by omega) hw
        by_cases c : a ≤ at_ k ∧ due k ≤ b
        · have := sumN_one (f := fun i => if a ≤ at_ i ∧ due i ≤ b then hours W i t else 0) (g := fun i => if a ≤ at_ i ∧ due i ≤ b then hours W i (t + 1) else 0) (c := 1) (k := k) n hk
            (fun i _ hne => by
              show (if _ then _ else _) = (if _ then _ else _)
              rw [same i (by rw [hw]; intro x; exact hne (Option.some.inj x).symm)])
            (by
              show (if _ then _ else _) = (if _ then _ else _) + _
              rw [if_pos c, if_pos c]
              unfold hours
              rw [sumN, if_pos hw])
          rw [this]
          obtain ⟨c1, c2⟩ := c
          push_cast
          omega
        · rw [sumN_same (g := fun i => if a ≤ at_ i ∧ due i ≤ b then hours W i t else 0) n fun i _ => by
            show (if _ then _ else _) = (if _ then _ else _)
            by_cases e : i = k
            · subst e; rw [if_neg c, if_neg c]
            · rw [same i (by rw [hw]; intro x; exact e (Option.some.inj x).symm)]]
          omega
  have := key T (Nat.le_refl _)
  rw [sumN_same (g := fun i => if a ≤ at_ i ∧ due i ≤ b then long i else 0) n fun i hi => by
    show (if _ then _ else _) = (if _ then _ else _)
    rw [hlong i hi]] at this
  unfold demN
  omega

/-- two times apart demand no more than the whole -/
theorem demN_apart (hlong : ∀ i, i < n → 0 ≤ long i) (plain : ∀ i, i < n → at_ i ≤ due i) {a b m : Int} (h1 : a < m) (h2 : m < b) : demN at_ due long n a m + demN at_ due long n (m + 1) b ≤ demN at_ due long n a b := by
  unfold demN
  have key : ∀ k, k ≤ n → sumN (fun i => if a ≤ at_ i ∧ due i ≤ m then long i else 0) k + sumN (fun i => if m + 1 ≤ at_ i ∧ due i ≤ b then long i else 0) k ≤ sumN (fun i => if a ≤ at_ i ∧ due i ≤ b then long i else 0) k := by
    intro k
    induction k with
    | zero => intro _; exact Int.le_refl _
    | succ k ih =>
      intro hk
      have ih := ih (by omega)
      have l0 := hlong k (by omega)
      have p0 := plain k (by omega)
      simp only [sumN]
      by_cases c1 : a ≤ at_ k ∧ due k ≤ m
      · rw [if_pos c1, if_neg (fun x => by omega), if_pos ⟨c1.1, by omega⟩]
        omega
      · rw [if_neg c1]
        by_cases c2 : m + 1 ≤ at_ k ∧ due k ≤ b
        · rw [if_pos c2, if_pos ⟨by omega, c2.2⟩]
          omega
        · rw [if_neg c2]
          split <;> omega
  exact key n (Nat.le_refl _)

/-- no more is demanded than there is -/
theorem demN_le (hlong : ∀ i, i < n → 0 ≤ long i) (a b : Int) : demN at_ due long n a b ≤ sumN long n := sumN_le n fun i hi => by
  show (if a ≤ at_ i ∧ due i ≤ b then long i else 0) ≤ _
  have := hlong i hi
  split <;> omega
/-- all is demanded of all -/
theorem demN_all {a b : Int} (h : ∀ i, i < n → a ≤ at_ i ∧ due i ≤ b) : demN at_ due long n a b = sumN long n := sumN_same n fun i hi => by
  show (if a ≤ at_ i ∧ due i ≤ b then long i else 0) = _
  rw [if_pos (h i hi)]

/-- the hours that somebody had -/
def worked (W : Nat → Option Nat) (t : Nat) : Int := sumN (fun u => if W u = none then 0 else 1) t
theorem worked_hours {W : Nat → Option Nat} : ∀ t, (∀ u i, u < t → W u = some i → i < n) → worked W t = sumN (fun i => hours W i t) n
  | 0, _ => by
    have h0 : ∀ n, sumN (fun i => hours W i 0) n = 0 := by
      intro n
      induction n with
      | zero => rfl
      | succ n ih => simp only [sumN, ih]; rfl
    rw [h0]; rfl
  | t + 1, h => by
    have ih := worked_hours t fun u i hu => h u i (by omega)
    have same : ∀ i, W t ≠ some i → hours W i (t + 1) = hours W i t := by
      intro i hi
      unfold hours
      rw [sumN, if_neg hi]; omega
    unfold worked at ih ⊢
    rw [sumN, ih]
    rcases hw : W t with _ | k
    · rw [if_pos rfl, sumN_same (g := fun i => hours W i t) n fun i _ => same i (by rw [hw]; intro x; cases x)]
      omega
    · rw [if_neg (by intro x; cases x)]
      have := sumN_one (f := fun i => hours W i t) (g := fun i => hours W i (t + 1)) (c := 1) (k := k) n (h t k (by omega) hw)
        (fun i _ hne => same i (by rw [hw]; intro x; exact hne (Option.some.inj x).symm))
        (by
          show hours W k (t + 1) = hours W k t + 1
          unfold hours
          rw [sumN, if_pos hw])
      rw [this]

end Go.Proofs.Ytmaojjjdepgaeaa
