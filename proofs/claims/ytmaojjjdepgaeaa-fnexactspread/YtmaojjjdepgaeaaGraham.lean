/- Many machines: what is given to the one that has least to do; the plain mathematics of chapter 6. -/
import Derived.Test.YtmaojjjdepgaeaaJob
namespace Go.Proofs.Ytmaojjjdepgaeaa

/-- how much machine k has by f, where the pairs tell machine and length -/
def ldW (f : Int → Int) : List (Nat × Int) → Nat → Int
  | [], _ => 0
  | z :: zs, k => (if z.1 = k then f z.2 else 0) + ldW f zs k
def sumF (f : Int → Int) : List Int → Int
  | [] => 0
  | p :: ps => f p + sumF f ps
def mcSum (g : Nat → Int) : Nat → Int
  | 0 => 0
  | k + 1 => mcSum g k + g k
def ld (zs : List (Nat × Int)) (k : Nat) : Int := ldW (fun x => x) zs k
def sumP (ps : List Int) : Int := sumF (fun x => x) ps

theorem ldW_app (f : Int → Int) (k : Nat) : ∀ (a b : List (Nat × Int)), ldW f (a ++ b) k = ldW f a k + ldW f b k
  | [], b => by show ldW f b k = 0 + ldW f b k; omega
  | z :: a, b => by
    show (if z.1 = k then f z.2 else 0) + ldW f (a ++ b) k = (if z.1 = k then f z.2 else 0) + ldW f a k + ldW f b k
    rw [ldW_app f k a b]; omega
theorem sumF_app (f : Int → Int) : ∀ (a b : List Int), sumF f (a ++ b) = sumF f a + sumF f b
  | [], b => by show sumF f b = 0 + sumF f b; omega
  | p :: a, b => by
    show f p + sumF f (a ++ b) = f p + sumF f a + sumF f b
    rw [sumF_app f a b]; omega
theorem mcSum_add (g h : Nat → Int) : ∀ m, mcSum (fun k => g k + h k) m = mcSum g m + mcSum h m
  | 0 => rfl
  | m + 1 => by
    show mcSum (fun k => g k + h k) m + (g m + h m) = mcSum g m + g m + (mcSum h m + h m)
    rw [mcSum_add g h m]; omega
theorem mcSum_one (a : Nat) (c : Int) : ∀ m, mcSum (fun k => if a = k then c else 0) m = if a < m then c else 0
  | 0 => rfl
  | m + 1 => by
    show mcSum (fun k => if a = k then c else 0) m + (if a = m then c else 0) = _
    rw [mcSum_one a c m]
    by_cases h : a < m
    · rw [if_pos h, if_neg (by omega), if_pos (by omega)]; omega
    · by_cases e : a = m
      · rw [if_neg h, if_pos e, if_pos (by omega)]; omega
      · rw [if_neg h, if_neg e, if_neg (by omega)]; omega
theorem mcSum_zero : ∀ m, mcSum (fun _ => 0) m = 0
  | 0 => rfl
  | m + 1 => by show mcSum (fun _ => 0) m + 0 = 0; rw [mcSum_zero m]; omega
/-- all machines together have all -/
theorem ld_sum (f : Int → Int) {m : Nat} : ∀ zs : List (Nat × Int), (∀ z ∈ zs, z.1 < m) → mcSum (ldW f zs) m = sumF f (zs.map (·.2))
  | [], _ => mcSum_zero m
  | z :: zs, h => by
    show mcSum (fun k => (if z.1 = k then f z.2 else 0) + ldW f zs k) m = f z.2 + sumF f (zs.map (·.2))
    rw [mcSum_add (fun k => if z.1 = k then f z.2 else 0) (ldW f zs) m, mcSum_one, if_pos (h z List.mem_cons_self), ld_sum f zs (fun y hy => h y (List.mem_cons_of_mem _ hy))]
theorem mcSum_ge {g : Nat → Int} {c : Int} : ∀ m, (∀ i, i < m → c ≤ g i) → m * c ≤ mcSum g m
  | 0, _ => by simp [mcSum]
  | m + 1, h => by
    have h1 := mcSum_ge m (fun i hi => h i (by omega))
    have h2 := h m (by omega)
    have e : ((m + 1 : Nat) : Int) * c = (m : Int) * c + c := by rw [Int.natCast_add, Int.add_mul]; simp
    show ((m + 1 : Nat) : Int) * c ≤ mcSum g m + g m
    omega
theorem mcSum_le {g : Nat → Int} {c : Int} : ∀ m, (∀ i, i < m → g i ≤ c) → mcSum g m ≤ m * c
  | 0, _ => by simp [mcSum]
  | m + 1, h => by
    have h1 := mcSum_le m (fun i hi => h i (by omega))
    have h2 := h m (by omega)
    have e : ((m + 1 : Nat) : Int) * c = (m : Int) * c + c := by rw [Int.natCast_add, Int.add_mul]; simp
    show mcSum g m + g m ≤ ((m + 1 : Nat) : Int) * c
    omega

/-- m machines can do ps in T -/
def Fits (ps : List Int) (m : Nat) (T : Int) : Prop := ∃ zs : List (Nat × Int), zs.map (·.2) = ps ∧ (∀ z ∈ zs, z.1 < m) ∧ ∀ k, k < m → ld zs k ≤ T

theorem ld_nonneg {zs : List (Nat × Int)} (h : ∀ z ∈ zs, 0 ≤ z.2) (k : Nat) : 0 ≤ ld zs k := by
  induction zs with
  | nil => exact Int.le_refl _
  | cons z zs ih =>
    have h1 := h z List.mem_cons_self
    have h2 := ih (fun y hy => h y (List.mem_cons_of_mem _ hy))
    show 0 ≤ (if z.1 = k then z.2 else 0) + ld zs k
    split <;> omega
theorem ld_mem {zs : List (Nat × Int)} (h : ∀ z ∈ zs, 0 ≤ z.2) {z : Nat × Int} (hz : z ∈ zs) : z.2 ≤ ld zs z.1 := by
  induction zs with
  | nil => cases hz
  | cons y zs ih =>
    have h1 := h y List.mem_cons_self
    have h2 := ld_nonneg (fun y hy => h y (List.mem_cons_of_mem _ hy)) z.1
    show z.2 ≤ (if y.1 = z.1 then y.2 else 0) + ld zs z.1
    rcases List.mem_cons.1 hz with rfl | hz
    · rw [if_pos rfl]; omega
    · have := ih (fun y hy => h y (List.mem_cons_of_mem _ hy)) hz
      split <;> omega
/-- what can be done in T: no job is longer, all together no more than m times T -/
theorem Fits.bd {ps : List Int} {m : Nat} {T : Int} (h : Fits ps m T) (hp : ∀ p ∈ ps, 0 ≤ p) : (∀ p ∈ ps, p ≤ T) ∧ sumP ps ≤ m * T := by
  obtain ⟨zs, rfl, hm, hl⟩ := h
  have hz : ∀ z ∈ zs, 0 ≤ z.2 := fun z hz => hp _ (List.mem_map.2 ⟨z, hz, rfl⟩)
  refine ⟨fun p h => ?_, ?_⟩
  · obtain ⟨z, hz', rfl⟩ := List.mem_map.1 h
    have := ld_mem hz hz'
    have := hl z.1 (hm z hz')
    omega
  · show sumF (fun x => x) _ ≤ _
    rw [← ld_sum (fun x => x) zs hm]
    exact mcSum_le m hl
theorem Fits.perm {ps qs : List Int} {m : Nat} {T : Int} (hp : ps.Perm qs) : Fits ps m T → Fits qs m T := by
  have key : ∀ {ps qs : List Int}, ps.Perm qs → ∀ zs : List (Nat × Int), zs.map (·.2) = ps → ∃ ys : List (Nat × Int), ys.Perm zs ∧ ys.map (·.2) = qs := by
    intro ps qs h
    induction h with
    | nil => intro zs e; exact ⟨zs, List.Perm.refl _, e⟩
    | cons x _ ih =>
      intro zs e
      cases zs with
      | nil => cases e
      | cons z zs =>
        simp only [List.map_cons, List.cons.injEq] at e
        obtain ⟨ys, h1, h2⟩ := ih zs e.2
        exact ⟨z :: ys, h1.cons z, by rw [List.map_cons, h2, e.1]⟩
    | swap x y l =>
      intro zs e
      match zs, e with
      | a :: b :: zs, e =>
        simp only [List.map_cons, List.cons.injEq] at e
        exact ⟨b :: a :: zs, List.Perm.swap _ _ _, by simp [e.1, e.2.1, e.2.2]⟩
    | trans _ _ ih1 ih2 =>
      intro zs e
      obtain ⟨ys, h1, h2⟩ := ih1 zs e
      obtain ⟨xs, h3, h4⟩ := ih2 ys h2
      exact ⟨xs, h3.trans h1, h4⟩
  rintro ⟨zs, e, hm, hl⟩
  obtain ⟨ys, h1, h2⟩ := key hp zs e
  have hld : ∀ k, ld ys k = ld zs k := fun k => by
    clear h2 hl hm e
    unfold ld
    induction h1 with
    | nil => rfl
    | cons x _ ih => show _ + _ = _ + _; rw [ih]
    | swap x y l => show _ + (_ + _) = _ + (_ + _); omega
    | trans _ _ ih1 ih2 => rw [ih1, ih2]
  exact ⟨ys, h2, fun z hz => hm z (h1.subset hz), fun k hk => by rw [hld]; exact hl k hk⟩
theorem Fits.front {ps qs : List Int} {m : Nat} {T : Int} (hq : ∀ p ∈ qs, 0 ≤ p) (h : Fits (ps ++ qs) m T) : Fits ps m T := by
  obtain ⟨zs, e, hm, hl⟩ := h
  obtain ⟨a, b, rfl, ha, hb⟩ := List.map_eq_append_iff.1 e
  refine ⟨a, ha, fun z hz => hm z (List.mem_append_left _ hz), fun k hk => ?_⟩
  have h1 := hl k hk
  unfold ld at h1 ⊢
  rw [ldW_app] at h1
  have h2 := ld_nonneg (zs := b) (fun z hz => hq _ (by rw [← hb]; exact List.mem_map.2 ⟨z, hz, rfl⟩)) k
  unfold ld at h2
  omega

/-- one behind the other, each to a machine that has least -/
inductive Greedy (m : Nat) : List (Nat × Int) → Prop
  | nil : Greedy m []
  | snoc (zs : List (Nat × Int)) (k : Nat) (p : Int) (h : Greedy m zs) (hk : k < m) (hl : ∀ i, i < m → ld zs k ≤ ld zs i) : Greedy m (zs ++ [(k, p)])

theorem Greedy.mem {m : Nat} {zs : List (Nat × Int)} (h : Greedy m zs) : ∀ z ∈ zs, z.1 < m := by
  induction h with
  | nil => intro z hz; cases hz
  | snoc zs k p _ hk _ ih =>
    intro z hz
    rcases List.mem_append.1 hz with hz | hz
    · exact ih z hz
    · obtain rfl := List.mem_singleton.1 hz; exact hk
theorem ld_snoc (zs : List (Nat × Int)) (k : Nat) (p : Int) (i : Nat) : ld (zs ++ [(k, p)]) i = ld zs i + if k = i then p else 0 := by
  unfold ld; rw [ldW_app]; show _ + ((if k = i then p else 0) + 0) = _; omega
theorem sumP_snoc (ps : List Int) (p : Int) : sumP (ps ++ [p]) = sumP ps + p := by
  unfold sumP; rw [sumF_app]; show _ + (p + 0) = _; omega
theorem least_avg {m : Nat} {zs : List (Nat × Int)} {k : Nat} (hm : ∀ z ∈ zs, z.1 < m) (hl : ∀ i, i < m → ld zs k ≤ ld zs i) : m * ld zs k ≤ sumP (zs.map (·.2)) := by
  have := mcSum_ge (g := ldW (fun x => x) zs) (c := ld zs k) m hl
  rwa [ld_sum (fun x => x) zs hm] at this

/-- GRAHAM: at most the sum's m-th part and the longest less its m-th part -/
theorem graham_list {m : Nat} {zs : List (Nat × Int)} (h : Greedy m zs) {M : Int} (h1 : 1 ≤ m) (hM : 0 ≤ M) (hp : ∀ z ∈ zs, 0 ≤ z.2 ∧ z.2 ≤ M) : ∀ i, i < m → m * ld zs i ≤ sumP (zs.map (·.2)) + (m - 1) * M := by
  induction h with
  | nil =>
    intro i _
    have : 0 ≤ ((m : Int) - 1) * M := Int.mul_nonneg (by omega) hM
    show (m : Int) * 0 ≤ 0 + _
    rw [Int.mul_zero]; omega
  | snoc zs k p hg hk hl ih =>
    intro i hi
    have hp' := fun z hz => hp z (List.mem_append_left _ hz)
    obtain ⟨p0, p1⟩ := hp (k, p) (List.mem_append_right _ (List.mem_singleton.2 rfl))
    have i1 := ih hp' i hi
    rw [List.map_append, List.map_cons, List.map_nil, sumP_snoc, ld_snoc]
    by_cases e : k = i
    · subst e
      rw [if_pos rfl, Int.mul_add]
      have i2 := least_avg hg.mem hl
      have i3 : ((m : Int) - 1) * p ≤ ((m : Int) - 1) * M := Int.mul_le_mul_of_nonneg_left p1 (by omega)
      rw [Int.sub_mul, Int.one_mul] at i3
      have : (k, p).2 = p := rfl
      omega
    · rw [if_neg e, Int.add_zero]
      have : (k, p).2 = p := rfl
      omega

/-- a job's weight: two where beside it there is no room for one more -/
def wt (c : Int) (x : Int) : Int := if x > c then 2 else 1
theorem wt_fit {p T : Int} (h0 : 0 ≤ p) (h3 : T < 3 * p) {k : Nat} : ∀ zs : List (Nat × Int), (∀ z ∈ zs, p ≤ z.2) →
    (ldW (wt (T - p)) zs k = 0 ∧ ld zs k = 0) ∨ (ldW (wt (T - p)) zs k = 1 ∧ p ≤ ld zs k) ∨
    (ldW (wt (T - p)) zs k = 2 ∧ (T - p < ld zs k ∨ 2 * p ≤ ld zs k)) ∨ (3 ≤ ldW (wt (T - p)) zs k ∧ T < ld zs k)
  | [], _ => Or.inl ⟨rfl, rfl⟩
  | z :: zs, h => by
    have ih := wt_fit h0 h3 (k := k) zs (fun y hy => h y (List.mem_cons_of_mem _ hy))
    have h1 := h z List.mem_cons_self
    have e1 : ldW (wt (T - p)) (z :: zs) k = (if z.1 = k then wt (T - p) z.2 else 0) + ldW (wt (T - p)) zs k := rfl
    have e2 : ld (z :: zs) k = (if z.1 = k then z.2 else 0) + ld zs k := rfl
    rw [e1, e2]
    by_cases e : z.1 = k
    · rw [if_pos e, if_pos e]
      unfold wt at ih ⊢
      by_cases hc : z.2 > T - p
      · rw [if_pos hc]; omega
      · rw [if_neg hc]; omega
    · rw [if_neg e, if_neg e]; omega
theorem wt_full {p T : Int} {k : Nat} : ∀ zs : List (Nat × Int),
    (ldW (wt (T - p)) zs k = 0 ∧ ld zs k = 0) ∨ (ldW (wt (T - p)) zs k = 1 ∧ ld zs k ≤ T - p) ∨ 2 ≤ ldW (wt (T - p)) zs k
  | [] => Or.inl ⟨rfl, rfl⟩
  | z :: zs => by
    have ih := wt_full (p := p) (T := T) (k := k) zs
    have e1 : ldW (wt (T - p)) (z :: zs) k = (if z.1 = k then wt (T - p) z.2 else 0) + ldW (wt (T - p)) zs k := rfl
    have e2 : ld (z :: zs) k = (if z.1 = k then z.2 else 0) + ld zs k := rfl
    rw [e1, e2]
    by_cases e : z.1 = k
    · rw [if_pos e, if_pos e]
      unfold wt at ih ⊢
      by_cases hc : z.2 > T - p
      · rw [if_pos hc]; omega
      · rw [if_neg hc]; omega
    · rw [if_neg e, if_neg e]; omega
theorem Fits.nonneg {ps : List Int} {m : Nat} {T : Int} (h : Fits ps m T) (hm : 1 ≤ m) (hp : ∀ p ∈ ps, 0 ≤ p) : 0 ≤ T := by
  obtain ⟨zs, rfl, _, hl⟩ := h
  have h1 := hl 0 (by omega)
  have h2 := ld_nonneg (zs := zs) (fun z hz => hp _ (List.mem_map.2 ⟨z, hz, rfl⟩)) 0
  omega
/-- GRAHAM: the longest first, at most four thirds less a third of the m-th part -/
theorem graham_longest {m : Nat} {zs : List (Nat × Int)} (h : Greedy m zs) {T : Int} (h1 : 1 ≤ m) (h0 : ∀ z ∈ zs, 0 ≤ z.2)
    (hd : (zs.map (·.2)).Pairwise (fun a b => b ≤ a)) (hf : Fits (zs.map (·.2)) m T) : ∀ i, i < m → 3 * (m * ld zs i) ≤ (4 * m - 1) * T := by
  induction h with
  | nil =>
    intro i _
    have hT := hf.nonneg h1 (by simp)
    have : 0 ≤ (4 * (m : Int) - 1) * T := Int.mul_nonneg (by omega) hT
    show 3 * ((m : Int) * 0) ≤ _
    rw [Int.mul_zero]; omega
  | snoc zs k p hg hk hl ih =>
    intro i hi
    have h0' := fun z hz => h0 z (List.mem_append_left _ hz)
    have p0 : 0 ≤ p := h0 (k, p) (List.mem_append_right _ (List.mem_singleton.2 rfl))
    rw [List.map_append, List.map_cons, List.map_nil] at hf hd
    obtain ⟨hd1, _, hd2⟩ := List.pairwise_append.1 hd
    have hT := hf.nonneg h1 (by
      intro x hx
      rcases List.mem_append.1 hx with hx | hx
      · obtain ⟨z, hz, rfl⟩ := List.mem_map.1 hx; exact h0' z hz
      · obtain rfl := List.mem_singleton.1 hx; exact p0)
    have hf1 : Fits (zs.map (·.2)) m T := hf.front (by intro x hx; obtain rfl := List.mem_singleton.1 hx; exact p0)
    have i1 := ih h0' hd1 hf1 i hi
    rw [ld_snoc]
    by_cases e : k = i
    · subst e
      rw [if_pos rfl]
      obtain ⟨b1, b2⟩ := hf.bd (by
        intro x hx
        rcases List.mem_append.1 hx with hx | hx
        · obtain ⟨z, hz, rfl⟩ := List.mem_map.1 hx; exact h0' z hz
        · obtain rfl := List.mem_singleton.1 hx; exact p0)
      have pT : p ≤ T := b1 p (List.mem_append_right _ (List.mem_singleton.2 rfl))
      by_cases hL : ld zs k + p ≤ T
      · have j1 : (m : Int) * (ld zs k + p) ≤ m * T := Int.mul_le_mul_of_nonneg_left hL (by omega)
        have j2 : 1 * T ≤ (m : Int) * T := Int.mul_le_mul_of_nonneg_right (by omega) hT
        rw [Int.sub_mul, Int.mul_assoc]; omega
      by_cases h3 : 3 * p ≤ T
      · have i2 := least_avg hg.mem hl
        rw [sumP_snoc] at b2
        have j1 : ((m : Int) - 1) * (3 * p) ≤ ((m : Int) - 1) * T := Int.mul_le_mul_of_nonneg_left h3 (by omega)
        rw [Int.sub_mul, Int.sub_mul, Int.one_mul, Int.one_mul, Int.mul_left_comm] at j1
        rw [Int.sub_mul, Int.mul_assoc, Int.mul_add]; omega
      · exfalso
        obtain ⟨ys, ey, hm, hy⟩ := hf
        have mem : ∀ z ∈ ys, p ≤ z.2 := fun z hz => by
          have : z.2 ∈ zs.map (·.2) ++ [p] := by rw [← ey]; exact List.mem_map.2 ⟨z, hz, rfl⟩
          rcases List.mem_append.1 this with hx | hx
          · exact hd2 _ hx p (List.mem_singleton.2 rfl)
          · rw [List.mem_singleton.1 hx]; exact Int.le_refl _
        have up : mcSum (ldW (wt (T - p)) ys) m ≤ m * 2 := mcSum_le m (fun j hj => by
          have a1 := wt_fit (T := T) p0 (by omega) (k := j) ys mem
          have a2 := hy j hj
          omega)
        have dn : m * 2 ≤ mcSum (ldW (wt (T - p)) zs) m := mcSum_ge m (fun j hj => by
          have a1 := wt_full (p := p) (T := T) (k := j) zs
          have a2 := hl j hj
          omega)
        rw [ld_sum _ ys hm, ey, sumF_app] at up
        rw [ld_sum _ zs hg.mem] at dn
        have : 1 ≤ sumF (wt (T - p)) [(k, p).2] := by
          show 1 ≤ wt (T - p) p + 0
          unfold wt; split <;> omega
        omega
    · rw [if_neg e, Int.add_zero]; exact i1

end Go.Proofs.Ytmaojjjdepgaeaa
