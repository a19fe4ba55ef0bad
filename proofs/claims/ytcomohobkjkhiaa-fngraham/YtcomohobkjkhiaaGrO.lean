/- Several texts in one. -/
import Derived.Test.YtcomohobkjkhiaaJob
/- Many machines: what is given to the one that has least to do; the plain mathematics of chapter 6. -/
namespace Go.Proofs.Ytcomohobkjkhiaa

/-- how much machine k has by f, where the pairs tell machine and length -/
def ldW (f : Int → Int) : List (Nat × Int) → Nat → Int
  | [], _ => 0
  | z :: zs, k => (if z.1 = k then f z.2 else 0) + ldW f zs k
def sumF (f : Int → Int) : List Int → Int
  | [] => 0
  | p :: ps => f p + sumF f ps
def mcSum (g : Nat → Int) : Nat → Int
  | 0 => 0
  | k + 1 => mcSum g k + g k
def ld (zs : List (Nat × Int)) (k : Nat) : Int := ldW (fun x => x) zs k
def sumP (ps : List Int) : Int := sumF (fun x => x) ps

theorem ldW_app (f : Int → Int) (k : Nat) : ∀ (a b : List (Nat × Int)), ldW f (a ++ b) k = ldW f a k + ldW f b k
  | [], b => by show ldW f b k = 0 + ldW f b k; omega
  | z :: a, b => by
    show (if z.1 = k then f z.2 else 0) + ldW f (a ++ b) k = (if z.1 = k then f z.2 else 0) + ldW f a k + ldW f b k
    rw [ldW_app f k a b]; omega
theorem sumF_app (f : Int → Int) : ∀ (a b : List Int), sumF f (a ++ b) = sumF f a + sumF f b
  | [], b => by show sumF f b = 0 + sumF f b; omega
  | p :: a, b => by
    show f p + sumF f (a ++ b) = f p + sumF f a + sumF f b
    rw [sumF_app f a b]; omega
theorem mcSum_add (g h : Nat → Int) : ∀ m, mcSum (fun k => g k + h k) m = mcSum g m + mcSum h m
  | 0 => rfl
  | m + 1 => by
    show mcSum (fun k => g k + h k) m + (g m + h m) = mcSum g m + g m + (mcSum h m + h m)
    rw [mcSum_add g h m]; omega
theorem mcSum_one (a : Nat) (c : Int) : ∀ m, mcSum (fun k => if a = k then c else 0) m = if a < m then c else 0
  | 0 => rfl
  | m + 1 => by
    show mcSum (fun k => if a = k then c else 0) m + (if a = m then c else 0) = _
    rw [mcSum_one a c m]
    by_cases h : a < m
    · rw [if_pos h, if_neg (by omega), if_pos (by omega)]; omega
    · by_cases e : a = m
      · rw [if_neg h, if_pos e, if_pos (by omega)]; omega
      · rw [if_neg h, if_neg e, if_neg (by omega)]; omega
theorem mcSum_zero : ∀ m, mcSum (fun _ => 0) m = 0
  | 0 => rfl
  | m + 1 => by show mcSum (fun _ => 0) m + 0 = 0; rw [mcSum_zero m]; omega
/-- all machines together have all -/
theorem ld_sum (f : Int → Int) {m : Nat} : ∀ zs : List (Nat × Int), (∀ z ∈ zs, z.1 < m) → mcSum (ldW f zs) m = sumF f (zs.map (·.2))
  | [], _ => mcSum_zero m
  | z :: zs, h => by
    show mcSum (fun k => (if z.1 = k then f z.2 else 0) + ldW f zs k) m = f z.2 + sumF f (zs.map (·.2))
    rw [mcSum_add (fun k => if z.1 = k then f z.2 else 0) (ldW f zs) m, mcSum_one, if_pos (h z List.mem_cons_self), ld_sum f zs (fun y hy => h y (List.mem_cons_of_mem _ hy))]
theorem mcSum_ge {g : Nat → Int} {c : Int} : ∀ m, (∀ i, i < m → c ≤ g i) → m * c ≤ mcSum g m
  | 0, _ => by simp [mcSum]
  | m + 1, h => by
    have h1 := mcSum_ge m (fun i hi => h i (by omega))
    have h2 := h m (by omega)
    have e : ((m + 1 : Nat) : Int) * c = (m : Int) * c + c := by rw [Int.natCast_add, Int.add_mul]; simp
    show ((m + 1 : Nat) : Int) * c ≤ mcSum g m + g m
    omega
theorem mcSum_le {g : Nat → Int} {c : Int} : ∀ m, (∀ i, i < m → g i ≤ c) → mcSum g m ≤ m * c
  | 0, _ => by simp [mcSum]
  | m + 1, h => by
    have h1 := mcSum_le m (fun i hi => h i (by omega))
    have h2 := h m (by omega)
    have e : ((m + 1 : Nat) : Int) * c = (m : Int) * c + c := by rw [Int.natCast_add, Int.add_mul]; simp
    show mcSum g m + g m ≤ ((m + 1 : Nat) : Int) * c
    omega

/-- m machines can do ps in T -/
def Fits (ps : List Int) (m : Nat) (T : Int) : Prop := ∃ zs : List (Nat × Int), zs.map (·.2) = ps ∧ (∀ z ∈ zs, z.1 < m) ∧ ∀ k, k < m → ld zs k ≤ T

theorem ld_nonneg {zs : List (Nat × Int)} (h : ∀ z ∈ zs, 0 ≤ z.2) (k : Nat) : 0 ≤ ld zs k := by
  induction zs with
  | nil => exact Int.le_refl _
  | cons z zs ih =>
    have h1 := h z List.mem_cons_self
    have h2 := ih (fun y hy => h y (List.mem_cons_of_mem _ hy))
    show 0 ≤ (if z.1 = k then z.2 else 0) + ld zs k
    split <;> omega
theorem ld_mem {zs : List (Nat × Int)} (h : ∀ z ∈ zs, 0 ≤ z.2) {z : Nat × Int} (hz : z ∈ zs) : z.2 ≤ ld zs z.1 := by
  induction zs with
  | nil => cases hz
  | cons y zs ih =>
    have h1 := h y List.mem_cons_self
    have h2 := ld_nonneg (fun y hy => h y (List.mem_cons_of_mem _ hy)) z.1
    show z.2 ≤ (if y.1 = z.1 then y.2 else 0) + ld zs z.1
    rcases List.mem_cons.1 hz with rfl | hz
    · rw [if_pos rfl]; omega
    · have := ih (fun y hy => h y (List.mem_cons_of_mem _ hy)) hz
      split <;> omega
/-- what can be done in T: no job is longer, all together no more than m times T -/
theorem Fits.bd {ps : List Int} {m : Nat} {T : Int} (h : Fits ps m T) (hp : ∀ p ∈ ps, 0 ≤ p) : (∀ p ∈ ps, p ≤ T) ∧ sumP ps ≤ m * T := by
  obtain ⟨zs, rfl, hm, hl⟩ := h
  have hz : ∀ z ∈ zs, 0 ≤ z.2 := fun z hz => hp _ (List.mem_map.2 ⟨z, hz, rfl⟩)
  refine ⟨fun p h => ?_, ?_⟩
  · obtain ⟨z, hz', rfl⟩ := List.mem_map.1 h
    have := ld_mem hz hz'
    have := hl z.1 (hm z hz')
    omega
  · show sumF (fun x => x) _ ≤ _
    rw [← ld_sum (fun x => x) zs hm]
    exact mcSum_le m hl
theorem Fits.perm {ps qs : List Int} {m : Nat} {T : Int} (hp : ps.Perm qs) : Fits ps m T → Fits qs m T := by
  have key : ∀ {ps qs : List Int}, ps.Perm qs → ∀ zs : List (Nat × Int), zs.map (·.2) = ps → ∃ ys : List (Nat × Int), ys.Perm zs ∧ ys.map (·.2) = qs := by
    intro ps qs h
    induction h with
    | nil => intro zs e; exact ⟨zs, List.Perm.refl _, e⟩
    | cons x _ ih =>
      intro zs e
      cases zs with
      | nil => cases e
      | cons z zs =>
        simp only [List.map_cons, List.cons.injEq] at e
        obtain ⟨ys, h1, h2⟩ := ih zs e.2
        exact ⟨z :: ys, h1.cons z, by rw [List.map_cons, h2, e.1]⟩
    | swap x y l =>
      intro zs e
      match zs, e with
      | a :: b :: zs, e =>
        simp only [List.map_cons, List.cons.injEq] at e
        exact ⟨b :: a :: zs, List.Perm.swap _ _ _, by simp [e.1, e.2.1, e.2.2]⟩
    | trans _ _ ih1 ih2 =>
      intro zs e
      obtain ⟨ys, h1, h2⟩ := ih1 zs e
      obtain ⟨xs, h3, h4⟩ := ih2 ys h2
      exact ⟨xs, h3.trans h1, h4⟩
  rintro ⟨zs, e, hm, hl⟩
  obtain ⟨ys, h1, h2⟩ := key hp zs e
  have hld : ∀ k, ld ys k = ld zs k := fun k => by
    clear h2 hl hm e
    unfold ld
    induction h1 with
    | nil => rfl
    | cons x _ ih => show _ + _ = _ + _; rw [ih]
    | swap x y l => show _ + (_ + _) = _ + (_ + _); omega
    | trans _ _ ih1 ih2 => rw [ih1, ih2]
  exact ⟨ys, h2, fun z hz => hm z (h1.subset hz), fun k hk => by rw [hld]; exact hl k hk⟩
theorem Fits.front {ps qs : List Int} {m : Nat} {T : Int} (hq : ∀ p ∈ qs, 0 ≤ p) (h : Fits (ps ++ qs) m T) : Fits ps m T := by
  obtain ⟨zs, e, hm, hl⟩ := h
  obtain ⟨a, b, rfl, ha, hb⟩ := List.map_eq_append_iff.1 e
  refine ⟨a, ha, fun z hz => hm z (List.mem_append_left _ hz), fun k hk => ?_⟩
  have h1 := hl k hk
  unfold ld at h1 ⊢
  rw [ldW_app] at h1
  have h2 := ld_nonneg (zs := b) (fun z hz => hq _ (by rw [← hb]; exact List.mem_map.2 ⟨z, hz, rfl⟩)) k
  unfold ld at h2
  omega

/-- one behind the other, each to a machine that has least -/
inductive Greedy (m : Nat) : List (Nat × Int) → Prop
  | nil : Greedy m []
  | snoc (zs : List (Nat × Int)) (k : Nat) (p : Int) (h : Greedy m zs) (hk : k < m) (hl : ∀ i, i < m → ld zs k ≤ ld zs i) : Greedy m (zs ++ [(k, p)])

theorem Greedy.mem {m : Nat} {zs : List (Nat × Int)} (h : Greedy m zs) : ∀ z ∈ zs, z.1 < m := by
  induction h with
  | nil => intro z hz; cases hz
  | snoc zs k p _ hk _ ih =>
    intro z hz
    rcases List.mem_append.1 hz with hz | hz
    · exact ih z hz
    · obtain rfl := List.mem_singleton.1 hz; exact hk
theorem ld_snoc (zs : List (Nat × Int)) (k : Nat) (p : Int) (i : Nat) : ld (zs ++ [(k, p)]) i = ld zs i + if k = i then p else 0 := by
  unfold ld; rw [ldW_app]; show _ + ((if k = i then p else 0) + 0) = _; omega
theorem sumP_snoc (ps : List Int) (p : Int) : sumP (ps ++ [p]) = sumP ps + p := by
  unfold sumP; rw [sumF_app]; show _ + (p + 0) = _; omega
theorem least_avg {m : Nat} {zs : List (Nat × Int)} {k : Nat} (hm : ∀ z ∈ zs, z.1 < m) (hl : ∀ i, i < m → ld zs k ≤ ld zs i) : m * ld zs k ≤ sumP (zs.map (·.2)) := by
  have := mcSum_ge (g := ldW (fun x => x) zs) (c := ld zs k) m hl
  rwa [ld_sum (fun x => x) zs hm] at this

/-- GRAHAM: at most the sum's m-th part and the longest less its m-th part -/
theorem graham_list {m : Nat} {zs : List (Nat × Int)} (h : Greedy m zs) {M : Int} (h1 : 1 ≤ m) (hM : 0 ≤ M) (hp : ∀ z ∈ zs, 0 ≤ z.2 ∧ z.2 ≤ M) : ∀ i, i < m → m * ld zs i ≤ sumP (zs.map (·.2)) + (m - 1) * M := by
  induction h with
  | nil =>
    intro i _
    have : 0 ≤ ((m : Int) - 1) * M := Int.mul_nonneg (by omega) hM
    show (m : Int) * 0 ≤ 0 + _
    rw [Int.mul_zero]; omega
  | snoc zs k p hg hk hl ih =>
    intro i hi
    have hp' := fun z hz => hp z (List.mem_append_left _ hz)
    obtain ⟨p0, p1⟩ := hp (k, p) (List.mem_append_right _ (List.mem_singleton.2 rfl))
    have i1 := ih hp' i hi
    rw [List.map_append, List.map_cons, List.map_nil, sumP_snoc, ld_snoc]
    by_cases e : k = i
    · subst e
      rw [if_pos rfl, Int.mul_add]
      have i2 := least_avg hg.mem hl
      have i3 : ((m : Int) - 1) * p ≤ ((m : Int) - 1) * M := Int.mul_le_mul_of_nonneg_left p1 (by omega)
      rw [Int.sub_mul, Int.one_mul] at i3
      have : (k, p).2 = p := rfl
      omega
    · rw [if_neg e, Int.add_zero]
      have : (k, p).2 = p := rfl
      omega

/-- a job's weight: two where beside it there is no room for one more -/
def wt (c : Int) (x : Int) : Int := if x > c then 2 else 1
theorem wt_fit {p T : Int} (h0 : 0 ≤ p) (h3 : T < 3 * p) {k : Nat} : ∀ zs : List (Nat × Int), (∀ z ∈ zs, p ≤ z.2) →
    (ldW (wt (T - p)) zs k = 0 ∧ ld zs k = 0) ∨ (ldW (wt (T - p)) zs k = 1 ∧ p ≤ ld zs k) ∨
    (ldW (wt (T - p)) zs k = 2 ∧ (T - p < ld zs k ∨ 2 * p ≤ ld zs k)) ∨ (3 ≤ ldW (wt (T - p)) zs k ∧ T < ld zs k)
  | [], _ => Or.inl ⟨rfl, rfl⟩
  | z :: zs, h => by
    have ih := wt_fit h0 h3 (k := k) zs (fun y hy => h y (List.mem_cons_of_mem _ hy))
    have h1 := h z List.mem_cons_self
    have e1 : ldW (wt (T - p)) (z :: zs) k = (if z.1 = k then wt (T - p) z.2 else 0) + ldW (wt (T - p)) zs k := rfl
    have e2 : ld (z :: zs) k = (if z.1 = k then z.2 else 0) + ld zs k := rfl
    rw [e1, e2]
    by_cases e : z.1 = k
    · rw [if_pos e, if_pos e]
      unfold wt at ih ⊢
      by_cases hc : z.2 > T - p
      · rw [if_pos hc]; omega
      · rw [if_neg hc]; omega
    · rw [if_neg e, if_neg e]; omega
theorem wt_full {p T : Int} {k : Nat} : ∀ zs : List (Nat × Int),
    (ldW (wt (T - p)) zs k = 0 ∧ ld zs k = 0) ∨ (ldW (wt (T - p)) zs k = 1 ∧ ld zs k ≤ T - p) ∨ 2 ≤ ldW (wt (T - p)) zs k
  | [] => Or.inl ⟨rfl, rfl⟩
  | z :: zs => by
    have ih := wt_full (p := p) (T := T) (k := k) zs
    have e1 : ldW (wt (T - p)) (z :: zs) k = (if z.1 = k then wt (T - p) z.2 else 0) + ldW (wt (T - p)) zs k := rfl
    have e2 : ld (z :: zs) k = (if z.1 = k then z.2 else 0) + ld zs k := rfl
    rw [e1, e2]
    by_cases e : z.1 = k
    · rw [if_pos e, if_pos e]
      unfold wt at ih ⊢
      by_cases hc : z.2 > T - p
      · rw [if_pos hc]; omega
      · rw [if_neg hc]; omega
    · rw [if_neg e, if_neg e]; omega
theorem Fits.nonneg {ps : List Int} {m : Nat} {T : Int} (h : Fits ps m T) (hm : 1 ≤ m) (hp : ∀ p ∈ ps, 0 ≤ p) : 0 ≤ T := by
  obtain ⟨zs, rfl, _, hl⟩ := h
  have h1 := hl 0 (by omega)
  have h2 := ld_nonneg (zs := zs) (fun z hz => hp _ (List.mem_map.2 ⟨z, hz, rfl⟩)) 0
  omega
/-- GRAHAM: the longest first, at most four thirds less a third of the m-th part -/
theorem graham_longest {m : Nat} {zs : List (Nat × Int)} (h : Greedy m zs) {T : Int} (h1 : 1 ≤ m) (h0 : ∀ z ∈ zs, 0 ≤ z.2)
    (hd : (zs.map (·.2)).Pairwise (fun a b => b ≤ a)) (hf : Fits (zs.map (·.2)) m T) : ∀ i, i < m → 3 * (m * ld zs i) ≤ (4 * m - 1) * T := by
  induction h with
  | nil =>
    intro i _
    have hT := hf.nonneg h1 (by simp)
    have : 0 ≤ (4 * (m : Int) - 1) * T := Int.mul_nonneg (by omega) hT
    show 3 * ((m : Int) * 0) ≤ _
    rw [Int.mul_zero]; omega
  | snoc zs k p hg hk hl ih =>
    intro i hi
    have h0' := fun z hz => h0 z (List.mem_append_left _ hz)
    have p0 : 0 ≤ p := h0 (k, p) (List.mem_append_right _ (List.mem_singleton.2 rfl))
    rw [List.map_append, List.map_cons, List.map_nil] at hf hd
    obtain ⟨hd1, _, hd2⟩ := List.pairwise_append.1 hd
    have hT := hf.nonneg h1 (by
      intro x hx
      rcases List.mem_append.1 hx with hx | hx
      · obtain ⟨z, hz, rfl⟩ := List.mem_map.1 hx; exact h0' z hz
      · obtain rfl := List.mem_singleton.1 hx; exact p0)
    have hf1 : Fits (zs.map (·.2)) m T := hf.front (by intro x hx; obtain rfl := List.mem_singleton.1 hx; exact p0)
    have i1 := ih h0' hd1 hf1 i hi
    rw [ld_snoc]
    by_cases e : k = i
    · subst e
      rw [if_pos rfl]
      obtain ⟨b1, b2⟩ := hf.bd (by
        intro x hx
        rcases List.mem_append.1 hx with hx | hx
        · obtain ⟨z, hz, rfl⟩ := List.mem_map.1 hx; exact h0' z hz
        · obtain rfl := List.mem_singleton.1 hx; exact p0)
      have pT : p ≤ T := b1 p (List.mem_append_right _ (List.mem_singleton.2 rfl))
      by_cases hL : ld zs k + p ≤ T
      · have j1 : (m : Int) * (ld zs k + p) ≤ m * T := Int.mul_le_mul_of_nonneg_left hL (by omega)
        have j2 : 1 * T ≤ (m : Int) * T := Int.mul_le_mul_of_nonneg_right (by omega) hT
        rw [Int.sub_mul, Int.mul_assoc]; omega
      by_cases h3 : 3 * p ≤ T
      · have i2 := least_avg hg.mem hl
        rw [sumP_snoc] at b2
        have j1 : ((m : Int) - 1) * (3 * p) ≤ ((m : Int) - 1) * T := Int.mul_le_mul_of_nonneg_left h3 (by omega)
        rw [Int.sub_mul, Int.sub_mul, Int.one_mul, Int.one_mul, Int.mul_left_comm] at j1
        rw [Int.sub_mul, Int.mul_assoc, Int.mul_add]; omega
      · exfalso
        obtain ⟨ys, ey, hm, hy⟩ := hf
        have mem : ∀ z ∈ ys, p ≤ z.2 := fun z hz => by
          have : z.2 ∈ zs.map (·.2) ++ [p] := by rw [← ey]; exact List.mem_map.2 ⟨z, hz, rfl⟩
          rcases List.mem_append.1 this with hx | hx
          · exact hd2 _ hx p (List.mem_singleton.2 rfl)
          · rw [List.mem_singleton.1 hx]; exact Int.le_refl _
        have up : mcSum (ldW (wt (T - p)) ys) m ≤ m * 2 := mcSum_le m (fun j hj => by
          have a1 := wt_fit (T := T) p0 (by omega) (k := j) ys mem
          have a2 := hy j hj
          omega)
        have dn : m * 2 ≤ mcSum (ldW (wt (T - p)) zs) m := mcSum_ge m (fun j hj => by
          have a1 := wt_full (p := p) (T := T) (k := j) zs
          have a2 := hl j hj
          omega)
        rw [ld_sum _ ys hm, ey, sumF_app] at up
        rw [ld_sum _ zs hg.mem] at dn
        have : 1 ≤ sumF (wt (T - p)) [(k, p).2] := by
          show 1 ≤ wt (T - p) p + 0
          unfold wt; split <;> omega
        omega
    · rw [if_neg e, Int.add_zero]; exact i1

end Go.Proofs.Ytcomohobkjkhiaa

/- Many machines: who gets what, what the most is, what the least most is; the plain mathematics of chapter 6. -/
namespace Go.Proofs.Ytcomohobkjkhiaa

/-- machine k has p more -/
def addAt (l : List Int) (k : Nat) (p : Int) : List Int := l.set k (l.getD k 0 + p)
/-- the first of the least of the first n + 1 -/
def lk (l : List Int) : Nat → Nat
  | 0 => 0
  | n + 1 => if l.getD n 0 < l.getD (lk l n) 0 then n else lk l n
def leastK (l : List Int) : Nat := lk l l.length
/-- the most of the first n, and none less than nothing -/
def mostN (l : List Int) : Nat → Int
  | 0 => 0
  | n + 1 => max (mostN l n) (l.getD n 0)
def mostV (l : List Int) : Int := mostN l l.length
def spreadV : List Int → List Int → List Nat
  | _, [] => []
  | l, p :: ps => leastK l :: spreadV (addAt l (leastK l) p) ps
def loadsOf : List Int → List (Nat × Int) → List Int
  | l, [] => l
  | l, z :: zs => loadsOf (addAt l z.1 z.2) zs
def bestK (f : Nat → Int) : Nat → Int
  | 0 => -1
  | n + 1 => if bestK f n < 0 ∨ f n < bestK f n then f n else bestK f n
def bestV : List Int → List Int → Int
  | [], l => mostV l
  | p :: ps, l => bestK (fun k => bestV ps (addAt l k p)) l.length

theorem addAt_len (l : List Int) (k : Nat) (p : Int) : (addAt l k p).length = l.length := by unfold addAt; rw [List.length_set]
theorem addAt_at (l : List Int) (k : Nat) (p : Int) (i : Nat) (hk : k < l.length) : (addAt l k p).getD i 0 = l.getD i 0 + if k = i then p else 0 := by
  unfold addAt
  by_cases e : k = i
  · subst e
    rw [if_pos rfl, List.getD_eq_getElem?_getD, List.getElem?_set, if_pos rfl, if_pos hk]; rfl
  · rw [if_neg e, Int.add_zero, List.getD_eq_getElem?_getD, List.getElem?_set, if_neg e, List.getD_eq_getElem?_getD]
theorem lk_lt {l : List Int} (h : 0 < l.length) : ∀ n, n ≤ l.length → lk l n < l.length
  | 0, _ => h
  | n + 1, hn => by
    have := lk_lt h n (by omega)
    unfold lk; split <;> omega
theorem lk_le {l : List Int} : ∀ n, ∀ i, i < n → l.getD (lk l n) 0 ≤ l.getD i 0
  | 0, i, h => by omega
  | n + 1, i, h => by
    have ih := lk_le (l := l) n
    unfold lk
    by_cases c : l.getD n 0 < l.getD (lk l n) 0
    · rw [if_pos c]
      by_cases e : i = n
      · subst e; omega
      · have := ih i (by omega); omega
    · rw [if_neg c]
      by_cases e : i = n
      · subst e; omega
      · exact ih i (by omega)
theorem lk_bound {l : List Int} : ∀ n, lk l n = 0 ∨ lk l n < n
  | 0 => Or.inl rfl
  | n + 1 => by
    have := lk_bound (l := l) n
    unfold lk; split <;> omega
theorem lk_first {l : List Int} : ∀ n, ∀ i, i < lk l n → l.getD (lk l n) 0 < l.getD i 0
  | 0, i, h => by unfold lk at h; omega
  | n + 1, i, h => by
    have ih := lk_first (l := l) n
    have hle := lk_le (l := l) n
    unfold lk at h ⊢
    by_cases c : l.getD n 0 < l.getD (lk l n) 0
    · rw [if_pos c] at h ⊢
      have := hle i h; omega
    · rw [if_neg c] at h ⊢
      exact ih i h
theorem leastK_lt {l : List Int} (h : 0 < l.length) : leastK l < l.length := lk_lt h _ (Nat.le_refl _)
theorem leastK_le {l : List Int} {i : Nat} (h : i < l.length) : l.getD (leastK l) 0 ≤ l.getD i 0 := lk_le _ _ h
theorem leastK_first {l : List Int} {i : Nat} (h : i < leastK l) : l.getD (leastK l) 0 < l.getD i 0 := lk_first _ _ h
/-- it is the only one of that kind -/
theorem leastK_only {l : List Int} {k : Nat} (hk : k < l.length) (h1 : ∀ i, i < l.length → l.getD k 0 ≤ l.getD i 0) (h2 : ∀ i, i < k → l.getD k 0 < l.getD i 0) : k = leastK l := by
  have a1 := leastK_lt (l := l) (by omega)
  have a2 := h1 _ a1
  have a3 := leastK_le (l := l) hk
  by_cases c : k < leastK l
  · have := leastK_first c; omega
  · by_cases d : leastK l < k
    · have := h2 _ d; omega
    · omega

theorem mostN_le {l : List Int} {T : Int} : ∀ n, (mostN l n ≤ T ↔ 0 ≤ T ∧ ∀ i, i < n → l.getD i 0 ≤ T)
  | 0 => by simp [mostN]
  | n + 1 => by
    show max (mostN l n) (l.getD n 0) ≤ T ↔ _
    have ih := mostN_le (l := l) (T := T) n
    constructor
    · intro h
      have h1 := ih.1 (by omega)
      refine ⟨h1.1, fun i hi => ?_⟩
      by_cases e : i = n
      · subst e; omega
      · exact h1.2 i (by omega)
    · rintro ⟨h1, h2⟩
      have := ih.2 ⟨h1, fun i hi => h2 i (by omega)⟩
      have := h2 n (by omega)
      omega
theorem mostN_nonneg (l : List Int) : ∀ n, 0 ≤ mostN l n
  | 0 => Int.le_refl _
  | n + 1 => by
    have := mostN_nonneg l n
    show 0 ≤ max (mostN l n) (l.getD n 0)
    omega
theorem mostV_le {l : List Int} {T : Int} : mostV l ≤ T ↔ 0 ≤ T ∧ ∀ i, i < l.length → l.getD i 0 ≤ T := mostN_le _
theorem mostV_nonneg (l : List Int) : 0 ≤ mostV l := mostN_nonneg l _

theorem loadsOf_len : ∀ (zs : List (Nat × Int)) (l : List Int), (loadsOf l zs).length = l.length
  | [], _ => rfl
  | z :: zs, l => by
    show (loadsOf (addAt l z.1 z.2) zs).length = l.length
    rw [loadsOf_len zs, addAt_len]
theorem loadsOf_at : ∀ (zs : List (Nat × Int)) (l : List Int), (∀ z ∈ zs, z.1 < l.length) → ∀ i, (loadsOf l zs).getD i 0 = l.getD i 0 + ld zs i
  | [], l, _, i => by show l.getD i 0 = l.getD i 0 + 0; omega
  | z :: zs, l, h, i => by
    show (loadsOf (addAt l z.1 z.2) zs).getD i 0 = l.getD i 0 + ((if z.1 = i then z.2 else 0) + ld zs i)
    rw [loadsOf_at zs _ (fun y hy => by rw [addAt_len]; exact h y (List.mem_cons_of_mem _ hy)), addAt_at _ _ _ _ (h z List.mem_cons_self)]
    omega
theorem loadsOf_app : ∀ (a b : List (Nat × Int)) (l : List Int), loadsOf l (a ++ b) = loadsOf (loadsOf l a) b
  | [], _, _ => rfl
  | z :: a, b, l => loadsOf_app a b (addAt l z.1 z.2)
theorem rep_at (m i : Nat) : (List.replicate m (0 : Int)).getD i 0 = 0 := by
  rw [List.getD_eq_getElem?_getD, List.getElem?_replicate]
  split <;> rfl
theorem loads_ld {m : Nat} {zs : List (Nat × Int)} (h : ∀ z ∈ zs, z.1 < m) (i : Nat) : (loadsOf (List.replicate m 0) zs).getD i 0 = ld zs i := by
  rw [loadsOf_at zs _ (by rwa [List.length_replicate]), rep_at, Int.zero_add]

theorem spreadV_len : ∀ (ps l : List Int), (spreadV l ps).length = ps.length
  | [], _ => rfl
  | p :: ps, l => by show (spreadV _ ps).length + 1 = ps.length + 1; rw [spreadV_len ps]
theorem spreadV_lt : ∀ (ps l : List Int), 0 < l.length → ∀ k ∈ spreadV l ps, k < l.length
  | [], _, _, _, h => by cases h
  | p :: ps, l, h0, k, h => by
    rcases List.mem_cons.1 h with rfl | h
    · exact leastK_lt h0
    · have := spreadV_lt ps (addAt l (leastK l) p) (by rw [addAt_len]; exact h0) k h
      rwa [addAt_len] at this
theorem greedy_go {m : Nat} (h1 : 1 ≤ m) : ∀ (ps l : List Int) (zs : List (Nat × Int)), l.length = m → Greedy m zs → (∀ i, l.getD i 0 = ld zs i) →
    Greedy m (zs ++ (spreadV l ps).zip ps)
  | [], l, zs, _, h, _ => by show Greedy m (zs ++ []); rwa [List.append_nil]
  | p :: ps, l, zs, hl, h, e => by
    show Greedy m (zs ++ (leastK l, p) :: (spreadV (addAt l (leastK l) p) ps).zip ps)
    have hk : leastK l < l.length := leastK_lt (by omega)
    have := greedy_go h1 ps (addAt l (leastK l) p) (zs ++ [(leastK l, p)]) (by rw [addAt_len]; exact hl)
      (Greedy.snoc zs _ p h (by omega) (fun i hi => by rw [← e, ← e]; exact leastK_le (by omega)))
      (fun i => by rw [addAt_at _ _ _ _ hk, ld_snoc, e])
    rwa [List.append_assoc] at this
/-- what is spread is given to the one that has least -/
theorem greedy_spread {m : Nat} (h1 : 1 ≤ m) (ps : List Int) : Greedy m ((spreadV (List.replicate m 0) ps).zip ps) :=
  greedy_go h1 ps (List.replicate m 0) [] (List.length_replicate ..) Greedy.nil (fun i => by rw [rep_at]; rfl)
theorem zip_snd : ∀ (ks : List Nat) (ps : List Int), ks.length = ps.length → (ks.zip ps).map (·.2) = ps
  | [], [], _ => rfl
  | k :: ks, p :: ps, h => by
    show p :: (ks.zip ps).map (·.2) = p :: ps
    rw [zip_snd ks ps (by simpa using h)]
  | [], _ :: _, h => by cases h
  | _ :: _, [], h => by cases h

theorem bestK_spec {f : Nat → Int} : ∀ n, (∀ k, k < n → 0 ≤ f k) → (1 ≤ n → 0 ≤ bestK f n) ∧ ∀ T, 0 ≤ T → 1 ≤ n → (bestK f n ≤ T ↔ ∃ k, k < n ∧ f k ≤ T)
  | 0, _ => ⟨fun h => by omega, fun _ _ h => by omega⟩
  | n + 1, h => by
    obtain ⟨i1, i2⟩ := bestK_spec n (fun k hk => h k (by omega))
    have hn := h n (by omega)
    have e : bestK f (n + 1) = if bestK f n < 0 ∨ f n < bestK f n then f n else bestK f n := rfl
    refine ⟨fun _ => by rw [e]; split <;> omega, fun T hT _ => ?_⟩
    by_cases h0 : n = 0
    · subst h0
      have : bestK f 1 = f 0 := by
        rw [e]; exact if_pos (Or.inl (show (-1 : Int) < 0 by omega))
      rw [this]
      exact ⟨fun h => ⟨0, by omega, h⟩, fun ⟨k, hk, h⟩ => by
        have : k = 0 := by omega
        rwa [this] at h⟩
    · have j1 := i1 (by omega)
      have j2 := i2 T hT (by omega)
      rw [e]
      constructor
      · intro hh
        by_cases c : f n ≤ T
        · exact ⟨n, by omega, c⟩
        · have : bestK f n ≤ T := by split at hh <;> omega
          obtain ⟨k, hk, hk'⟩ := j2.1 this
          exact ⟨k, by omega, hk'⟩
      · rintro ⟨k, hk, hk'⟩
        by_cases c : k = n
        · subst c; split <;> omega
        · have := j2.2 ⟨k, by omega, hk'⟩
          split <;> omega

/-- the best from l on: the least T that something fits -/
theorem bestV_spec : ∀ (ps l : List Int), 1 ≤ l.length → 0 ≤ bestV ps l ∧ ∀ T, 0 ≤ T →
    (bestV ps l ≤ T ↔ ∃ zs : List (Nat × Int), zs.map (·.2) = ps ∧ (∀ z ∈ zs, z.1 < l.length) ∧ ∀ k, k < l.length → l.getD k 0 + ld zs k ≤ T)
  | [], l, h => by
    refine ⟨mostV_nonneg l, fun T hT => ?_⟩
    show mostV l ≤ T ↔ _
    rw [mostV_le]
    constructor
    · rintro ⟨_, h2⟩
      exact ⟨[], rfl, fun z hz => (List.not_mem_nil hz).elim, fun k hk => by
        have := h2 k hk
        show l.getD k 0 + 0 ≤ T
        omega⟩
    · rintro ⟨zs, e, _, h2⟩
      obtain rfl := List.map_eq_nil_iff.1 e
      refine ⟨hT, fun i hi => ?_⟩
      have : l.getD i 0 + 0 ≤ T := h2 i hi
      omega
  | p :: ps, l, h => by
    have ih := fun k => bestV_spec ps (addAt l k p) (by rw [addAt_len]; exact h)
    obtain ⟨b1, b2⟩ := bestK_spec (f := fun k => bestV ps (addAt l k p)) l.length (fun k _ => (ih k).1)
    refine ⟨b1 h, fun T hT => ?_⟩
    show bestK (fun k => bestV ps (addAt l k p)) l.length ≤ T ↔ _
    rw [b2 T hT h]
    constructor
    · rintro ⟨k, hk, hb⟩
      obtain ⟨zs, e, hz, hl⟩ := ((ih k).2 T hT).1 hb
      rw [addAt_len] at hz hl
      refine ⟨(k, p) :: zs, by rw [List.map_cons, e], fun z hz' => ?_, fun i hi => ?_⟩
      · rcases List.mem_cons.1 hz' with rfl | hz'
        · exact hk
        · exact hz z hz'
      · have := hl i hi
        rw [addAt_at _ _ _ _ hk] at this
        show l.getD i 0 + ((if k = i then p else 0) + ld zs i) ≤ T
        omega
    · rintro ⟨zs, e, hz, hl⟩
      cases zs with
      | nil => cases e
      | cons z zs =>
        rw [List.map_cons, List.cons.injEq] at e
        have hk := hz z List.mem_cons_self
        refine ⟨z.1, hk, ((ih z.1).2 T hT).2 ⟨zs, e.2, fun y hy => by rw [addAt_len]; exact hz y (List.mem_cons_of_mem _ hy), fun i hi => ?_⟩⟩
        rw [addAt_len] at hi
        have h1 : l.getD i 0 + ((if z.1 = i then z.2 else 0) + ld zs i) ≤ T := hl i hi
        have h2 : z.2 = p := e.1
        rw [addAt_at _ _ _ _ hk, ← h2]
        omega

def optV (ps : List Int) (m : Nat) : Int := bestV ps (List.replicate m 0)
theorem optV_nonneg (ps : List Int) {m : Nat} (h : 1 ≤ m) : 0 ≤ optV ps m := (bestV_spec ps _ (by rwa [List.length_replicate])).1
theorem optV_le {ps : List Int} {m : Nat} (h : 1 ≤ m) {T : Int} (hT : 0 ≤ T) : optV ps m ≤ T ↔ Fits ps m T := by
  have := (bestV_spec ps (List.replicate m 0) (by rwa [List.length_replicate])).2 T hT
  rw [List.length_replicate] at this
  unfold optV
  rw [this]
  constructor
  · rintro ⟨zs, e, h1, h2⟩
    exact ⟨zs, e, h1, fun k hk => by have := h2 k hk; rw [rep_at] at this; omega⟩
  · rintro ⟨zs, e, h1, h2⟩
    exact ⟨zs, e, h1, fun k hk => by have := h2 k hk; rw [rep_at]; omega⟩
theorem optV_fits (ps : List Int) {m : Nat} (h : 1 ≤ m) : Fits ps m (optV ps m) := (optV_le h (optV_nonneg ps h)).1 (Int.le_refl _)

/-- the most of a spreading over m machines -/
def spanV (zs : List (Nat × Int)) (m : Nat) : Int := mostV (loadsOf (List.replicate m 0) zs)
theorem spanV_le {zs : List (Nat × Int)} {m : Nat} (h : ∀ z ∈ zs, z.1 < m) {T : Int} : spanV zs m ≤ T ↔ 0 ≤ T ∧ ∀ i, i < m → ld zs i ≤ T := by
  unfold spanV
  rw [mostV_le, loadsOf_len, List.length_replicate]
  constructor
  · rintro ⟨h1, h2⟩; exact ⟨h1, fun i hi => by rw [← loads_ld h]; exact h2 i hi⟩
  · rintro ⟨h1, h2⟩; exact ⟨h1, fun i hi => by rw [loads_ld h]; exact h2 i hi⟩
theorem spanV_nonneg (zs : List (Nat × Int)) (m : Nat) : 0 ≤ spanV zs m := mostV_nonneg _
theorem opt_span {zs : List (Nat × Int)} {m : Nat} (h1 : 1 ≤ m) (h : ∀ z ∈ zs, z.1 < m) : optV (zs.map (·.2)) m ≤ spanV zs m :=
  (optV_le h1 (spanV_nonneg zs m)).2 ⟨zs, rfl, h, ((spanV_le h).1 (Int.le_refl _)).2⟩
/-- the most is at one of them, or nothing -/
theorem spanV_at {zs : List (Nat × Int)} {m : Nat} (h1 : 1 ≤ m) (h : ∀ z ∈ zs, z.1 < m) (h0 : ∀ z ∈ zs, 0 ≤ z.2) : ∃ i, i < m ∧ spanV zs m = ld zs i := by
  have h2 := ((spanV_le h (T := spanV zs m)).1 (Int.le_refl _))
  by_cases c : ∃ i, i < m ∧ spanV zs m = ld zs i
  · exact c
  · exfalso
    have h3 : spanV zs m ≤ spanV zs m - 1 := (spanV_le h).2 ⟨by
      have a1 := h2.2 0 (by omega)
      have a2 := ld_nonneg h0 0
      have a3 : spanV zs m ≠ ld zs 0 := fun e => c ⟨0, by omega, e⟩
      omega, fun i hi => by
      have a1 := h2.2 i hi
      have a3 : spanV zs m ≠ ld zs i := fun e => c ⟨i, hi, e⟩
      omega⟩
    omega
theorem opt_perm {ps qs : List Int} {m : Nat} (h1 : 1 ≤ m) (h : ps.Perm qs) : optV ps m = optV qs m := by
  have a := (optV_le (ps := qs) h1 (optV_nonneg ps h1)).2 ((optV_fits ps h1).perm h)
  have b := (optV_le (ps := ps) h1 (optV_nonneg qs h1)).2 ((optV_fits qs h1).perm h.symm)
  omega

/-- GRAHAM, of any order -/
theorem graham_two {ps : List Int} {m : Nat} (h1 : 1 ≤ m) (h0 : ∀ p ∈ ps, 0 ≤ p) :
    m * spanV ((spreadV (List.replicate m 0) ps).zip ps) m ≤ (2 * m - 1) * optV ps m := by
  have hg := greedy_spread h1 ps
  have e := zip_snd _ ps (spreadV_len ps (List.replicate m 0))
  have hz : ∀ z ∈ (spreadV (List.replicate m 0) ps).zip ps, z.2 ∈ ps := fun z hz => by rw [← e]; exact List.mem_map.2 ⟨z, hz, rfl⟩
  obtain ⟨i, hi, hs⟩ := spanV_at h1 hg.mem (fun z h => h0 _ (hz z h))
  have hb := (optV_fits ps h1).bd h0
  have h2 := graham_list hg h1 (optV_nonneg ps h1) (fun z h => ⟨h0 _ (hz z h), hb.1 _ (hz z h)⟩) i hi
  rw [e] at h2
  rw [hs]
  have h3 := hb.2
  rw [Int.sub_mul, Int.one_mul] at h2
  rw [Int.sub_mul, Int.one_mul, Int.mul_assoc]
  omega
/-- GRAHAM, the longest first -/
theorem graham_third {ps : List Int} {m : Nat} (h1 : 1 ≤ m) (h0 : ∀ p ∈ ps, 0 ≤ p) (hd : ps.Pairwise (fun a b => b ≤ a)) :
    3 * (m * spanV ((spreadV (List.replicate m 0) ps).zip ps) m) ≤ (4 * m - 1) * optV ps m := by
  have hg := greedy_spread h1 ps
  have e := zip_snd _ ps (spreadV_len ps (List.replicate m 0))
  have hz : ∀ z ∈ (spreadV (List.replicate m 0) ps).zip ps, z.2 ∈ ps := fun z hz => by rw [← e]; exact List.mem_map.2 ⟨z, hz, rfl⟩
  obtain ⟨i, hi, hs⟩ := spanV_at h1 hg.mem (fun z h => h0 _ (hz z h))
  rw [hs]
  exact graham_longest hg h1 (fun z h => h0 _ (hz z h)) (by rw [e]; exact hd) (by rw [e]; exact optV_fits ps h1) i hi

/-- the bound is no more than the best -/
theorem bound_opt {ps : List Int} {m : Nat} (h1 : 1 ≤ m) (h0 : ∀ p ∈ ps, 0 ≤ p) : (∀ p ∈ ps, p ≤ optV ps m) ∧ (sumP ps + m - 1) / m ≤ optV ps m := by
  have hb := (optV_fits ps h1).bd h0
  refine ⟨hb.1, ?_⟩
  have hm : (0 : Int) < m := by omega
  have h2 := hb.2
  have h3 : sumP ps + m - 1 < (optV ps m + 1) * m := by
    rw [Int.add_mul, Int.one_mul, Int.mul_comm]; omega
  have := Int.ediv_lt_of_lt_mul hm h3
  omega
theorem opt_more {ps : List Int} {m : Nat} (h1 : 1 ≤ m) : optV ps (m + 1) ≤ optV ps m := by
  have hn := optV_nonneg ps h1
  refine (optV_le (by omega) hn).2 ?_
  obtain ⟨zs, e, hz, hl⟩ := optV_fits ps h1
  refine ⟨zs, e, fun z h => by have := hz z h; omega, fun k hk => ?_⟩
  by_cases c : k = m
  · have : ∀ zs : List (Nat × Int), (∀ z ∈ zs, z.1 < m) → ld zs m = 0 := by
      intro zs
      induction zs with
      | nil => exact fun _ => rfl
      | cons y ys ih =>
        intro h
        show (if y.1 = m then y.2 else 0) + ld ys m = 0
        have h1 := h y List.mem_cons_self
        rw [if_neg (by omega), ih (fun z hz => h z (List.mem_cons_of_mem _ hz))]; rfl
    rw [c, this zs hz]; exact hn
  · exact hl k (by omega)
theorem opt_one {ps : List Int} (h0 : ∀ p ∈ ps, 0 ≤ p) : optV ps 1 = sumP ps := by
  have key : ∀ zs : List (Nat × Int), (∀ z ∈ zs, z.1 < 1) → ld zs 0 = sumP (zs.map (·.2)) := by
    intro zs
    induction zs with
    | nil => exact fun _ => rfl
    | cons y ys ih =>
      intro h
      show (if y.1 = 0 then y.2 else 0) + ld ys 0 = y.2 + sumP (ys.map (·.2))
      have h1 := h y List.mem_cons_self
      rw [if_pos (by omega), ih (fun z hz => h z (List.mem_cons_of_mem _ hz))]
  have s0 : ∀ qs : List Int, (∀ p ∈ qs, 0 ≤ p) → 0 ≤ sumP qs := by
    intro qs
    induction qs with
    | nil => exact fun _ => Int.le_refl _
    | cons y ys ih =>
      intro h
      have a1 := h y List.mem_cons_self
      have a2 := ih (fun z hz => h z (List.mem_cons_of_mem _ hz))
      show 0 ≤ y + sumP ys
      omega
  have a : sumP ps ≤ optV ps 1 := by
    obtain ⟨zs, e, hz, hl⟩ := optV_fits ps (Nat.le_refl 1)
    have := hl 0 (by omega)
    rwa [key zs hz, e] at this
  have b : optV ps 1 ≤ sumP ps := by
    refine (optV_le (Nat.le_refl 1) (s0 ps h0)).2 ⟨ps.map (fun p => (0, p)), by rw [List.map_map]; exact List.map_id ps, fun z hz => ?_, fun k hk => ?_⟩
    · obtain ⟨p, _, rfl⟩ := List.mem_map.1 hz; exact Nat.zero_lt_one
    · obtain rfl : k = 0 := by omega
      rw [key _ (fun z hz => by obtain ⟨p, _, rfl⟩ := List.mem_map.1 hz; exact Nat.zero_lt_one), List.map_map]
      show sumP (List.map id ps) ≤ _
      rw [List.map_id]; exact Int.le_refl _
  omega
theorem opt_less {p : Int} {ps : List Int} {m : Nat} (h1 : 1 ≤ m) (h0 : 0 ≤ p) : optV ps m ≤ optV (p :: ps) m ∧ optV (p :: ps) m ≤ optV ps m + p := by
  constructor
  · refine (optV_le h1 (optV_nonneg _ h1)).2 ?_
    obtain ⟨zs, e, hz, hl⟩ := optV_fits (p :: ps) h1
    cases zs with
    | nil => cases e
    | cons z zs =>
      rw [List.map_cons, List.cons.injEq] at e
      refine ⟨zs, e.2, fun y hy => hz y (List.mem_cons_of_mem _ hy), fun k hk => ?_⟩
      have a1 : (if z.1 = k then z.2 else 0) + ld zs k ≤ _ := hl k hk
      have a2 : z.2 = p := e.1
      split at a1 <;> omega
  · have hn := optV_nonneg ps h1
    refine (optV_le h1 (by omega)).2 ?_
    obtain ⟨zs, e, hz, hl⟩ := optV_fits ps h1
    refine ⟨(0, p) :: zs, by rw [List.map_cons, e], fun y hy => ?_, fun k hk => ?_⟩
    · rcases List.mem_cons.1 hy with rfl | hy
      · exact h1
      · exact hz y hy
    · have a1 := hl k hk
      show (if 0 = k then p else 0) + ld zs k ≤ _
      split <;> omega

end Go.Proofs.Ytcomohobkjkhiaa
