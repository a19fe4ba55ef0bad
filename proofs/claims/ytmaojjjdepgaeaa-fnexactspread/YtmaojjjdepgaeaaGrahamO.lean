/- Many machines: who gets what, what the most is, what the least most is; the plain mathematics of chapter 6. -/
import Derived.Test.YtmaojjjdepgaeaaGraham
namespace Go.Proofs.Ytmaojjjdepgaeaa

/-- machine k has p more -/
def addAt (l : List Int) (k : Nat) (p : Int) : List Int := l.set k (l.getD k 0 + p)
/-- the first of the least of the first n + 1 -/
def lk (l : List Int) : Nat → Nat
  | 0 => 0
  | n + 1 => if l.getD n 0 < l.getD (lk l n) 0 then n else lk l n
def leastK (l : List Int) : Nat := lk l l.length
/-- the most of the first n, and none less than nothing -/
def mostN (l : List Int) : Nat → Int
  | 0 => 0
  | n + 1 => max (mostN l n) (l.getD n 0)
def mostV (l : List Int) : Int := mostN l l.length
def spreadV : List Int → List Int → List Nat
  | _, [] => []
  | l, p :: ps => leastK l :: spreadV (addAt l (leastK l) p) ps
def loadsOf : List Int → List (Nat × Int) → List Int
  | l, [] => l
  | l, z :: zs => loadsOf (addAt l z.1 z.2) zs
def bestK (f : Nat → Int) : Nat → Int
  | 0 => -1
  | n + 1 => if bestK f n < 0 ∨ f n < bestK f n then f n else bestK f n
def bestV : List Int → List Int → Int
  | [], l => mostV l
  | p :: ps, l => bestK (fun k => bestV ps (addAt l k p)) l.length

theorem addAt_len (l : List Int) (k : Nat) (p : Int) : (addAt l k p).length = l.length := by unfold addAt; rw [List.length_set]
theorem addAt_at (l : List Int) (k : Nat) (p : Int) (i : Nat) (hk : k < l.length) : (addAt l k p).getD i 0 = l.getD i 0 + if k = i then p else 0 := by
  unfold addAt
  by_cases e : k = i
  · subst e
    rw [if_pos rfl, List.getD_eq_getElem?_getD, List.getElem?_set, if_pos rfl, if_pos hk]; rfl
  · rw [if_neg e, Int.add_zero, List.getD_eq_getElem?_getD, List.getElem?_set, if_neg e, List.getD_eq_getElem?_getD]
theorem lk_lt {l : List Int} (h : 0 < l.length) : ∀ n, n ≤ l.length → lk l n < l.length
  | 0, _ => h
  | n + 1, hn => by
    have := lk_lt h n (by omega)
    unfold lk; split <;> omega
theorem lk_le {l : List Int} : ∀ n, ∀ i, i < n → l.getD (lk l n) 0 ≤ l.getD i 0
  | 0, i, h => by omega
  | n + 1, i, h => by
    have ih := lk_le (l := l) n
    unfold lk
    by_cases c : l.getD n 0 < l.getD (lk l n) 0
    · rw [if_pos c]
      by_cases e : i = n
      · subst e; omega
      · have := ih i (by omega); omega
    · rw [if_neg c]
      by_cases e : i = n
      · subst e; omega
      · exact ih i (by omega)
theorem lk_bound {l : List Int} : ∀ n, lk l n = 0 ∨ lk l n < n
  | 0 => Or.inl rfl
  | n + 1 => by
    have := lk_bound (l := l) n
    unfold lk; split <;> omega
theorem lk_first {l : List Int} : ∀ n, ∀ i, i < lk l n → l.getD (lk l n) 0 < l.getD i 0
  | 0, i, h => by unfold lk at h; omega
  | n + 1, i, h => by
    have ih := lk_first (l := l) n
    have hle := lk_le (l := l) n
    unfold lk at h ⊢
    by_cases c : l.getD n 0 < l.getD (lk l n) 0
    · rw [if_pos c] at h ⊢
      have := hle i h; omega
    · rw [if_neg c] at h ⊢
      exact ih i h
theorem leastK_lt {l : List Int} (h : 0 < l.length) : leastK l < l.length := lk_lt h _ (Nat.le_refl _)
theorem leastK_le {l : List Int} {i : Nat} (h : i < l.length) : l.getD (leastK l) 0 ≤ l.getD i 0 := lk_le _ _ h
theorem leastK_first {l : List Int} {i : Nat} (h : i < leastK l) : l.getD (leastK l) 0 < l.getD i 0 := lk_first _ _ h
/-- it is the only one of that kind -/
theorem leastK_only {l : List Int} {k : Nat} (hk : k < l.length) (h1 : ∀ i, i < l.length → l.getD k 0 ≤ l.getD i 0) (h2 : ∀ i, i < k → l.getD k 0 < l.getD i 0) : k = leastK l := by
  have a1 := leastK_lt (l := l) (by omega)
  have a2 := h1 _ a1
  have a3 := leastK_le (l := l) hk
  by_cases c : k < leastK l
  · have := leastK_first c; omega
  · by_cases d : leastK l < k
    · have := h2 _ d; omega
    · omega

theorem mostN_le {l : List Int} {T : Int} : ∀ n, (mostN l n ≤ T ↔ 0 ≤ T ∧ ∀ i, i < n → l.getD i 0 ≤ T)
  | 0 => by simp [mostN]
  | n + 1 => by
    show max (mostN l n) (l.getD n 0) ≤ T ↔ _
    have ih := mostN_le (l := l) (T := T) n
    constructor
    · intro h
      have h1 := ih.1 (by omega)
      refine ⟨h1.1, fun i hi => ?_⟩
      by_cases e : i = n
      · subst e; omega
      · exact h1.2 i (by omega)
    · rintro ⟨h1, h2⟩
      have := ih.2 ⟨h1, fun i hi => h2 i (by omega)⟩
      have := h2 n (by omega)
      omega
theorem mostN_nonneg (l : List Int) : ∀ n, 0 ≤ mostN l n
  | 0 => Int.le_refl _
  | n + 1 => by
    have := mostN_nonneg l n
    show 0 ≤ max (mostN l n) (l.getD n 0)
    omega
theorem mostV_le {l : List Int} {T : Int} : mostV l ≤ T ↔ 0 ≤ T ∧ ∀ i, i < l.length → l.getD i 0 ≤ T := mostN_le _
theorem mostV_nonneg (l : List Int) : 0 ≤ mostV l := mostN_nonneg l _

theorem loadsOf_len : ∀ (zs : List (Nat × Int)) (l : List Int), (loadsOf l zs).length = l.length
  | [], _ => rfl
  | z :: zs, l => by
    show (loadsOf (addAt l z.1 z.2) zs).length = l.length
    rw [loadsOf_len zs, addAt_len]
theorem loadsOf_at : ∀ (zs : List (Nat × Int)) (l : List Int), (∀ z ∈ zs, z.1 < l.length) → ∀ i, (loadsOf l zs).getD i 0 = l.getD i 0 + ld zs i
  | [], l, _, i => by show l.getD i 0 = l.getD i 0 + 0; omega
  | z :: zs, l, h, i => by
    show (loadsOf (addAt l z.1 z.2) zs).getD i 0 = l.getD i 0 + ((if z.1 = i then z.2 else 0) + ld zs i)
    rw [loadsOf_at zs _ (fun y hy => by rw [addAt_len]; exact h y (List.mem_cons_of_mem _ hy)), addAt_at _ _ _ _ (h z List.mem_cons_self)]
    omega
theorem loadsOf_app : ∀ (a b : List (Nat × Int)) (l : List Int), loadsOf l (a ++ b) = loadsOf (loadsOf l a) b
  | [], _, _ => rfl
  | z :: a, b, l => loadsOf_app a b (addAt l z.1 z.2)
theorem rep_at (m i : Nat) : (List.replicate m (0 : Int)).getD i 0 = 0 := by
  rw [List.getD_eq_getElem?_getD, List.getElem?_replicate]
  split <;> rfl
theorem loads_ld {m : Nat} {zs : List (Nat × Int)} (h : ∀ z ∈ zs, z.1 < m) (i : Nat) : (loadsOf (List.replicate m 0) zs).getD i 0 = ld zs i := by
  rw [loadsOf_at zs _ (by rwa [List.length_replicate]), rep_at, Int.zero_add]

theorem spreadV_len : ∀ (ps l : List Int), (spreadV l ps).length = ps.length
  | [], _ => rfl
  | p :: ps, l => by show (spreadV _ ps).length + 1 = ps.length + 1; rw [spreadV_len ps]
theorem spreadV_lt : ∀ (ps l : List Int), 0 < l.length → ∀ k ∈ spreadV l ps, k < l.length
  | [], _, _, _, h => by cases h
  | p :: ps, l, h0, k, h => by
    rcases List.mem_cons.1 h with rfl | h
    · exact leastK_lt h0
    · have := spreadV_lt ps (addAt l (leastK l) p) (by rw [addAt_len]; exact h0) k h
      rwa [addAt_len] at this
theorem greedy_go {m : Nat} (h1 : 1 ≤ m) : ∀ (ps l : List Int) (zs : List (Nat × Int)), l.length = m → Greedy m zs → (∀ i, l.getD i 0 = ld zs i) →
    Greedy m (zs ++ (spreadV l ps).zip ps)
  | [], l, zs, _, h, _ => by show Greedy m (zs ++ []); rwa [List.append_nil]
  | p :: ps, l, zs, hl, h, e => by
    show Greedy m (zs ++ (leastK l, p) :: (spreadV (addAt l (leastK l) p) ps).zip ps)
    have hk : leastK l < l.length := leastK_lt (by omega)
    have := greedy_go h1 ps (addAt l (leastK l) p) (zs ++ [(leastK l, p)]) (by rw [addAt_len]; exact hl)
      (Greedy.snoc zs _ p h (by omega) (fun i hi => by rw [← e, ← e]; exact leastK_le (by omega)))
      (fun i => by rw [addAt_at _ _ _ _ hk, ld_snoc, e])
    rwa [List.append_assoc] at this
/-- what is spread is given to the one that has least -/
theorem greedy_spread {m : Nat} (h1 : 1 ≤ m) (ps : List Int) : Greedy m ((spreadV (List.replicate m 0) ps).zip ps) :=
  greedy_go h1 ps (List.replicate m 0) [] (List.length_replicate ..) Greedy.nil (fun i => by rw [rep_at]; rfl)
theorem zip_snd : ∀ (ks : List Nat) (ps : List Int), ks.length = ps.length → (ks.zip ps).map (·.2) = ps
  | [], [], _ => rfl
  | k :: ks, p :: ps, h => by
    show p :: (ks.zip ps).map (·.2) = p :: ps
    rw [zip_snd ks ps (by simpa using h)]
  | [], _ :: _, h => by cases h
  | _ :: _, [], h => by cases h

theorem bestK_spec {f : Nat → Int} : ∀ n, (∀ k, k < n → 0 ≤ f k) → (1 ≤ n → 0 ≤ bestK f n) ∧ ∀ T, 0 ≤ T → 1 ≤ n → (bestK f n ≤ T ↔ ∃ k, k < n ∧ f k ≤ T)
  | 0, _ => ⟨fun h => by omega, fun _ _ h => by omega⟩
  | n + 1, h => by
    obtain ⟨i1, i2⟩ := bestK_spec n (fun k hk => h k (by omega))
    have hn := h n (by omega)
    have e : bestK f (n + 1) = if bestK f n < 0 ∨ f n < bestK f n then f n else bestK f n := rfl
    refine ⟨fun _ => by rw [e]; split <;> omega, fun T hT _ => ?_⟩
    by_cases h0 : n = 0
    · subst h0
      have : bestK f 1 = f 0 := by
        rw [e]; exact if_pos (Or.inl (show (-1 : Int) < 0 by omega))
      rw [this]
      exact ⟨fun h => ⟨0, by omega, h⟩, fun ⟨k, hk, h⟩ => by
        have : k = 0 := by omega
        rwa [this] at h⟩
    · have j1 := i1 (by omega)
      have j2 := i2 T hT (by omega)
      rw [e]
      constructor
      · intro hh
        by_cases c : f n ≤ T
        · exact ⟨n, by omega, c⟩
        · have : bestK f n ≤ T := by split at hh <;> omega
          obtain ⟨k, hk, hk'⟩ := j2.1 this
          exact ⟨k, by omega, hk'⟩
      · rintro ⟨k, hk, hk'⟩
        by_cases c : k = n
        · subst c; split <;> omega
        · have := j2.2 ⟨k, by omega, hk'⟩
          split <;> omega

/-- the best from l on: the least T that something fits -/
theorem bestV_spec : ∀ (ps l : List Int), 1 ≤ l.length → 0 ≤ bestV ps l ∧ ∀ T, 0 ≤ T →
    (bestV ps l ≤ T ↔ ∃ zs : List (Nat × Int), zs.map (·.2) = ps ∧ (∀ z ∈ zs, z.1 < l.length) ∧ ∀ k, k < l.length → l.getD k 0 + ld zs k ≤ T)
  | [], l, h => by
    refine ⟨mostV_nonneg l, fun T hT => ?_⟩
    show mostV l ≤ T ↔ _
    rw [mostV_le]
    constructor
    · rintro ⟨_, h2⟩
      exact ⟨[], rfl, fun z hz => (List.not_mem_nil hz).elim, fun k hk => by
        have := h2 k hk
        show l.getD k 0 + 0 ≤ T
        omega⟩
    · rintro ⟨zs, e, _, h2⟩
      obtain rfl := List.map_eq_nil_iff.1 e
      refine ⟨hT, fun i hi => ?_⟩
      have : l.getD i 0 + 0 ≤ T := h2 i hi
      omega
  | p :: ps, l, h => by
    have ih := fun k => bestV_spec ps (addAt l k p) (by rw [addAt_len]; exact h)
    obtain ⟨b1, b2⟩ := bestK_spec (f := fun k => bestV ps (addAt l k p)) l.length (fun k _ => (ih k).1)
    refine ⟨b1 h, fun T hT => ?_⟩
    show bestK (fun k => bestV ps (addAt l k p)) l.length ≤ T ↔ _
    rw [b2 T hT h]
    constructor
    · rintro ⟨k, hk, hb⟩
      obtain ⟨zs, e, hz, hl⟩ := ((ih k).2 T hT).1 hb
      rw [addAt_len] at hz hl
      refine ⟨(k, p) :: zs, by rw [List.map_cons, e], fun z hz' => ?_, fun i hi => ?_⟩
      · rcases List.mem_cons.1 hz' with rfl | hz'
        · exact hk
        · exact hz z hz'
      · have := hl i hi
        rw [addAt_at _ _ _ _ hk] at this
        show l.getD i 0 + ((if k = i then p else 0) + ld zs i) ≤ T
        omega
    · rintro ⟨zs, e, hz, hl⟩
      cases zs with
      | nil => cases e
      | cons z zs =>
        rw [List.map_cons, List.cons.injEq] at e
        have hk := hz z List.mem_cons_self
        refine ⟨z.1, hk, ((ih z.1).2 T hT).2 ⟨zs, e.2, fun y hy => by rw [addAt_len]; exact hz y (List.mem_cons_of_mem _ hy), fun i hi => ?_⟩⟩
        rw [addAt_len] at hi
        have h1 : l.getD i 0 + ((if z.1 = i then z.2 else 0) + ld zs i) ≤ T := hl i hi
        have h2 : z.2 = p := e.1
        rw [addAt_at _ _ _ _ hk, ← h2]
        omega

def optV (ps : List Int) (m : Nat) : Int := bestV ps (List.replicate m 0)
theorem optV_nonneg (ps : List Int) {m : Nat} (h : 1 ≤ m) : 0 ≤ optV ps m := (bestV_spec ps _ (by rwa [List.length_replicate])).1
theorem optV_le {ps : List Int} {m : Nat} (h : 1 ≤ m) {T : Int} (hT : 0 ≤ T) : optV ps m ≤ T ↔ Fits ps m T := by
  have := (bestV_spec ps (List.replicate m 0) (by rwa [List.length_replicate])).2 T hT
  rw [List.length_replicate] at this
  unfold optV
  rw [this]
  constructor
  · rintro ⟨zs, e, h1, h2⟩
    exact ⟨zs, e, h1, fun k hk => by have := h2 k hk; rw [rep_at] at this; omega⟩
  · rintro ⟨zs, e, h1, h2⟩
    exact ⟨zs, e, h1, fun k hk => by have := h2 k hk; rw [rep_at]; omega⟩
theorem optV_fits (ps : List Int) {m : Nat} (h : 1 ≤ m) : Fits ps m (optV ps m) := (optV_le h (optV_nonneg ps h)).1 (Int.le_refl _)

/-- the most of a spreading over m machines -/
def spanV (zs : List (Nat × Int)) (m : Nat) : Int := mostV (loadsOf (List.replicate m 0) zs)
theorem spanV_le {zs : List (Nat × Int)} {m : Nat} (h : ∀ z ∈ zs, z.1 < m) {T : Int} : spanV zs m ≤ T ↔ 0 ≤ T ∧ ∀ i, i < m → ld zs i ≤ T := by
  unfold spanV
  rw [mostV_le, loadsOf_len, List.length_replicate]
  constructor
  · rintro ⟨h1, h2⟩; exact ⟨h1, fun i hi => by rw [← loads_ld h]; exact h2 i hi⟩
  · rintro ⟨h1, h2⟩; exact ⟨h1, fun i hi => by rw [loads_ld h]; exact h2 i hi⟩
theorem spanV_nonneg (zs : List (Nat × Int)) (m : Nat) : 0 ≤ spanV zs m := mostV_nonneg _
theorem opt_span {zs : List (Nat × Int)} {m : Nat} (h1 : 1 ≤ m) (h : ∀ z ∈ zs, z.1 < m) : optV (zs.map (·.2)) m ≤ spanV zs m :=
  (optV_le h1 (spanV_nonneg zs m)).2 ⟨zs, rfl, h, ((spanV_le h).1 (Int.le_refl _)).2⟩
/-- the most is at one of them, or nothing -/
theorem spanV_at {zs : List (Nat × Int)} {m : Nat} (h1 : 1 ≤ m) (h : ∀ z ∈ zs, z.1 < m) (h0 : ∀ z ∈ zs, 0 ≤ z.2) : ∃ i, i < m ∧ spanV zs m = ld zs i := by
  have h2 := ((spanV_le h (T := spanV zs m)).1 (Int.le_refl _))
  by_cases c : ∃ i, i < m ∧ spanV zs m = ld zs i
  · exact c
  · exfalso
    have h3 : spanV zs m ≤ spanV zs m - 1 := (spanV_le h).2 ⟨by
      have a1 := h2.2 0 (by omega)
      have a2 := ld_nonneg h0 0
      have a3 : spanV zs m ≠ ld zs 0 := fun e => c ⟨0, by omega, e⟩
      omega, fun i hi => by
      have a1 := h2.2 i hi
      have a3 : spanV zs m ≠ ld zs i := fun e => c ⟨i, hi, e⟩
      omega⟩
    omega
theorem opt_perm {ps qs : List Int} {m : Nat} (h1 : 1 ≤ m) (h : ps.Perm qs) : optV ps m = optV qs m := by
  have a := (optV_le (ps := qs) h1 (optV_nonneg ps h1)).2 ((optV_fits ps h1).perm h)
  have b := (optV_le (ps := ps) h1 (optV_nonneg qs h1)).2 ((optV_fits qs h1).perm h.symm)
  omega

/-- GRAHAM, of any order -/
theorem graham_two {ps : List Int} {m : Nat} (h1 : 1 ≤ m) (h0 : ∀ p ∈ ps, 0 ≤ p) :
    m * spanV ((spreadV (List.replicate m 0) ps).zip ps) m ≤ (2 * m - 1) * optV ps m := by
  have hg := greedy_spread h1 ps
  have e := zip_snd _ ps (spreadV_len ps (List.replicate m 0))
  have hz : ∀ z ∈ (spreadV (List.replicate m 0) ps).zip ps, z.2 ∈ ps := fun z hz => by rw [← e]; exact List.mem_map.2 ⟨z, hz, rfl⟩
  obtain ⟨i, hi, hs⟩ := spanV_at h1 hg.mem (fun z h => h0 _ (hz z h))
  have hb := (optV_fits ps h1).bd h0
  have h2 := graham_list hg h1 (optV_nonneg ps h1) (fun z h => ⟨h0 _ (hz z h), hb.1 _ (hz z h)⟩) i hi
  rw [e] at h2
  rw [hs]
  have h3 := hb.2
  rw [Int.sub_mul, Int.one_mul] at h2
  rw [Int.sub_mul, Int.one_mul, Int.mul_assoc]
  omega
/-- GRAHAM, the longest first -/
theorem graham_third {ps : List Int} {m : Nat} (h1 : 1 ≤ m) (h0 : ∀ p ∈ ps, 0 ≤ p) (hd : ps.Pairwise (fun a b => b ≤ a)) :
    3 * (m * spanV ((spreadV (List.replicate m 0) ps).zip ps) m) ≤ (4 * m - 1) * optV ps m := by
  have hg := greedy_spread h1 ps
  have e := zip_snd _ ps (spreadV_len ps (List.replicate m 0))
  have hz : ∀ z ∈ (spreadV (List.replicate m 0) ps).zip ps, z.2 ∈ ps := fun z hz => by rw [← e]; exact List.mem_map.2 ⟨z, hz, rfl⟩
  obtain ⟨i, hi, hs⟩ := spanV_at h1 hg.mem (fun z h => h0 _ (hz z h))
  rw [hs]
  exact graham_longest hg h1 (fun z h => h0 _ (hz z h)) (by rw [e]; exact hd) (by rw [e]; exact optV_fits ps h1) i hi

/-- the bound is no more than the best -/
theorem bound_opt {ps : List Int} {m : Nat} (h1 : 1 ≤ m) (h0 : ∀ p ∈ ps, 0 ≤ p) : (∀ p ∈ ps, p ≤ optV ps m) ∧ (sumP ps + m - 1) / m ≤ optV ps m := by
  have hb := (optV_fits ps h1).bd h0
  refine ⟨hb.1, ?_⟩
  have hm : (0 : Int) < m := by omega
  have h2 := hb.2
  have h3 : sumP ps + m - 1 < (optV ps m + 1) * m := by
    rw [Int.add_mul, Int.one_mul, Int.mul_comm]; omega
  have := Int.ediv_lt_of_lt_mul hm h3
  omega
theorem opt_more {ps : List Int} {m : Nat} (h1 : 1 ≤ m) : optV ps (m + 1) ≤ optV ps m := by
  have hn := optV_nonneg ps h1
  refine (optV_le (by omega) hn).2 ?_
  obtain ⟨zs, e, hz, hl⟩ := optV_fits ps h1
  refine ⟨zs, e, fun z h => by have := hz z h; omega, fun k hk => ?_⟩
  by_cases c : k = m
  · have : ∀ zs : List (Nat × Int), (∀ z ∈ zs, z.1 < m) → ld zs m = 0 := by
      intro zs
      induction zs with
      | nil => exact fun _ => rfl
      | cons y ys ih =>
        intro h
        show (if y.1 = m then y.2 else 0) + ld ys m = 0
        have h1 := h y List.mem_cons_self
        rw [if_neg (by omega), ih (fun z hz => h z (List.mem_cons_of_mem _ hz))]; rfl
    rw [c, this zs hz]; exact hn
  · exact hl k (by omega)
theorem opt_one {ps : List Int} (h0 : ∀ p ∈ ps, 0 ≤ p) : optV ps 1 = sumP ps := by
  have key : ∀ zs : List (Nat × Int), (∀ z ∈ zs, z.1 < 1) → ld zs 0 = sumP (zs.map (·.2)) := by
    intro zs
    induction zs with
    | nil => exact fun _ => rfl
    | cons y ys ih =>
      intro h
      show (if y.1 = 0 then y.2 else 0) + ld ys 0 = y.2 + sumP (ys.map (·.2))
      have h1 := h y List.mem_cons_self
      rw [if_pos (by omega), ih (fun z hz => h z (List.mem_cons_of_mem _ hz))]
  have s0 : ∀ qs : List Int, (∀ p ∈ qs, 0 ≤ p) → 0 ≤ sumP qs := by
    intro qs
    induction qs with
    | nil => exact fun _ => Int.le_refl _
    | cons y ys ih =>
      intro h
      have a1 := h y List.mem_cons_self
      have a2 := ih (fun z hz => h z (List.mem_cons_of_mem _ hz))
      show 0 ≤ y + sumP ys
      omega
  have a : sumP ps ≤ optV ps 1 := by
    obtain ⟨zs, e, hz, hl⟩ := optV_fits ps (Nat.le_refl 1)
    have := hl 0 (by omega)
    rwa [key zs hz, e] at this
  have b : optV ps 1 ≤ sumP ps := by
    refine (optV_le (Nat.le_refl 1) (s0 ps h0)).2 ⟨ps.map (fun p => (0, p)), by rw [List.map_map]; exact List.map_id ps, fun z hz => ?_, fun k hk => ?_⟩
    · obtain ⟨p, _, rfl⟩ := List.mem_map.1 hz; exact Nat.zero_lt_one
    · obtain rfl : k = 0 := by omega
      rw [key _ (fun z hz => by obtain ⟨p, _, rfl⟩ := List.mem_map.1 hz; exact Nat.zero_lt_one), List.map_map]
      show sumP (List.map id ps) ≤ _
      rw [List.map_id]; exact Int.le_refl _
  omega
theorem opt_less {p : Int} {ps : List Int} {m : Nat} (h1 : 1 ≤ m) (h0 : 0 ≤ p) : optV ps m ≤ optV (p :: ps) m ∧ optV (p :: ps) m ≤ optV ps m + p := by
  constructor
  · refine (optV_le h1 (optV_nonneg _ h1)).2 ?_
    obtain ⟨zs, e, hz, hl⟩ := optV_fits (p :: ps) h1
    cases zs with
    | nil => cases e
    | cons z zs =>
      rw [List.map_cons, List.cons.injEq] at e
      refine ⟨zs, e.2, fun y hy => hz y (List.mem_cons_of_mem _ hy), fun k hk => ?_⟩
      have a1 : (if z.1 = k then z.2 else 0) + ld zs k ≤ _ := hl k hk
      have a2 : z.2 = p := e.1
      split at a1 <;> omega
  · have hn := optV_nonneg ps h1
    refine (optV_le h1 (by omega)).2 ?_
    obtain ⟨zs, e, hz, hl⟩ := optV_fits ps h1
    refine ⟨(0, p) :: zs, by rw [List.map_cons, e], fun y hy => ?_, fun k hk => ?_⟩
    · rcases List.mem_cons.1 hy with rfl | hy
      · exact h1
      · exact hz y hy
    · have a1 := hl k hk
      show (if 0 = k then p else 0) + ld zs k ≤ _
      split <;> omega

end Go.Proofs.Ytmaojjjdepgaeaa
