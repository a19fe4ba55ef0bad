/- Several texts in one. -/
import Derived.Test.YtmaojjjdepgaeaaTaskQ
import Derived.Test.YtmaojjjdepgaeaaHeaps
/- The earliest due first (chapter 9): what Earliest tells, hour by hour; that it keeps all dues where nothing is crowded: plain mathematics. -/
namespace Go.Proofs.Ytmaojjjdepgaeaa

/-- the best of the first k at time t, r being left -/
def earB (ls : List Jb) (r : Nat → Int) (t : Nat) : Nat → Option Nat
  | 0 => none
  | k + 1 =>
    if r k = 0 ∨ (t : Int) < (jg ls k).at_ then earB ls r t k
    else match earB ls r t k with
      | none => some k
      | some b => if (jg ls k).due < (jg ls b).due ∨ ((jg ls k).due = (jg ls b).due ∧ (jg ls k).id < (jg ls b).id) then some k else some b
theorem earB_none {ls : List Jb} {r : Nat → Int} {t : Nat} : ∀ {k : Nat}, earB ls r t k = none → ∀ i, i < k → r i = 0 ∨ (t : Int) < (jg ls i).at_
  | 0, _, i, hi => by omega
  | k + 1, h, i, hi => by
    unfold earB at h
    by_cases c : r k = 0 ∨ (t : Int) < (jg ls k).at_
    · rw [if_pos c] at h
      by_cases e : i = k
      · subst e; exact c
      · exact earB_none h i (by omega)
    · rw [if_neg c] at h
      rcases hb : earB ls r t k with _ | b
      · rw [hb] at h; cases h
      · rw [hb] at h
        simp only at h
        split at h <;> cases h
/-- i is not behind j in the order of dues, then ids -/
def dle (ls : List Jb) (i j : Nat) : Prop := (jg ls i).due < (jg ls j).due ∨ ((jg ls i).due = (jg ls j).due ∧ (jg ls i).id ≤ (jg ls j).id)
theorem earB_some {ls : List Jb} {r : Nat → Int} {t : Nat} : ∀ {k i : Nat}, earB ls r t k = some i → i < k ∧ r i ≠ 0 ∧ (jg ls i).at_ ≤ t ∧ ∀ j, j < k → r j ≠ 0 → (jg ls j).at_ ≤ t → dle ls i j
  | 0, i, h => by cases h
  | k + 1, i, h => by
    unfold earB at h
    by_cases c : r k = 0 ∨ (t : Int) < (jg ls k).at_
    · rw [if_pos c] at h
      obtain ⟨h1, h2, h3, h4⟩ := earB_some h
      refine ⟨by omega, h2, h3, fun j hj hr ha => ?_⟩
      by_cases e : j = k
      · subst e; omega
      · exact h4 j (by omega) hr ha
    · rw [if_neg c] at h
      rcases hb : earB ls r t k with _ | b
      · rw [hb] at h
        simp only [Option.some.injEq] at h
        subst h
        refine ⟨by omega, by omega, by omega, fun j hj hr ha => ?_⟩
        by_cases e : j = k
        · subst e; exact Or.inr ⟨rfl, Int.le_refl _⟩
        · have := earB_none hb j (by omega); omega
      · rw [hb] at h
        simp only at h
        obtain ⟨h1, h2, h3, h4⟩ := earB_some hb
        by_cases d : (jg ls k).due < (jg ls b).due ∨ ((jg ls k).due = (jg ls b).due ∧ (jg ls k).id < (jg ls b).id)
        · rw [if_pos d] at h
          simp only [Option.some.injEq] at h
          subst h
          refine ⟨by omega, by omega, by omega, fun j hj hr ha => ?_⟩
          by_cases e : j = k
          · subst e; exact Or.inr ⟨rfl, Int.le_refl _⟩
          · have := h4 j (by omega) hr ha
            unfold dle at *; omega
        · rw [if_neg d] at h
          simp only [Option.some.injEq] at h
          subst h
          refine ⟨by omega, h2, h3, fun j hj hr ha => ?_⟩
          by_cases e : j = k
          · subst e; unfold dle; omega
          · exact h4 j (by omega) hr ha

/-- what is left of each at time t -/
def remT (ls : List Jb) : Nat → Nat → Int
  | 0, i => (jg ls i).long
  | t + 1, i => remT ls t i - if earB ls (remT ls t) t ls.length = some i then 1 else 0
/-- who is worked at at time t -/
def bstT (ls : List Jb) (t : Nat) : Option Nat := earB ls (remT ls t) t ls.length
def outT (ls : List Jb) (t : Nat) : Int := match bstT ls t with
  | none => 0
  | some i => (jg ls i).id
def sumT (ls : List Jb) (t : Nat) : Int := sumN (remT ls t) ls.length
theorem horn_of {ls : List Jb} (h : TsOk ls) (T : Nat) : Horn ls.length (fun i => (jg ls i).at_) (fun i => (jg ls i).due) (fun i => (jg ls i).long) (bstT ls) (remT ls) T := by
  refine ⟨fun i hi => ?_, fun i hi => ?_, fun _ _ => rfl, fun _ _ _ _ => rfl, fun t _ hb i hi hr => ?_, fun t i _ hb => ?_⟩
  · have := h.bd hi; omega
  · have := h.bd hi; omega
  · have := earB_none hb i hi; omega
  · obtain ⟨h1, h2, h3, h4⟩ := earB_some hb
    refine ⟨h1, h2, h3, fun k hk hr ha => ?_⟩
    have := h4 k hk hr ha
    unfold dle at this; omega
theorem sumT_step {ls : List Jb} (h : TsOk ls) (t : Nat) : (bstT ls t = none ∧ sumT ls (t + 1) = sumT ls t) ∨ ∃ i, bstT ls t = some i ∧ i < ls.length ∧ 0 < remT ls t i ∧ sumT ls (t + 1) = sumT ls t - 1 := by
  rcases hb : bstT ls t with _ | i
  · refine Or.inl ⟨rfl, sumN_same _ fun i hi => ?_⟩
    have hb' : earB ls (remT ls t) t ls.length = none := hb
    show remT ls t i - _ = _
    rw [hb']; simp
  · have hb' : earB ls (remT ls t) t ls.length = some i := hb
    obtain ⟨h1, h2, _⟩ := earB_some hb'
    have hnn := (horn_of h t).nn h1 t (Nat.le_refl _)
    refine Or.inr ⟨i, rfl, h1, by omega, ?_⟩
    have := sumN_one (f := remT ls t) (g := remT ls (t + 1)) (c := -1) (k := i) ls.length h1 (fun j hj hne => by
      show remT ls t j - _ = _
      rw [hb', if_neg (fun e => hne (Option.some.inj e).symm)]; omega) (by
      show remT ls t i - _ = _
      rw [hb', if_pos rfl]; omega)
    unfold sumT; omega
theorem sumT_nn {ls : List Jb} (h : TsOk ls) (t : Nat) : 0 ≤ sumT ls t := sumN_nn _ fun _ hi => (horn_of h t).nn hi t (Nat.le_refl _)
/-- where something is left and all have come, somebody is worked at -/
theorem bst_late {ls : List Jb} (h : TsOk ls) {t : Nat} (ht : 200 ≤ t) (hs : 0 < sumT ls t) : bstT ls t ≠ none := fun hb => by
  have h1 : ∀ i, i < ls.length → remT ls t i ≤ 0 := fun i hi => by
    have := earB_none hb i hi
    have := h.bd hi
    omega
  have := sumN_le (f := remT ls t) (g := fun _ => 0) ls.length h1
  have h0 : sumN (fun _ => 0) ls.length = 0 := by
    have := sumN_nn (f := fun _ => 0) ls.length (fun _ _ => Int.le_refl _)
    have h2 := sumN_le (f := fun _ => (0:Int)) (g := remT ls t) ls.length (fun i hi => (horn_of h t).nn hi t (Nat.le_refl _))
    have h3 : ∀ n, sumN (fun _ => 0) n = 0 := by
      intro n
      induction n with
      | zero => rfl
      | succ n ih => simp only [sumN, ih]; rfl
    exact h3 _
  unfold sumT at hs
  omega
/-- what Earliest tells: the work of the hours till all is done -/
def IsEar (ls : List Jb) (zs : List Int) : Prop := (tsB ls = false ∧ zs = []) ∨ (tsB ls = true ∧ ∃ T, (∀ t, t < T → 0 < sumT ls t) ∧ sumT ls T = 0 ∧ zs = (List.range T).map (outT ls))
theorem IsEar.uniq {ls : List Jb} {ys zs : List Int} (h : IsEar ls ys) (g : IsEar ls zs) : ys = zs := by
  rcases h with ⟨h0, rfl⟩ | ⟨h0, T, h1, h2, rfl⟩
  · rcases g with ⟨_, rfl⟩ | ⟨g0, _⟩
    · rfl
    · rw [h0] at g0; cases g0
  · rcases g with ⟨g0, _⟩ | ⟨_, S, g1, g2, rfl⟩
    · rw [h0] at g0; cases g0
    · have e : T = S := by
        rcases Nat.lt_trichotomy T S with c | c | c
        · have := g1 T c; omega
        · exact c
        · have := h1 S c; omega
      rw [e]

end Go.Proofs.Ytmaojjjdepgaeaa

/- The earliest due first (chapter 9): the rows that Earliest of the model keeps, hour by hour; how long it goes on: plain mathematics. -/
namespace Go.Proofs.Ytmaojjjdepgaeaa

def remL (ls : List Jb) (t : Nat) : List Int := (List.range ls.length).map (remT ls t)
theorem remL_len (ls : List Jb) (t : Nat) : (remL ls t).length = ls.length := by simp [remL]
theorem remL_at {ls : List Jb} {t i : Nat} (hi : i < ls.length) : zg (remL ls t) i = remT ls t i := by
  unfold zg remL
  simp [hi]
theorem remL_0 (ls : List Jb) : remL ls 0 = ls.map (·.long) := by
  apply List.ext_getElem (by simp [remL])
  intro i h1 h2
  have hi : i < ls.length := by simpa [remL] using h1
  simp [remL, remT, jg, hi]
theorem remL_none {ls : List Jb} {t : Nat} (h : bstT ls t = none) : remL ls (t + 1) = remL ls t := by
  have h' : earB ls (remT ls t) t ls.length = none := h
  unfold remL
  apply List.map_congr_left
  intro i _
  show remT ls t i - _ = _
  rw [h']; simp
theorem remL_some {ls : List Jb} {t i : Nat} (h : bstT ls t = some i) : remL ls (t + 1) = (remL ls t).set i (remT ls t i - 1) := by
  have h' : earB ls (remT ls t) t ls.length = some i := h
  apply List.ext_getElem (by simp [remL])
  intro k h1 h2
  rw [List.getElem_set]
  simp only [remL, List.getElem_map, List.getElem_range]
  show remT ls t k - (if earB ls (remT ls t) t ls.length = some k then 1 else 0) = _
  rw [h']
  by_cases e : i = k
  · subst e; simp
  · rw [if_neg (fun e' => e (Option.some.inj e')), if_neg e]; omega
def earL (ls : List Jb) (t : Nat) : List Int := (List.range t).map (outT ls)
theorem earL_len (ls : List Jb) (t : Nat) : (earL ls t).length = t := by simp [earL]
theorem earL_succ (ls : List Jb) (t : Nat) : earL ls (t + 1) = earL ls t ++ [outT ls t] := by simp [earL, List.range_succ]
theorem earL_0 (ls : List Jb) : earL ls 0 = [] := rfl
theorem outT_none {ls : List Jb} {t : Nat} (h : bstT ls t = none) : outT ls t = 0 := by unfold outT; rw [h]
theorem outT_some {ls : List Jb} {t i : Nat} (h : bstT ls t = some i) : outT ls t = (jg ls i).id := by unfold outT; rw [h]

/-- the best as the loop keeps it: -1 is none -/
def bI : Option Nat → Int
  | none => -1
  | some i => i
theorem bI_none {o : Option Nat} (h : bI o < 0) : o = none := by cases o with | none => rfl | some i => exact absurd h (by simp only [bI]; omega)
theorem bI_some {o : Option Nat} (h : ¬ bI o < 0) : ∃ i : Nat, o = some i ∧ bI o = i := by cases o with | none => exact absurd (by simp only [bI]; omega) h | some i => exact ⟨i, rfl, rfl⟩
theorem earB_lt {ls : List Jb} {r : Nat → Int} {t k i : Nat} (h : earB ls r t k = some i) : i < k := (earB_some h).1
theorem earB_skip {ls : List Jb} {r : Nat → Int} {t k : Nat} (h : r k = 0 ∨ (t : Int) < (jg ls k).at_) : earB ls r t (k + 1) = earB ls r t k := by rw [earB, if_pos h]
theorem earB_first {ls : List Jb} {r : Nat → Int} {t k : Nat} (h : r k ≠ 0) (h' : ¬ (t : Int) < (jg ls k).at_) (e : earB ls r t k = none) : earB ls r t (k + 1) = some k := by rw [earB, if_neg (by omega), e]
theorem earB_less {ls : List Jb} {r : Nat → Int} {t k b : Nat} (h : r k ≠ 0) (h' : ¬ (t : Int) < (jg ls k).at_) (e : earB ls r t k = some b) (d : (jg ls k).due < (jg ls b).due ∨ ((jg ls k).due = (jg ls b).due ∧ (jg ls k).id < (jg ls b).id)) : earB ls r t (k + 1) = some k := by rw [earB, if_neg (by omega), e]; simp only; rw [if_pos d]
theorem earB_keep {ls : List Jb} {r : Nat → Int} {t k b : Nat} (h : r k ≠ 0) (h' : ¬ (t : Int) < (jg ls k).at_) (e : earB ls r t k = some b) (d : ¬ ((jg ls k).due < (jg ls b).due ∨ ((jg ls k).due = (jg ls b).due ∧ (jg ls k).id < (jg ls b).id))) : earB ls r t (k + 1) = some b := by rw [earB, if_neg (by omega), e]; simp only; rw [if_neg d]

/-- how far it is from the end at most -/
def earM (ls : List Jb) (t : Nat) : Nat := (200 - t) + (sumT ls t).toNat
theorem earM_step {ls : List Jb} (h : TsOk ls) {t : Nat} (hs : 0 < sumT ls t) : earM ls (t + 1) < earM ls t := by
  unfold earM
  rcases sumT_step h t with ⟨hb, e⟩ | ⟨i, hb, _, _, e⟩
  · have : ¬ 200 ≤ t := fun c => bst_late h c hs hb
    rw [e]; omega
  · rw [e]; omega
theorem earM_all {ls : List Jb} (h : TsOk ls) : ∀ t, (∀ s, s < t → 0 < sumT ls s) → t + earM ls t ≤ earM ls 0
  | 0, _ => by omega
  | t + 1, hs => by
    have := earM_all h t fun s q => hs s (by omega)
    have := earM_step h (hs t (by omega))
    omega
/-- the sum as the first loop adds it up -/
theorem sumT_0 (ls : List Jb) : sumT ls 0 = sumN (fun i => (jg ls i).long) ls.length := rfl

end Go.Proofs.Ytmaojjjdepgaeaa

/- The earliest due first, by a heap of what is open (chapter 9): what the program keeps, hour by hour: plain mathematics. -/
namespace Go.Proofs.Ytmaojjjdepgaeaa

/-- job number i, as long as is left of it at time t -/
def rj (ls : List Jb) (t i : Nat) : Jb := { jg ls i with long := remT ls t i }
/-- H is open, C is to come, at time t -/
structure EU (ls : List Jb) (t : Nat) (H C : List Jb) : Prop where
  all : ∀ j, (j ∈ H ∨ j ∈ C) ↔ ∃ i, i < ls.length ∧ 0 < remT ls t i ∧ j = rj ls t i
  nodup : ((H ++ C).map (·.id)).Nodup
  open_ : ∀ j ∈ H, j.at_ ≤ t
  rises : C.Pairwise fun x y => x.at_ ≤ y.at_
  len : H.length + C.length ≤ ls.length

theorem ids_inj {ls : List Jb} (h : TsOk ls) {i j : Nat} (hi : i < ls.length) (hj : j < ls.length) (e : (jg ls i).id = (jg ls j).id) : i = j := by
  rcases Nat.lt_trichotomy i j with c | c | c
  · exact absurd e ((h.jobs.ok j hj).2 i c)
  · exact c
  · exact absurd e.symm ((h.jobs.ok i hi).2 j c)
theorem EU.start {ls ys : List Jb} (h : TsOk ls) (hp : ys.Perm ls) (hs : ys.Pairwise fun x y => x.at_ ≤ y.at_) : EU ls 0 [] ys := by
  refine ⟨fun j => ⟨fun hj => ?_, ?_⟩, ?_, fun j hj => absurd hj (by simp), hs, by rw [hp.length_eq]; simp⟩
  · rcases hj with hj | hj
    · exact absurd hj (by simp)
    · obtain ⟨i, hi, rfl⟩ := List.getElem_of_mem (hp.subset hj)
      have := h.bd hi
      refine ⟨i, hi, by show 0 < (jg ls i).long; omega, ?_⟩
      rw [← jg_get hi]; rfl
  · rintro ⟨i, hi, _, rfl⟩
    right
    refine hp.symm.subset ?_
    show jg ls i ∈ ls
    rw [jg_get hi]; exact List.getElem_mem _
  · rw [List.nil_append]
    refine ((hp.map _).nodup_iff).2 ?_
    rw [List.nodup_iff_pairwise_ne, List.pairwise_iff_getElem]
    intro i j hi hj hij e
    simp only [List.length_map] at hi hj
    simp only [List.getElem_map] at e
    rw [← jg_get hi, ← jg_get hj] at e
    exact (h.jobs.ok j hj).2 i hij e
theorem EU.push {ls H G C : List Jb} {t : Nat} {x : Jb} (h : EU ls t H (x :: C)) (hx : x.at_ ≤ t) (hp : G.Perm (x :: H)) : EU ls t G C := by
  refine ⟨fun j => ?_, ?_, fun j hj => ?_, (List.pairwise_cons.1 h.rises).2, by
    have := h.len; have := hp.length_eq
    simp only [List.length_cons] at *; omega⟩
  · rw [← h.all j, hp.mem_iff, List.mem_cons, List.mem_cons]
    constructor
    · rintro ((e | e) | e)
      · exact Or.inr (Or.inl e)
      · exact Or.inl e
      · exact Or.inr (Or.inr e)
    · rintro (e | e | e)
      · exact Or.inl (Or.inr e)
      · exact Or.inl (Or.inl e)
      · exact Or.inr e
  · have e : (G ++ C).Perm (H ++ x :: C) := (hp.append_right C).trans (by
      rw [List.cons_append]; exact List.perm_middle.symm)
    exact ((e.map _).nodup_iff).2 h.nodup
  · rcases List.mem_cons.1 (hp.subset hj) with rfl | hj
    · exact hx
    · exact h.open_ j hj
theorem EU.next {ls H C : List Jb} {t : Nat} (h : EU ls t H C) (hc : ∀ x, C.head? = some x → ¬ x.at_ ≤ t) : ∀ j ∈ C, (t : Int) < j.at_ := by
  intro j hj
  cases C with
  | nil => exact absurd hj (by simp)
  | cons x C =>
    have h1 := hc x rfl
    rcases List.mem_cons.1 hj with rfl | hj
    · omega
    · have := (List.pairwise_cons.1 h.rises).1 j hj
      omega
theorem rem_nn {ls : List Jb} (h : TsOk ls) (t : Nat) {i : Nat} (hi : i < ls.length) : 0 ≤ remT ls t i := (horn_of h t).nn hi t (Nat.le_refl _)
theorem sumN_pos {f : Nat → Int} : ∀ {n k : Nat}, (∀ i, i < n → 0 ≤ f i) → k < n → 0 < f k → 0 < sumN f n
  | 0, k, _, hk, _ => by omega
  | n + 1, k, h0, hk, hp => by
    rw [show sumN f (n + 1) = sumN f n + f n from rfl]
    have hn := h0 n (by omega)
    by_cases e : k = n
    · subst e
      have := sumN_nn (f := f) k (fun i hi => h0 i (by omega))
      omega
    · have := sumN_pos (fun i hi => h0 i (by omega)) (show k < n by omega) hp
      omega
theorem sumN_0 {f : Nat → Int} : ∀ {n : Nat}, (∀ i, i < n → f i = 0) → sumN f n = 0
  | 0, _ => rfl
  | n + 1, h => by
    rw [show sumN f (n + 1) = sumN f n + f n from rfl, h n (by omega), sumN_0 (fun i hi => h i (by omega))]; rfl
theorem EU.left {ls H C : List Jb} {t : Nat} (h : EU ls t H C) (ho : TsOk ls) (hn : H ≠ [] ∨ C ≠ []) : 0 < sumT ls t := by
  have : ∃ j, j ∈ H ∨ j ∈ C := by
    rcases hn with hn | hn
    · exact ⟨_, Or.inl (List.head_mem hn)⟩
    · exact ⟨_, Or.inr (List.head_mem hn)⟩
  obtain ⟨j, hj⟩ := this
  obtain ⟨i, hi, hr, _⟩ := (h.all j).1 hj
  exact sumN_pos (fun k hk => rem_nn ho t hk) hi hr
theorem EU.done {ls : List Jb} {t : Nat} (h : EU ls t [] []) (ho : TsOk ls) : sumT ls t = 0 := by
  refine sumN_0 fun i hi => ?_
  have h0 := rem_nn ho t hi
  by_cases hr : 0 < remT ls t i
  · have := (h.all _).2 ⟨i, hi, hr, rfl⟩
    simp at this
  · omega
/-- nobody is open: nobody is worked at -/
theorem EU.idle {ls C : List Jb} {t : Nat} (h : EU ls t [] C) (ho : TsOk ls) (hc : ∀ j ∈ C, (t : Int) < j.at_) : bstT ls t = none ∧ EU ls (t + 1) [] C := by
  have hb : bstT ls t = none := by
    rcases hb : bstT ls t with _ | i
    · rfl
    · obtain ⟨h1, h2, h3, _⟩ := earB_some (show earB ls (remT ls t) t ls.length = some i from hb)
      have h0 := rem_nn ho t h1
      rcases (h.all _).2 ⟨i, h1, by omega, rfl⟩ with hj | hj
      · exact absurd hj (by simp)
      · have := hc _ hj
        have e : (rj ls t i).at_ = (jg ls i).at_ := rfl
        omega
  refine ⟨hb, ?_⟩
  have hr : ∀ i, remT ls (t + 1) i = remT ls t i := fun i => by
    show remT ls t i - _ = _
    rw [show earB ls (remT ls t) t ls.length = none from hb]; simp
  have hj : ∀ i, rj ls (t + 1) i = rj ls t i := fun i => by unfold rj; rw [hr]
  exact ⟨fun j => by rw [h.all j]; simp only [hr, hj], h.nodup, fun j hj => absurd hj (by simp), h.rises, h.len⟩
/-- the first of those that are open is worked at -/
theorem EU.work {ls H C r : List Jb} {t : Nat} {f : Jb} (h : EU ls t H C) (ho : TsOk ls) (hc : ∀ j ∈ C, (t : Int) < j.at_) (hp : (f :: r).Perm H) (hf : ∀ j ∈ H, mle f j) :
    1 ≤ f.long ∧ f.long ≤ 50 ∧ outT ls t = f.id ∧ (∀ G : List Jb, 0 < f.long - 1 → G.Perm ({ f with long := f.long - 1 } :: r) → EU ls (t + 1) G C) ∧ (∀ G : List Jb, ¬ 0 < f.long - 1 → G.Perm r → EU ls (t + 1) G C) := by
  have hfH : f ∈ H := hp.subset List.mem_cons_self
  obtain ⟨i, hi, hr, hfi⟩ := (h.all f).1 (Or.inl hfH)
  have hat := h.open_ f hfH
  have hid : f.id = (jg ls i).id := by rw [hfi]; rfl
  have hdue : f.due = (jg ls i).due := by rw [hfi]; rfl
  have hlong : f.long = remT ls t i := by rw [hfi]; rfl
  have hata : f.at_ = (jg ls i).at_ := by rw [hfi]; rfl
  have hb : bstT ls t = some i := by
    rcases hb : bstT ls t with _ | b
    · have := earB_none (show earB ls (remT ls t) t ls.length = none from hb) i hi
      omega
    · obtain ⟨h1, h2, h3, h4⟩ := earB_some (show earB ls (remT ls t) t ls.length = some b from hb)
      have h0 := rem_nn ho t h1
      have hbi := h4 i hi (by omega) (by omega)
      have hbH : rj ls t b ∈ H := by
        rcases (h.all _).2 ⟨b, h1, by omega, rfl⟩ with hj | hj
        · exact hj
        · have := hc _ hj
          have e : (rj ls t b).at_ = (jg ls b).at_ := rfl
          omega
      have hib := hf _ hbH
      have e1 : (rj ls t b).due = (jg ls b).due := rfl
      have e2 : (rj ls t b).id = (jg ls b).id := rfl
      unfold mle at hib
      unfold dle at hbi
      have : b = i := ids_inj ho h1 hi (by omega)
      rw [this]
  have hmono : ∀ s, remT ls s i ≤ (jg ls i).long := fun s => by
    induction s with
    | zero => exact Int.le_refl _
    | succ s ih =>
      have : remT ls (s + 1) i = remT ls s i - if earB ls (remT ls s) s ls.length = some i then 1 else 0 := rfl
      split at this <;> omega
  have hbd := ho.bd hi
  have hm := hmono t
  have hr2 : ∀ k, remT ls (t + 1) k = remT ls t k - if i = k then 1 else 0 := fun k => by
    show remT ls t k - (if earB ls (remT ls t) t ls.length = some k then 1 else 0) = _
    rw [show earB ls (remT ls t) t ls.length = some i from hb]
    by_cases e : i = k
    · subst e; simp
    · rw [if_neg (fun e' => e (Option.some.inj e')), if_neg e]
  have hrj : ∀ k, i ≠ k → rj ls (t + 1) k = rj ls t k := fun k hk => by
    unfold rj; rw [hr2, if_neg hk, Int.sub_zero]
  have hrji : rj ls (t + 1) i = { f with long := f.long - 1 } := by
    rw [hfi]; unfold rj; rw [hr2, if_pos rfl]
  have hnd : ((f :: r ++ C).map (·.id)).Nodup := (((hp.append_right C).map _).nodup_iff).2 h.nodup
  rw [List.cons_append, List.map_cons, List.nodup_cons] at hnd
  obtain ⟨hnf, hnd⟩ := hnd
  have hne : ∀ k, k < ls.length → (rj ls t k ∈ r ∨ rj ls t k ∈ C) → i ≠ k := fun k hk hm e => by
    subst e
    refine hnf (List.mem_map.2 ⟨rj ls t i, List.mem_append.2 hm, ?_⟩)
    rw [hid]; rfl
  have hmem : ∀ j, (j ∈ r ∨ j ∈ C) ↔ ∃ k, k < ls.length ∧ i ≠ k ∧ 0 < remT ls (t + 1) k ∧ j = rj ls (t + 1) k := fun j => by
    constructor
    · intro hj
      have hj' : j ∈ H ∨ j ∈ C := by
        rcases hj with hj | hj
        · exact Or.inl (hp.subset (List.mem_cons_of_mem _ hj))
        · exact Or.inr hj
      obtain ⟨k, hk, hrk, rfl⟩ := (h.all j).1 hj'
      have := hne k hk hj
      exact ⟨k, hk, this, by rw [hr2, if_neg this]; omega, (hrj k this).symm⟩
    · rintro ⟨k, hk, hik, hrk, rfl⟩
      rw [hr2, if_neg hik, Int.sub_zero] at hrk
      rw [hrj k hik]
      rcases (h.all _).2 ⟨k, hk, hrk, rfl⟩ with hj | hj
      · rcases List.mem_cons.1 (hp.symm.subset hj) with e | hj
        · exfalso
          have : (jg ls k).id = (jg ls i).id := by
            have e2 : (rj ls t k).id = f.id := by rw [e]
            rw [← hid]; exact e2
          exact hik (ids_inj ho hi hk this.symm)
        · exact Or.inl hj
      · exact Or.inr hj
  have hopen : ∀ j ∈ r, j.at_ ≤ ((t + 1 : Nat) : Int) := fun j hj => by
    have := h.open_ j (hp.subset (List.mem_cons_of_mem _ hj))
    push_cast; omega
  refine ⟨by omega, by omega, by rw [outT_some hb, hid], fun G hG hGp => ?_, fun G hG hGp => ?_⟩
  · refine ⟨fun j => ?_, ?_, fun j hj => ?_, h.rises, by
      have := h.len; have := hp.length_eq; have := hGp.length_eq
      simp only [List.length_cons] at *; omega⟩
    · constructor
      · intro hj
        have hj' : j = { f with long := f.long - 1 } ∨ (j ∈ r ∨ j ∈ C) := by
          rcases hj with hj | hj
          · rcases List.mem_cons.1 (hGp.subset hj) with e | e
            · exact Or.inl e
            · exact Or.inr (Or.inl e)
          · exact Or.inr (Or.inr hj)
        rcases hj' with e | hj'
        · exact ⟨i, hi, by rw [hr2, if_pos rfl]; omega, by rw [hrji]; exact e⟩
        · obtain ⟨k, hk, _, h1, h2⟩ := (hmem j).1 hj'
          exact ⟨k, hk, h1, h2⟩
      · rintro ⟨k, hk, hrk, rfl⟩
        by_cases e : i = k
        · subst e
          left
          rw [hrji]
          exact hGp.symm.subset List.mem_cons_self
        · rcases (hmem _).2 ⟨k, hk, e, hrk, rfl⟩ with hj | hj
          · exact Or.inl (hGp.symm.subset (List.mem_cons_of_mem _ hj))
          · exact Or.inr hj
    · refine (((hGp.append_right C).map _).nodup_iff).2 ?_
      rw [List.cons_append, List.map_cons, List.nodup_cons]
      exact ⟨hnf, hnd⟩
    · rcases List.mem_cons.1 (hGp.subset hj) with rfl | hj
      · show f.at_ ≤ _
        push_cast; omega
      · exact hopen j hj
  · refine ⟨fun j => ?_, ?_, fun j hj => hopen j (hGp.subset hj), h.rises, by
      have := h.len; have := hp.length_eq; have := hGp.length_eq
      simp only [List.length_cons] at *; omega⟩
    · rw [hGp.mem_iff, hmem j]
      constructor
      · rintro ⟨k, hk, _, h1, h2⟩
        exact ⟨k, hk, h1, h2⟩
      · rintro ⟨k, hk, h1, h2⟩
        refine ⟨k, hk, ?_, h1, h2⟩
        rintro rfl
        rw [hr2, if_pos rfl] at h1
        omega
    · exact (((hGp.append_right C).map _).nodup_iff).2 hnd

end Go.Proofs.Ytmaojjjdepgaeaa
