/- What Earliest tells is kept where nothing is crowded, and where something is, nothing is kept (chapter 9): plain mathematics. -/
import Derived.Test.YtmaojjjdepgaeaaEars
namespace Go.Proofs.Ytmaojjjdepgaeaa

theorem id_same {ls : List Jb} (hj : JsOk ls) {i k : Nat} (hi : i < ls.length) (hk : k < ls.length) (e : (jg ls i).id = (jg ls k).id) : i = k := by
  rcases Nat.lt_trichotomy i k with c | c | c
  · exact absurd e ((hj.ok k hk).2 i c)
  · exact c
  · exact absurd e.symm ((hj.ok i hi).2 k c)
theorem sumN_zero {f : Nat → Int} : ∀ n, (∀ i, i < n → 0 ≤ f i) → sumN f n = 0 → ∀ i, i < n → f i = 0
  | 0, _, _, i, hi => by omega
  | n + 1, h, h0, i, hi => by
    have h1 := sumN_nn (f := f) n fun i hi => h i (by omega)
    have h2 := h n (by omega)
    rw [sumN] at h0
    by_cases e : i = n
    · subst e; omega
    · exact sumN_zero n (fun i hi => h i (by omega)) (by omega) i (by omega)
/-- the hours told, one by one -/
theorem ear_at {ls : List Jb} {T t : Nat} (ht : t < T) : zg ((List.range T).map (outT ls)) t = outT ls t := by simp [zg, ht]
theorem outT_id {ls : List Jb} (h : TsOk ls) {t i : Nat} (hi : i < ls.length) : outT ls t = (jg ls i).id ↔ bstT ls t = some i := by
  have hb := h.bd hi
  rcases hw : bstT ls t with _ | k
  · rw [outT_none hw]
    exact ⟨fun e => by omega, fun e => by cases e⟩
  · rw [outT_some hw]
    have hk : k < ls.length := (earB_some hw).1
    exact ⟨fun e => by rw [id_same h.jobs hk hi e], fun e => by cases e; rfl⟩
theorem ear_hours {ls : List Jb} (h : TsOk ls) {T i : Nat} (hi : i < ls.length) : workN ((List.range T).map (outT ls)) (jg ls i).id T = hours (bstT ls) i T := by
  refine sumN_same T fun u hu => ?_
  rw [ear_at hu]
  have := outT_id h (t := u) hi
  by_cases c : bstT ls u = some i
  · rw [if_pos (this.2 c), if_pos c]
  · rw [if_neg fun e => c (this.1 e), if_neg c]
theorem ear_rem {ls : List Jb} (h : TsOk ls) {T : Nat} (h0 : sumT ls T = 0) : ∀ i, i < ls.length → remT ls T i = 0 := sumN_zero _ (fun _ hi => (horn_of h T).nn hi T (Nat.le_refl _)) h0
theorem ear_long {ls : List Jb} (h : TsOk ls) {T : Nat} (h0 : sumT ls T = 0) {i : Nat} (hi : i < ls.length) : hours (bstT ls) i T = (jg ls i).long := by
  have := (horn_of h T).hours_ hi T (Nat.le_refl _)
  have := ear_rem h h0 i hi
  omega

/-- HORN: where no At and no Due are crowded, Earliest keeps all -/
theorem ear_kept {ls : List Jb} {zs : List Int} (h : tsB ls = true) (he : IsEar ls zs) (hc : ∀ i k, i < ls.length → k < ls.length → demV ls (jg ls i).at_ (jg ls k).due ≤ max 0 ((jg ls k).due - (jg ls i).at_)) : kpB ls zs = true := by
  have ho := tsB_t h
  rcases he with ⟨h0, _⟩ | ⟨_, T, _, h2, rfl⟩
  · rw [h] at h0; cases h0
  · have H := horn_of ho T
    have K := H.keeps hc
    have hl : ((List.range T).map (outT ls)).length = T := by simp
    refine kpB_mk ⟨ho, fun t ht => ?_, fun i hi => ?_⟩
    · rw [hl] at ht
      rw [ear_at ht]
      rcases hw : bstT ls t with _ | i
      · exact Or.inl (outT_none hw)
      · obtain ⟨h3, _, h4, _⟩ := earB_some hw
        exact Or.inr ⟨i, h3, (outT_some hw).symm, h4, K t i ht hw⟩
    · rw [hl, ear_hours ho hi]; exact ear_long ho h2 hi

/-- where from a to b there is more to do than time, nothing is kept -/
theorem kept_none {ls : List Jb} {zs : List Int} {a b : Int} (h : max 0 (b - a) < demV ls a b) : kpB ls zs = false := kpB_no fun p => by
  have ho := p.tasks
  let W : Nat → Option Nat := fun t => @dite (Option Nat) (∃ i, i < ls.length ∧ (jg ls i).id = zg zs t) (Classical.propDecidable _) (fun h => some h.choose) (fun _ => none)
  have hW : ∀ t i, W t = some i → i < ls.length ∧ (jg ls i).id = zg zs t := fun t i e => by
    by_cases c : ∃ i, i < ls.length ∧ (jg ls i).id = zg zs t
    · have e1 : W t = some c.choose := dif_pos c
      rw [e1] at e
      cases e
      exact c.choose_spec
    · have e1 : W t = none := dif_neg c
      rw [e1] at e; cases e
  have hW2 : ∀ t i, i < ls.length → (jg ls i).id = zg zs t → W t = some i := fun t i hi e => by
    have c : ∃ i, i < ls.length ∧ (jg ls i).id = zg zs t := ⟨i, hi, e⟩
    have e1 : W t = some c.choose := dif_pos c
    rw [e1, id_same ho.jobs c.choose_spec.1 hi (c.choose_spec.2.trans e.symm)]
  have hlong : ∀ i, i < ls.length → hours W i zs.length = (jg ls i).long := fun i hi => by
    rw [← p.all i hi]
    refine sumN_same _ fun u _ => ?_
    by_cases c : zg zs u = (jg ls i).id
    · rw [if_pos (hW2 u i hi c.symm), if_pos c]
    · rw [if_neg fun e => c (hW u i e).2.symm, if_neg c]
  have hin : ∀ t i, t < zs.length → W t = some i → i < ls.length ∧ (jg ls i).at_ ≤ t ∧ (t : Int) < (jg ls i).due := fun t i ht e => by
    obtain ⟨hi, he⟩ := hW t i e
    have hb := ho.bd hi
    rcases p.one t ht with h0 | ⟨k, hk, h1, h2, h3⟩
    · omega
    · obtain rfl := id_same ho.jobs hk hi (h1.trans he.symm)
      exact ⟨hi, h2, h3⟩
  have := kept_fits (n := ls.length) (at_ := fun i => (jg ls i).at_) (due := fun i => (jg ls i).due) (long := fun i => (jg ls i).long) hlong hin a b
  unfold demV demK at h
  omega

/-- how many hours are worked -/
def cntN (zs : List Int) (t : Nat) : Int := sumN (fun u => if zg zs u = 0 then 0 else 1) t
def allN (ls : List Jb) (k : Nat) : Int := sumN (fun i => (jg ls i).long) k
theorem ear_cnt {ls : List Jb} {zs : List Int} (h : tsB ls = true) (he : IsEar ls zs) : cntN zs zs.length = allN ls ls.length := by
  have ho := tsB_t h
  rcases he with ⟨h0, _⟩ | ⟨_, T, _, h2, rfl⟩
  · rw [h] at h0; cases h0
  · have hl : ((List.range T).map (outT ls)).length = T := by simp
    rw [hl]
    have e1 : cntN ((List.range T).map (outT ls)) T = worked (bstT ls) T := sumN_same T fun u hu => by
      rw [ear_at hu]
      rcases hw : bstT ls u with _ | i
      · rw [outT_none hw]; rfl
      · have := (ho.bd (earB_some hw).1)
        rw [outT_some hw, if_neg (by omega), if_neg (by intro c; cases c)]
    have e2 := worked_hours (n := ls.length) (W := bstT ls) T fun u i _ e => (earB_some e).1
    rw [e1, e2]
    exact sumN_same _ fun i hi => ear_long ho h2 hi
theorem dem_all {ls : List Jb} (h : TsOk ls) : demV ls 0 200 = allN ls ls.length := demN_all fun i hi => by
  have := h.bd hi
  exact ⟨this.1, this.2.2.2.1⟩
theorem dem_le {ls : List Jb} (h : TsOk ls) (a b : Int) : demV ls a b ≤ allN ls ls.length := demN_le (fun i hi => by have := h.bd hi; omega) a b
theorem dem_apart {ls : List Jb} (h : TsOk ls) (plain : ∀ i, i < ls.length → (jg ls i).at_ ≤ (jg ls i).due) {a b m : Int} (h1 : a < m) (h2 : m < b) : demV ls a m + demV ls (m + 1) b ≤ demV ls a b := demN_apart (fun i hi => by have := h.bd hi; omega) plain h1 h2

end Go.Proofs.Ytmaojjjdepgaeaa
