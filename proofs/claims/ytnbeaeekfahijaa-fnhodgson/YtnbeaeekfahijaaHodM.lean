/- Moore's and Hodgson's way, step by step: plain mathematics. -/
import Derived.Test.YtnbeaeekfahijaaOptV
namespace Go.Proofs.Ytnbeaeekfahijaa
open Go.RowKit Go.Sort

/-- number i is the one with the greatest Long (of alike ones the greatest Id) -/
def IsFar (M : List Jb) (i : Nat) : Prop := i < M.length ∧ ∀ k, k < M.length → ltLong (jg M i) (jg M k) = false

theorem JsOk.sub {ls ys : List Jb} (h : JsOk ls) (hs : ys.Sublist ls) : JsOk ys := by
  refine ⟨Nat.le_trans hs.length_le h.n, fun i hi => ⟨?_, fun m hm e => ?_⟩⟩
  · obtain ⟨j, hj, e⟩ := List.getElem_of_mem (hs.subset (List.getElem_mem hi))
    have := (h.ok j hj).1
    rw [jg_get hj, e, ← jg_get hi] at this
    exact this
  · have hm' : m < ys.length := by omega
    rw [jg_get hi, jg_get hm'] at e
    have e2 := h.inj (hs.subset (List.getElem_mem hm')) (hs.subset (List.getElem_mem hi)) e
    have nd := (js_nodup h).sublist hs
    have := (List.getElem_inj nd).1 e2
    omega

theorem IsFar.uniq {M : List Jb} (hj : JsOk M) {i j : Nat} (h : IsFar M i) (g : IsFar M j) : i = j := by
  have mi : jg M i ∈ M := by rw [jg_get h.1]; exact List.getElem_mem h.1
  have mj : jg M j ∈ M := by rw [jg_get g.1]; exact List.getElem_mem g.1
  have e := antiLong M hj _ mi _ mj (h.2 j g.1) (g.2 i h.1)
  rw [jg_get h.1, jg_get g.1] at e
  exact (List.getElem_inj (js_nodup hj)).1 e

/-- k of them are taken: those that are left, those that were put aside -/
def HSt (E : List Jb) : Nat → List Jb → List Jb → Prop
  | 0, K, R => K = [] ∧ R = []
  | k + 1, K', R' => ∃ K R, HSt E k K R ∧
      ((tot (K ++ [jg E k]) ≤ (jg E k).due ∧ K' = K ++ [jg E k] ∧ R' = R) ∨
       (¬ tot (K ++ [jg E k]) ≤ (jg E k).due ∧ ∃ i, IsFar (K ++ [jg E k]) i ∧ K' = (K ++ [jg E k]).eraseIdx i ∧ R' = R ++ [jg (K ++ [jg E k]) i]))

theorem erase_perm {M : List Jb} {i : Nat} (h : i < M.length) : (M.eraseIdx i ++ [jg M i]).Perm M := by
  have e : M.take i ++ jg M i :: M.drop (i + 1) = M := by rw [jg_get h, List.getElem_cons_drop, List.take_append_drop]
  have h1 : (M.take i ++ M.drop (i + 1) ++ [jg M i]).Perm (M.take i ++ jg M i :: M.drop (i + 1)) := by
    rw [List.append_assoc]
    exact List.Perm.append_left _ List.perm_append_comm
  rw [e] at h1
  rwa [List.eraseIdx_eq_take_drop_succ]

theorem HSt.perm {E : List Jb} : ∀ {k : Nat} {K R : List Jb}, HSt E k K R → k ≤ E.length → (K ++ R).Perm (E.take k)
  | 0, K, R, ⟨h1, h2⟩, _ => by rw [h1, h2]; simp
  | k + 1, K', R', ⟨K, R, h, hc⟩, hk => by
    have ih := h.perm (by omega)
    rw [take_one (by omega)]
    have base : (K ++ [jg E k] ++ R).Perm (E.take k ++ [jg E k]) := by
      refine List.Perm.trans ?_ (ih.append_right [jg E k])
      rw [List.append_assoc, List.append_assoc]
      exact List.Perm.append_left _ List.perm_append_comm
    rcases hc with ⟨_, rfl, rfl⟩ | ⟨_, i, hi, rfl, rfl⟩
    · exact base
    · refine List.Perm.trans ?_ base
      have := (erase_perm hi.1).append_right R
      refine List.Perm.trans ?_ this
      rw [List.append_assoc]
      exact List.Perm.append_left _ List.perm_append_comm

theorem HSt.len {E : List Jb} {k : Nat} {K R : List Jb} (h : HSt E k K R) (hk : k ≤ E.length) : K.length + R.length = k := by
  have := (h.perm hk).length_eq
  simp at this; omega

theorem HSt.jsK {E : List Jb} (hj : JsOk E) {k : Nat} {K R : List Jb} (h : HSt E k K R) (hk : k ≤ E.length) : JsOk K ∧ JsOk R ∧ (k < E.length → JsOk (K ++ [jg E k])) := by
  have hp := h.perm hk
  have hj1 : JsOk (K ++ R) := (hj.sub (List.take_sublist k E)).perm hp
  refine ⟨hj1.sub (List.sublist_append_left _ _), hj1.sub (List.sublist_append_right _ _), fun hlt => ?_⟩
  have h2 : (K ++ [jg E k] ++ R).Perm (E.take (k + 1)) := by
    rw [take_one hlt]
    refine List.Perm.trans ?_ (hp.append_right [jg E k])
    rw [List.append_assoc, List.append_assoc]
    exact List.Perm.append_left _ List.perm_append_comm
  exact ((hj.sub (List.take_sublist (k + 1) E)).perm h2).sub (List.sublist_append_left _ _)

theorem HSt.uniq {E : List Jb} (hj : JsOk E) : ∀ {k : Nat} {K R K2 R2 : List Jb}, HSt E k K R → HSt E k K2 R2 → k ≤ E.length → K = K2 ∧ R = R2
  | 0, _, _, _, _, ⟨h1, h2⟩, ⟨g1, g2⟩, _ => by rw [h1, h2, g1, g2]; exact ⟨rfl, rfl⟩
  | k + 1, K', R', K2', R2', ⟨K, R, h, hc⟩, ⟨K2, R2, g, gc⟩, hk => by
    obtain ⟨rfl, rfl⟩ := h.uniq hj g (by omega)
    have hjM := (h.jsK hj (by omega)).2.2 (by omega)
    rcases hc with ⟨c1, rfl, rfl⟩ | ⟨c1, i, hi, rfl, rfl⟩
    · rcases gc with ⟨_, rfl, rfl⟩ | ⟨c2, _⟩
      · exact ⟨rfl, rfl⟩
      · exact absurd c1 c2
    · rcases gc with ⟨c2, _⟩ | ⟨_, i2, hi2, rfl, rfl⟩
      · exact absurd c2 c1
      · obtain rfl := hi.uniq hjM hi2
        exact ⟨rfl, rfl⟩

theorem HSt.kept {E : List Jb} (hj : JsOk E) (hs : E.Pairwise (fun x y => ltDue y x = false)) : ∀ {k : Nat} {K R : List Jb}, HSt E k K R → k ≤ E.length → Kept (E.take k) K
  | 0, K, R, ⟨h1, _⟩, _ => by rw [h1]; simpa using kept_nil
  | k + 1, K', R', ⟨K, R, h, hc⟩, hk => by
    have ih := h.kept hj hs (by omega)
    have hlt : k < E.length := by omega
    have nE := js_nodup hj
    have hn : (E.take k ++ [jg E k]).Nodup := by rw [← take_one hlt]; exact nE.sublist (List.take_sublist _ _)
    have et : tot (K ++ [jg E k]) = tot K + (jg E k).long := by rw [tot_app]; show tot K + ((jg E k).long + 0) = _; omega
    have hJ0 : 1 ≤ (jg E k).long := (jok_bd (hj.ok k hlt).1).1
    rw [take_one hlt]
    rcases hc with ⟨c1, rfl, rfl⟩ | ⟨c1, i, hi, rfl, rfl⟩
    · exact kept_add ih hn (by omega)
    · have hM : (K ++ [jg E k]).take i ++ jg (K ++ [jg E k]) i :: (K ++ [jg E k]).drop (i + 1) = K ++ [jg E k] := by
        rw [jg_get hi.1, List.getElem_cons_drop, List.take_append_drop]
      rw [List.eraseIdx_eq_take_drop_succ]
      refine kept_drop hM ih hn (fun x hx => ?_) hJ0 (by omega) (fun x hx => ?_)
      · obtain ⟨m, hm, rfl⟩ := List.getElem_of_mem hx
        have hm' : m < k := by simp at hm; omega
        have := sorted_due hs hm' hlt
        rw [jg_get (show m < E.length by omega)] at this
        simpa using this
      · obtain ⟨m, hm, rfl⟩ := List.getElem_of_mem hx
        have h1 := hi.2 m hm
        rw [jg_get hm] at h1
        unfold ltLong at h1
        simp only [decide_eq_false_iff_not] at h1
        omega
where
  sorted_due {E : List Jb} (hs : E.Pairwise (fun x y => ltDue y x = false)) {i j : Nat} (hij : i < j) (hj : j < E.length) : (jg E i).due ≤ (jg E j).due := by
    have := (List.pairwise_iff_getElem.1 hs) i j (by omega) hj hij
    rw [← jg_get hj, ← jg_get (show i < E.length by omega)] at this
    unfold ltDue at this
    simp only [decide_eq_false_iff_not] at this
    omega

theorem tot_erase {M : List Jb} {i : Nat} (h : i < M.length) : tot (M.eraseIdx i) = tot M - (jg M i).long := by
  have e : M = M.take i ++ jg M i :: M.drop (i + 1) := by rw [jg_get h, List.getElem_cons_drop, List.take_append_drop]
  have h1 : tot M = tot (M.take i) + ((jg M i).long + tot (M.drop (i + 1))) := by
    have := congrArg tot e
    rw [tot_app] at this
    exact this
  rw [List.eraseIdx_eq_take_drop_succ, tot_app]
  omega
theorem tot_bd : ∀ {ls : List Jb}, (∀ x ∈ ls, jok x = true) → 0 ≤ tot ls ∧ tot ls ≤ 10000 * (ls.length : Int)
  | [], _ => by simp [tot]
  | a :: r, h => by
    have h1 := tot_bd (ls := r) (fun x hx => h x (List.mem_cons_of_mem _ hx))
    have h2 := jok_bd (h a List.mem_cons_self)
    show 0 ≤ a.long + tot r ∧ a.long + tot r ≤ 10000 * ((r.length + 1 : Nat) : Int)
    omega

/-- what Hodgson's order of a list is -/
def IsHod (ls ys : List Jb) : Prop := (jsB ls = false ∧ ys = []) ∨ (jsB ls = true ∧ ∃ E K R R', IsBy ltDue ls E ∧ HSt E E.length K R ∧ IsBy ltDue R R' ∧ ys = K ++ R')

theorem IsHod.uniq {ls ys zs : List Jb} (h : IsHod ls ys) (g : IsHod ls zs) : ys = zs := by
  rcases h with ⟨h0, rfl⟩ | ⟨h0, E, K, R, R', h1, h2, h3, rfl⟩
  · rcases g with ⟨_, rfl⟩ | ⟨g0, _⟩
    · rfl
    · rw [h0] at g0; cases g0
  · rcases g with ⟨g0, _⟩ | ⟨_, E2, K2, R2, R2', g1, g2, g3, rfl⟩
    · rw [h0] at g0; cases g0
    · obtain rfl := h1.uniq antiDue g1
      obtain ⟨rfl, rfl⟩ := h2.uniq ((jsB_t h0).perm (h1.perm h0).1) g2 (Nat.le_refl _)
      obtain rfl := h3.uniq antiDue g3
      rfl

theorem IsHod.perm {ls ys : List Jb} (h : IsHod ls ys) (hq : jsB ls = true) : ys.Perm ls := by
  rcases h with ⟨h0, _⟩ | ⟨h0, E, K, R, R', h1, h2, h3, rfl⟩
  · rw [hq] at h0; cases h0
  · have hE := (h1.perm h0).1
    have hj := (jsB_t h0).perm hE
    have hp := h2.perm (Nat.le_refl _)
    rw [List.take_length] at hp
    have hR := (h3.perm (jsB_mk (h2.jsK hj (Nat.le_refl _)).2.1)).1
    exact ((List.Perm.append_left K hR).trans hp).trans hE

theorem IsHod.wf {ls ys : List Jb} (h : IsHod ls ys) (wf : ∀ i, i < ls.length → jwf (jg ls i)) : ∀ i, i < ys.length → jwf (jg ys i) := by
  intro i hi
  rcases hq : jsB ls with _ | _
  · rcases h with ⟨_, rfl⟩ | ⟨h0, _⟩
    · simp at hi
    · rw [hq] at h0; cases h0
  · have hmem : jg ys i ∈ ls := (h.perm hq).subset (by rw [jg_get hi]; exact List.getElem_mem hi)
    obtain ⟨j, hjl, e⟩ := List.getElem_of_mem hmem
    rw [← e, ← jg_get hjl]
    exact wf j hjl

/-- no order has less tardy ones -/
theorem IsHod.best {ls ys zs : List Jb} (h : IsHod ls ys) (hq : jsB ls = true) (hz : zs.Perm ls) : ¬ sumV gTardy zs < sumV gTardy ys := by
  have hys := h.perm hq
  unfold sumV
  rw [if_pos (jsB_perm hq hz), if_pos (jsB_perm hq hys)]
  rcases h with ⟨h0, _⟩ | ⟨h0, E, K, R, R', h1, h2, h3, rfl⟩
  · rw [hq] at h0; cases h0
  · obtain ⟨hE, hs⟩ := h1.perm h0
    have hj := (jsB_t h0).perm hE
    have hk := h2.kept hj hs (Nat.le_refl _)
    rw [List.take_length] at hk
    have := hodgson_best (jsB_t h0) hE hs hk hys hz
    omega

end Go.Proofs.Ytnbeaeekfahijaa
