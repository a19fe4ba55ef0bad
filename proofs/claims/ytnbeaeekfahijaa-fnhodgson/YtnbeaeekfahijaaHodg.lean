/- Moore and Hodgson: no feasible set is greater: the plain mathematics. -/
import Derived.Test.YtnbeaeekfahijaaOpt
namespace Go.Proofs.Ytnbeaeekfahijaa
open Go.RowKit Go.Sort

/-- done in this order from time s on, all are in time -/
abbrev Fe (s : Int) (l : List Jb) : Prop := allLe gLateness 0 s l

theorem fe_mono : ∀ (l : List Jb) (s t : Int), s ≤ t → Fe t l → Fe s l
  | [], _, _, _, h => h
  | j :: r, s, t, h, h1 => by
    obtain ⟨p1, p2⟩ : gLateness j (t + j.long) ≤ 0 ∧ Fe (t + j.long) r := h1
    refine ⟨?_, fe_mono r (s + j.long) (t + j.long) (by omega) p2⟩
    unfold gLateness at *; omega
theorem fe_last : ∀ (l : List Jb) (s : Int), l ≠ [] → Fe s l → ∃ x ∈ l, s + tot l ≤ x.due
  | [], _, h, _ => absurd rfl h
  | [j], s, _, h1 => by
    obtain ⟨p1, _⟩ : gLateness j (s + j.long) ≤ 0 ∧ True := h1
    refine ⟨j, List.mem_cons_self, ?_⟩
    unfold gLateness at p1
    show s + (j.long + 0) ≤ j.due
    omega
  | j :: k :: r, s, _, h1 => by
    obtain ⟨p1, p2⟩ : gLateness j (s + j.long) ≤ 0 ∧ Fe (s + j.long) (k :: r) := h1
    obtain ⟨x, hx, h2⟩ := fe_last (k :: r) (s + j.long) (by simp) p2
    refine ⟨x, List.mem_cons_of_mem _ hx, ?_⟩
    show s + (j.long + tot (k :: r)) ≤ x.due
    omega

open Classical in
/-- one more of a list is told -/
theorem filter_add {p : Jb → Bool} {e : Jb} (he : p e = false) : ∀ M : List Jb, M.Nodup → e ∈ M →
    (M.filter fun x => if x = e then true else p x).length = (M.filter p).length + 1 ∧ tot (M.filter fun x => if x = e then true else p x) = tot (M.filter p) + e.long
  | [], _, h => by cases h
  | a :: r, hn, h => by
    obtain ⟨h1, h2⟩ := List.nodup_cons.1 hn
    by_cases c : a = e
    · subst c
      have e1 : (r.filter fun x => if x = a then true else p x) = r.filter p := List.filter_congr fun x hx => by
        rw [if_neg]; intro e; subst e; exact h1 hx
      rw [List.filter_cons, List.filter_cons, if_pos (by simp), if_neg (by rw [he]; simp), e1]
      refine ⟨by simp, ?_⟩
      show a.long + tot (r.filter p) = _
      omega
    · have hr : e ∈ r := by
        rcases List.mem_cons.1 h with h | h
        · exact absurd h.symm c
        · exact h
      obtain ⟨i1, i2⟩ := filter_add he r h2 hr
      have hc : (if a = e then true else p a) = p a := if_neg c
      rw [List.filter_cons, List.filter_cons]
      simp only [hc]
      by_cases hp : p a = true
      · rw [if_pos hp, if_pos hp]
        refine ⟨by simp only [List.length_cons]; omega, ?_⟩
        show a.long + tot _ = a.long + tot _ + e.long
        omega
      · rw [if_neg hp, if_neg hp]
        exact ⟨i1, i2⟩

/-- within K there are as many as in S, together no longer -/
def Dom (K S : List Jb) : Prop := ∃ p : Jb → Bool, (K.filter p).length = S.length ∧ tot (K.filter p) ≤ tot S

theorem dom_len {K S : List Jb} (h : Dom K S) : S.length ≤ K.length := by
  obtain ⟨p, h1, _⟩ := h
  rw [← h1]; exact List.length_filter_le _ _

/-- what is kept of the first ones -/
structure Kept (P K : List Jb) : Prop where
  sub : K.Sublist P
  fe : Fe 0 K
  dom : ∀ S, S.Sublist P → Fe 0 S → Dom K S

theorem kept_nil : Kept [] [] := ⟨List.Sublist.refl _, trivial, fun S h _ => by
  have : S = [] := by cases h; rfl
  subst this
  exact ⟨fun _ => true, rfl, Int.le_refl _⟩⟩

theorem sub_one {S : List Jb} {J : Jb} (h : S.Sublist [J]) : S = [] ∨ S = [J] := by
  cases h with
  | cons _ h => left; cases h; rfl
  | cons_cons _ h => right; cases h; rfl

open Classical in
/-- as many of K and J as of any S among the first ones and J -/
theorem dom_more {P K : List Jb} {J : Jb} (h : Kept P K) (hn : (P ++ [J]).Nodup) {S : List Jb} (hs : S.Sublist (P ++ [J])) (hf : Fe 0 S) : Dom (K ++ [J]) S := by
  have hJ : J ∉ K := fun hk => by
    have := (List.nodup_append.1 hn).2.2
    exact this J (h.sub.subset hk) J (by simp) rfl
  obtain ⟨S1, S2, rfl, h1, h2⟩ := List.sublist_append_iff.1 hs
  have hf1 : Fe 0 S1 := ((allLe_app _ _ _ _ _).1 hf).1
  obtain ⟨p, p1, p2⟩ := h.dom S1 h1 hf1
  have e0 : ∀ b : Bool, (K.filter fun x => if x = J then b else p x) = K.filter p := fun b => List.filter_congr fun x hx => by
    rw [if_neg]; intro e; subst e; exact hJ hx
  rcases sub_one h2 with rfl | rfl
  · refine ⟨fun x => if x = J then false else p x, ?_, ?_⟩
    · rw [List.filter_append, e0]; simp [p1]
    · rw [List.filter_append, e0]; simpa using p2
  · refine ⟨fun x => if x = J then true else p x, ?_, ?_⟩
    · rw [List.filter_append, e0]; simp [p1]
    · rw [List.filter_append, e0, tot_app, tot_app]
      simp [tot]; exact p2

theorem kept_add {P K : List Jb} {J : Jb} (h : Kept P K) (hn : (P ++ [J]).Nodup) (hl : tot K + J.long ≤ J.due) : Kept (P ++ [J]) (K ++ [J]) := by
  refine ⟨List.Sublist.append h.sub (List.Sublist.refl _), (allLe_app _ _ _ _ _).2 ⟨h.fe, ?_, trivial⟩, fun S hs hf => dom_more h hn hs hf⟩
  unfold gLateness; omega

open Classical in
theorem kept_drop {P K A B : List Jb} {J l : Jb} (M : A ++ l :: B = K ++ [J]) (h : Kept P K) (hn : (P ++ [J]).Nodup) (hd : ∀ x ∈ P, x.due ≤ J.due) (hJ0 : 1 ≤ J.long)
    (hl : ¬ tot K + J.long ≤ J.due) (hmax : ∀ x ∈ K ++ [J], x.long ≤ l.long) : Kept (P ++ [J]) (A ++ B) := by
  have hsubM : (K ++ [J]).Sublist (P ++ [J]) := List.Sublist.append h.sub (List.Sublist.refl _)
  have hnM : (K ++ [J]).Nodup := hn.sublist hsubM
  have hAB : (A ++ B).Sublist (K ++ [J]) := by rw [← M]; exact List.Sublist.append (List.Sublist.refl _) (List.sublist_cons_self _ _)
  have hlM : l ∈ K ++ [J] := by rw [← M]; simp
  have hnM' : (A ++ l :: B).Nodup := by rw [M]; exact hnM
  have hlA : l ∉ A := fun hx => (List.nodup_append.1 hnM').2.2 l hx l (by simp) rfl
  have hlB : l ∉ B := (List.nodup_cons.1 (List.nodup_append.1 hnM').2.1).1
  refine ⟨hAB.trans hsubM, ?_, fun S hs hf => ?_⟩
  · rcases List.eq_nil_or_concat B with rfl | ⟨B', x, rfl⟩
    · have e := List.append_inj' M rfl
      rw [List.append_nil, e.1]; exact h.fe
    · have e : A ++ l :: B' = K ∧ [x] = [J] := List.append_inj' (by simpa using M) rfl
      obtain ⟨rfl, e2⟩ := e
      injection e2 with e2
      subst e2
      obtain ⟨f1, f2, f3⟩ : Fe 0 A ∧ gLateness l (0 + tot A + l.long) ≤ 0 ∧ Fe (0 + tot A + l.long) B' := (allLe_app _ _ _ _ _).1 h.fe
      obtain ⟨y, hy, hyd⟩ := fe_last _ 0 (by simp) h.fe
      have h1 := hd y (h.sub.subset hy)
      have h2 := hmax x (by simp)
      have h3 : 1 ≤ l.long := by omega
      have e3 : tot (A ++ l :: B') = tot A + (l.long + tot B') := tot_app _ _
      have f4 : Fe (0 + tot A) B' := fe_mono B' (0 + tot A) (0 + tot A + l.long) (by omega) f3
      have f5 : Fe (0 + tot A + tot B') [x] := ⟨by unfold gLateness; omega, trivial⟩
      have f6 : Fe (0 + tot A) (B' ++ [x]) := (allLe_app gLateness 0 B' [x] (0 + tot A)).2 ⟨f4, f5⟩
      rw [List.concat_eq_append]
      exact (allLe_app gLateness 0 A (B' ++ [x]) 0).2 ⟨f1, f6⟩
  · obtain ⟨p, p1, p2⟩ := dom_more h hn hs hf
    have fin : ∀ q : Jb → Bool, q l = false → ((K ++ [J]).filter q).length = S.length → tot ((K ++ [J]).filter q) ≤ tot S → Dom (A ++ B) S := fun q hq h1 h2 => by
      have e : (K ++ [J]).filter q = (A ++ B).filter q := by rw [← M, List.filter_append, List.filter_cons, if_neg (by rw [hq]; simp), List.filter_append]
      rw [e] at h1 h2
      exact ⟨q, h1, h2⟩
    by_cases hall : ∀ x ∈ K ++ [J], p x = true
    · exfalso
      rw [List.filter_eq_self.2 hall] at p1 p2
      have hne : S ≠ [] := fun e => by rw [e] at p1; simp at p1
      obtain ⟨y, hy, hyd⟩ := fe_last S 0 hne hf
      have h1 : y.due ≤ J.due := by
        rcases List.mem_append.1 (hs.subset hy) with h | h
        · exact hd y h
        · rw [List.mem_singleton.1 h]; exact Int.le_refl _
      have e3 : tot (K ++ [J]) = tot K + (J.long + 0) := tot_app _ _
      omega
    · by_cases hpl : p l = true
      · obtain ⟨e, he, hpe⟩ : ∃ e, e ∈ K ++ [J] ∧ p e = false := by
          refine Classical.byContradiction fun hc => hall fun x hx => ?_
          rcases hx2 : p x with _ | _
          · exact absurd ⟨x, hx, hx2⟩ hc
          · rfl
        have hne : e ≠ l := fun e' => by rw [e', hpl] at hpe; cases hpe
        let p0 : Jb → Bool := fun x => if x = l then false else p x
        have q0 : p0 l = false := if_pos rfl
        have q1 : p0 e = false := (if_neg hne).trans hpe
        obtain ⟨a1, a2⟩ := filter_add q0 (K ++ [J]) hnM hlM
        obtain ⟨b1, b2⟩ := filter_add q1 (K ++ [J]) hnM he
        have ep : (fun x => if x = l then true else p0 x) = p := by
          funext x
          by_cases c : x = l
          · rw [if_pos c, c, hpl]
          · rw [if_neg c]; exact if_neg c
        rw [ep] at a1 a2
        refine fin (fun x => if x = e then true else p0 x) ((if_neg (Ne.symm hne)).trans q0) (by omega) ?_
        have := hmax e he
        omega
      · exact fin p (by simpa using hpl) p1 p2

/-- those that are in time -/
def ont : Int → List Jb → List Jb
  | _, [] => []
  | s, j :: r => if s + j.long ≤ j.due then j :: ont (s + j.long) r else ont (s + j.long) r
theorem ont_sub : ∀ (l : List Jb) (s : Int), (ont s l).Sublist l
  | [], _ => List.Sublist.refl _
  | j :: r, s => by
    unfold ont
    split
    · exact (ont_sub r _).cons_cons j
    · exact (ont_sub r _).cons j
theorem ont_len : ∀ (l : List Jb) (s : Int), wsum gTardy s l + ((ont s l).length : Int) = (l.length : Int)
  | [], _ => rfl
  | j :: r, s => by
    have h := ont_len r (s + j.long)
    have e : wsum gTardy s (j :: r) = (if j.due < s + j.long then 1 else 0) + wsum gTardy (s + j.long) r := rfl
    rw [e]
    unfold ont
    by_cases c : s + j.long ≤ j.due
    · rw [if_pos c, if_neg (by omega)]; simp only [List.length_cons]; omega
    · rw [if_neg c, if_pos (by omega)]; simp only [List.length_cons]; omega
theorem ont_fe : ∀ (l : List Jb) (s : Int), (∀ y ∈ l, 1 ≤ y.long) → Fe s (ont s l)
  | [], _, _ => trivial
  | j :: r, s, hl => by
    have h := ont_fe r (s + j.long) (fun y hy => hl y (List.mem_cons_of_mem _ hy))
    have hj := hl j List.mem_cons_self
    unfold ont
    split
    · exact ⟨by unfold gLateness; omega, h⟩
    · exact fe_mono _ _ _ (by omega) h
theorem fe_tardy : ∀ (l : List Jb) (s : Int), Fe s l → wsum gTardy s l = 0
  | [], _, _ => rfl
  | j :: r, s, h => by
    obtain ⟨p1, p2⟩ : gLateness j (s + j.long) ≤ 0 ∧ Fe (s + j.long) r := h
    have e : wsum gTardy s (j :: r) = (if j.due < s + j.long then 1 else 0) + wsum gTardy (s + j.long) r := rfl
    unfold gLateness at p1
    rw [e, if_neg (by omega), fe_tardy r _ p2]; rfl

theorem js_nodup {ls : List Jb} (h : JsOk ls) : ls.Nodup := by
  rw [List.nodup_iff_pairwise_ne, List.pairwise_iff_getElem]
  intro x y hx hy hxy e
  have h4 := (h.ok y hy).2 x hxy
  rw [jg_get hx, jg_get hy, e] at h4
  exact h4 rfl
theorem js_long {ls : List Jb} (h : JsOk ls) : ∀ y ∈ ls, 1 ≤ y.long := by
  intro y hy
  obtain ⟨i, hi, rfl⟩ := List.getElem_of_mem hy
  have := (jok_bd (h.ok i hi).1).1
  rwa [jg_get hi] at this

open Classical in
/-- no order has more in time than are kept -/
theorem kept_best {ls E K zs : List Jb} (hj : JsOk ls) (hE : E.Perm ls) (hs : E.Pairwise (fun x y => ltDue y x = false)) (h : Kept E K) (hz : zs.Perm ls) : (ont 0 zs).length ≤ K.length := by
  have nz : zs.Nodup := hz.nodup_iff.2 (js_nodup hj)
  have nE : E.Nodup := hE.nodup_iff.2 (js_nodup hj)
  have lz : ∀ y ∈ zs, 1 ≤ y.long := fun y hy => js_long hj y (hz.subset hy)
  have hsub := ont_sub zs 0
  have hf := ont_fe zs 0 lz
  have hfi := isort_all swap_late 0 (ont 0 zs) 0 (fun y hy => lz y (hsub.subset hy)) hf
  have hS : (E.filter fun x => decide (x ∈ ont 0 zs)).Sublist E := List.filter_sublist
  have hp : (E.filter fun x => decide (x ∈ ont 0 zs)).Perm (ont 0 zs) := by
    refine (List.perm_ext_iff_of_nodup (nE.sublist hS) (nz.sublist hsub)).2 fun x => ?_
    rw [List.mem_filter, decide_eq_true_eq]
    exact ⟨fun h => h.2, fun h => ⟨hE.symm.subset (hz.subset (hsub.subset h)), h⟩⟩
  have e := sorted_uniq (hp.trans (isort_perm ltDue (ont 0 zs)).symm) (hs.sublist hS) (isort_pw swo_due _) (fun a ha b hb => anti_due hj (hE.subset (hS.subset ha)) (hE.subset (hS.subset hb)))
  have hFS : Fe 0 (E.filter fun x => decide (x ∈ ont 0 zs)) := by rw [e]; exact hfi
  have := dom_len (h.dom _ hS hFS)
  rw [hp.length_eq] at this
  exact this

/-- those that are kept first, then the others: no order has less tardy ones -/
theorem hodgson_best {ls E K R zs : List Jb} (hj : JsOk ls) (hE : E.Perm ls) (hs : E.Pairwise (fun x y => ltDue y x = false)) (h : Kept E K) (hR : (K ++ R).Perm ls) (hz : zs.Perm ls) :
    sumG gTardy (K ++ R) (K ++ R).length ≤ sumG gTardy zs zs.length := by
  have h1 := kept_best hj hE hs h hz
  rw [sumG_all, sumG_all]
  have h2 := ont_len zs 0
  have h3 := wsum_app gTardy K R 0
  have h4 := fe_tardy K 0 h.fe
  have h5 := ont_len R (0 + tot K)
  have l1 := hR.length_eq
  have l2 := hz.length_eq
  rw [List.length_append] at l1
  rw [h3, h4]
  omega

end Go.Proofs.Ytnbeaeekfahijaa
