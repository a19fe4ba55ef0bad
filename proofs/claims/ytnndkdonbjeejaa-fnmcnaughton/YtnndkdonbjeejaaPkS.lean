/- Several texts in one. -/
import Derived.Test.YtnndkdonbjeejaaSplitM
import Derived.Test.YtnndkdonbjeejaaBnd
/- Right pieces: what PiecesOk asks, and that McNaughton's pieces are so: plain mathematics. -/
namespace Go.Proofs.Ytnndkdonbjeejaa

def jp (ls : List Jb) : List (Int × Int) := ls.map fun j => (j.id, j.long)
theorem jp_len (ls : List Jb) : (jp ls).length = ls.length := by simp [jp]

theorem take_stepJ {ls : List Jb} {k : Nat} (hk : k < ls.length) : ls.take (k + 1) = ls.take k ++ [jg ls k] := by
  rw [List.take_succ_eq_append_getElem hk, ← jg_get hk]
theorem sumL_app : ∀ a b : List (Int × Int), sumL (a ++ b) = sumL a + sumL b
  | [], b => by simp [sumL]
  | x :: a, b => by simp only [List.cons_append, sumL]; rw [sumL_app a b]; omega
theorem sumL_take {ls : List Jb} : ∀ k, k ≤ ls.length → sumL (jp (ls.take k)) = sumTo ls k
  | 0, _ => by simp [jp, sumL, sumTo]
  | k + 1, hk => by
    have ih := sumL_take (ls := ls) k (by omega)
    rw [take_stepJ (by omega)]
    unfold jp at *
    rw [List.map_append, sumL_app, ih]
    simp [sumL, sumTo]
theorem sumL_all (ls : List Jb) : sumL (jp ls) = sumTo ls ls.length := by
  have := sumL_take (ls := ls) ls.length (Nat.le_refl _)
  rwa [List.take_of_length_le (Nat.le_refl _)] at this
theorem mxL_ge {ls : List Jb} : ∀ k, k ≤ ls.length → ∀ i, i < k → (jg ls i).long ≤ mxL ls k
  | 0, _, i, hi => by omega
  | k + 1, hk, i, hi => by
    simp only [mxL]
    by_cases e : i = k
    · subst e; omega
    · have := mxL_ge (ls := ls) k (by omega) i (by omega); omega
theorem mxL_sum {ls : List Jb} {n : Nat} (h : jokTo ls n) : ∀ k, k ≤ n → mxL ls k ≤ sumTo ls k
  | 0, _ => by simp [mxL, sumTo]
  | k + 1, hk => by
    have h1 := mxL_sum h k (by omega)
    have h2 := jok_bd (h k (by omega)).1
    have h3 := (sumTo_bd h k (by omega)).1
    simp only [mxL, sumTo]; omega
theorem up_mul {s m : Int} (h0 : 0 ≤ s) (m0 : 1 ≤ m) : s ≤ upV s m * m ∧ (1 ≤ s → upV s m ≤ s) ∧ 0 ≤ upV s m := by
  unfold upV
  have e : (s + m - 1).tdiv m = (s + m - 1) / m := Int.tdiv_eq_ediv_of_nonneg (by omega)
  rw [e]
  have h1 := Int.mul_ediv_add_emod (s + m - 1) m
  have h2 := Int.emod_lt_of_pos (s + m - 1) (by omega : 0 < m)
  have h3 := Int.emod_nonneg (s + m - 1) (by omega : m ≠ 0)
  have h4 : m * ((s + m - 1) / m) = (s + m - 1) / m * m := Int.mul_comm _ _
  refine ⟨by omega, fun hs => ?_, Int.ediv_nonneg (by omega) (by omega)⟩
  have : (s + m - 1) / m < s + 1 := (Int.ediv_lt_iff_lt_mul (by omega)).2 (by
    have : (s + 1) * m = s * m + m := by rw [Int.add_mul, Int.one_mul]
    have h5 : s ≤ s * m := by
      have := Int.mul_le_mul_of_nonneg_left m0 h0
      rwa [Int.mul_one] at this
    omega)
  omega

/-- the bound of right jobs -/
structure BndF (ls : List Jb) (m T : Int) : Prop where
  each : ∀ x ∈ jp ls, 1 ≤ x.2 ∧ x.2 ≤ T
  fits : sumL (jp ls) ≤ T * m
  le : T ≤ sumL (jp ls)
  nn : 0 ≤ T
  sum : sumL (jp ls) ≤ 400000
  ids : idsOk (jp ls)
  pos : ls ≠ [] → 1 ≤ T
theorem bnd_f {ls : List Jb} {m : Int} (h : shB ls m = true) : BndF ls m (bndV ls m) := by
  obtain ⟨hj, m1, m2⟩ := shB_t h
  have hs := sumTo_bd hj.ok ls.length (Nat.le_refl _)
  have hx := mxL_bd hj.ok ls.length (Nat.le_refl _)
  have hms := mxL_sum hj.ok ls.length (Nat.le_refl _)
  have hup := up_mul (s := sumTo ls ls.length) (m := m) hs.1 m1
  have hn := hj.n
  have hE : ∀ x ∈ jp ls, 1 ≤ x.2 ∧ x.2 ≤ bndV ls m := fun x hx => by
    obtain ⟨j, hj', rfl⟩ := List.mem_map.1 hx
    obtain ⟨i, hi, rfl⟩ := List.getElem_of_mem hj'
    have h1 := jok_bd (hj.ok i hi).1
    have h2 := mxL_ge (ls := ls) ls.length (Nat.le_refl _) i hi
    rw [jg_get hi] at h1 h2
    unfold bndV
    exact ⟨h1.1, by show ls[i].long ≤ _; omega⟩
  have hz : ls = [] → upV (sumTo ls ls.length) m = 0 := by
    rintro rfl
    show upV 0 m = 0
    unfold upV
    rw [Int.tdiv_eq_ediv_of_nonneg (by omega)]
    exact Int.ediv_eq_zero_of_lt (by omega) (by omega)
  have hpos : ls ≠ [] → 1 ≤ sumTo ls ls.length := fun hne => by
    have h0 : 0 < ls.length := List.length_pos_iff.2 hne
    have h1 := jok_bd (hj.ok 0 h0).1
    have h2 := mxL_ge (ls := ls) ls.length (Nat.le_refl _) 0 h0
    omega
  refine ⟨hE, ?_, ?_, ?_, by rw [sumL_all]; omega, ?_, fun hne => ?_⟩
  · rw [sumL_all]
    have h1 : upV (sumTo ls ls.length) m * m ≤ bndV ls m * m := Int.mul_le_mul_of_nonneg_right (by unfold bndV; omega) (by omega)
    omega
  · rw [sumL_all]
    unfold bndV
    by_cases hne : ls = []
    · have := hz hne; omega
    · have := hup.2.1 (hpos hne); omega
  · unfold bndV; omega
  · unfold idsOk jp
    rw [List.pairwise_map, List.pairwise_iff_getElem]
    intro i j hi hj' hij
    have := (hj.ok j hj').2 i hij
    rwa [jg_get hi, jg_get hj'] at this
  · have h0 : 0 < ls.length := List.length_pos_iff.2 hne
    have := hE (ls[0].id, ls[0].long) (List.mem_map.2 ⟨ls[0], List.getElem_mem h0, rfl⟩)
    have h9 : (1 : Int) ≤ ls[0].long ∧ ls[0].long ≤ bndV ls m := this
    omega

/-- the pieces that Pieces tells -/
noncomputable def pcsF (ls : List Jb) (m : Int) : List Pc := if shB ls m then pcsV (bndV ls m) 0 (jp ls) else []
theorem pcsF_t {ls : List Jb} {m : Int} (h : shB ls m = true) : pcsF ls m = pcsV (bndV ls m) 0 (jp ls) := by unfold pcsF; rw [if_pos h]
theorem pcsF_f {ls : List Jb} {m : Int} (h : shB ls m = false) : pcsF ls m = [] := by unfold pcsF; rw [h]; simp

/-- what is asked of one piece -/
structure Pk1 (ls : List Jb) (m : Int) (p : Pc) : Prop where
  job : ∃ j ∈ ls, j.id = p.job
  m0 : 0 ≤ p.mac
  m1 : p.mac < m
  f0 : 0 ≤ p.fr
  lt : p.fr < p.up
/-- right pieces -/
structure PkOk (ls : List Jb) (m : Int) (ps : List Pc) : Prop where
  jobs : JsOk ls
  m0 : 1 ≤ m
  m1 : m ≤ 10
  one : ∀ p ∈ ps, Pk1 ls m p
  apart : ps.Pairwise Apart
  work : ∀ j ∈ ls, workOf j.id ps = j.long
noncomputable def pkB (ls : List Jb) (m : Int) (ps : List Pc) : Bool := @decide (PkOk ls m ps) (Classical.propDecidable _)
theorem pkB_mk {ls : List Jb} {m : Int} {ps : List Pc} (h : PkOk ls m ps) : pkB ls m ps = true := @decide_eq_true _ (Classical.propDecidable _) h
theorem pkB_no {ls : List Jb} {m : Int} {ps : List Pc} (h : ¬ PkOk ls m ps) : pkB ls m ps = false := @decide_eq_false _ (Classical.propDecidable _) h

theorem work_nn {id : Int} : ∀ {ps : List Pc}, (∀ p ∈ ps, p.fr < p.up) → 0 ≤ workOf id ps
  | [], _ => by simp [workOf]
  | p :: ps, h => by
    have h1 := h p List.mem_cons_self
    have h2 := work_nn (id := id) (ps := ps) fun q hq => h q (List.mem_cons_of_mem _ hq)
    simp only [workOf]
    split <;> omega
theorem work_ge {id : Int} : ∀ {ps : List Pc} {p : Pc}, (∀ p ∈ ps, p.fr < p.up) → p ∈ ps → p.job = id → p.up - p.fr ≤ workOf id ps
  | q :: ps, p, h, hp, e => by
    have h1 := h q List.mem_cons_self
    have hps : ∀ p ∈ ps, p.fr < p.up := fun r hr => h r (List.mem_cons_of_mem _ hr)
    have h2 := work_nn (id := id) hps
    simp only [workOf]
    rcases List.mem_cons.1 hp with rfl | hp
    · rw [if_pos e]; omega
    · have := work_ge hps hp e
      split <;> omega
/-- no piece is longer than a job may be -/
theorem PkOk.short {ls : List Jb} {m : Int} {ps : List Pc} (h : PkOk ls m ps) : ∀ p ∈ ps, p.up - p.fr ≤ 10000 := fun p hp => by
  obtain ⟨j, hj, e⟩ := (h.one p hp).job
  have h1 := work_ge (id := j.id) (fun q hq => (h.one q hq).lt) hp e.symm
  rw [h.work j hj] at h1
  obtain ⟨i, hi, rfl⟩ := List.getElem_of_mem hj
  have := jok_bd (h.jobs.ok i hi).1
  rw [jg_get hi] at this
  omega

/-- McNaughton's pieces are right -/
theorem pcsF_ok {ls : List Jb} {m : Int} (h : shB ls m = true) : PkOk ls m (pcsF ls m) := by
  obtain ⟨hj, m1, m2⟩ := shB_t h
  have B := bnd_f h
  rw [pcsF_t h]
  by_cases hne : ls = []
  · subst hne
    exact ⟨hj, m1, m2, fun p hp => by simp [jp, pcsV] at hp, by simp [jp, pcsV], fun j hj => by cases hj⟩
  · have ht := B.pos hne
    refine ⟨hj, m1, m2, fun p hp => ?_, pcsV_apart (by omega) _ 0 (Int.le_refl _) B.each B.ids, fun j hj' => ?_⟩
    · obtain ⟨⟨x, hx, e, _⟩, hin⟩ := pcsV_in (by omega) _ 0 (Int.le_refl _) B.each p hp
      obtain ⟨q0, q1⟩ := pcsV_mac (by omega) B.each B.fits p hp
      obtain ⟨j, hj', rfl⟩ := List.mem_map.1 hx
      exact ⟨⟨j, hj', e.symm⟩, q0, q1, hin.f0, hin.f1⟩
    · exact (pcsV_work (by omega) _ 0 (Int.le_refl _) B.each B.ids (j.id, j.long) (List.mem_map.2 ⟨j, hj', rfl⟩)).1

end Go.Proofs.Ytnndkdonbjeejaa

/- Chapter 8's law, its mathematics. -/
namespace Go.Proofs.Ytnndkdonbjeejaa

theorem partedV_app (all : List Pc) : ∀ a b : List (Int × Int), partedV all (a ++ b) = partedV all a + partedV all b
  | [], b => by simp [partedV]
  | x :: a, b => by simp only [List.cons_append, partedV]; rw [partedV_app all a b]; omega
theorem parted_step {ls : List Jb} {all : List Pc} {k : Nat} (hk : k < ls.length) : partedV all (jp (ls.take (k + 1))) = partedV all (jp (ls.take k)) + (partsOf (jg ls k).id all - 1) := by
  have e : jp (ls.take (k + 1)) = jp (ls.take k) ++ [((jg ls k).id, (jg ls k).long)] := by unfold jp; rw [take_stepJ hk, List.map_append]; rfl
  rw [e, partedV_app]; simp [partedV]
theorem mc_parts {ls : List Jb} {m : Int} (h : shB ls m = true) {i : Nat} (hi : i < ls.length) : 1 ≤ partsOf (jg ls i).id (pcsF ls m) ∧ partsOf (jg ls i).id (pcsF ls m) ≤ 2 := by
  have B := bnd_f h
  have hne : ls ≠ [] := fun e => by subst e; simp at hi
  have ht := B.pos hne
  rw [pcsF_t h]
  exact (pcsV_work (by omega) _ 0 (Int.le_refl _) B.each B.ids ((jg ls i).id, (jg ls i).long) (List.mem_map.2 ⟨jg ls i, by rw [jg_get hi]; exact List.getElem_mem hi, rfl⟩)).2
theorem mc_law {ls : List Jb} {m : Int} (h : shB ls m = true) : finV (pcsF ls m) = bndV ls m ∧ partedV (pcsF ls m) (jp ls) ≤ m - 1 := by
  obtain ⟨_, m1, _⟩ := shB_t h
  have B := bnd_f h
  rw [pcsF_t h]
  by_cases hne : ls = []
  · subst hne
    have h1 := B.le
    have h2 := B.nn
    simp only [jp, List.map_nil, sumL] at h1
    have e : bndV [] m = 0 := by omega
    rw [e]
    refine ⟨rfl, ?_⟩
    show (0 : Int) ≤ m - 1
    omega
  · have ht := B.pos hne
    exact ⟨pcsV_finish (by omega) B.each B.le, parted_machines (by omega) B.each B.ids B.fits m1⟩
theorem parted_bd {ls : List Jb} {m : Int} (h : shB ls m = true) : ∀ k, k ≤ ls.length → 0 ≤ partedV (pcsF ls m) (jp (ls.take k)) ∧ partedV (pcsF ls m) (jp (ls.take k)) ≤ k
  | 0, _ => by simp [jp, partedV]
  | k + 1, hk => by
    have h1 := parted_bd h k (by omega)
    have h2 := mc_parts h (i := k) (by omega)
    rw [parted_step (by omega)]
    omega

end Go.Proofs.Ytnndkdonbjeejaa
