/- Right passes, and what Johnson's order of a list is. -/
import Derived.Test.YtkakdodamnnplaaShopM
import Derived.Test.YtkakdodamnnplaaTime
namespace Go.Proofs.Ytkakdodamnnplaa

def pok (x : Pz) : Bool := inB x.id 1 1000000 && inB x.a 0 10000 && inB x.b 0 10000
theorem pok_bd {x : Pz} (h : pok x = true) : 1 ≤ x.id ∧ x.id ≤ 1000000 ∧ 0 ≤ x.a ∧ x.a ≤ 10000 ∧ 0 ≤ x.b ∧ x.b ≤ 10000 := by
  unfold pok inB at h
  simp only [Bool.and_eq_true, decide_eq_true_eq] at h
  omega

def pokTo (ls : List Pz) (k : Nat) : Prop := ∀ i, i < k → pok (pzg ls i) = true ∧ ∀ h, h < i → (pzg ls h).id ≠ (pzg ls i).id

structure PsOk (ls : List Pz) : Prop where
  n : ls.length ≤ 40
  ok : pokTo ls ls.length

noncomputable def psB (ls : List Pz) : Bool := @decide (PsOk ls) (Classical.propDecidable _)

theorem psB_t {ls : List Pz} (h : psB ls = true) : PsOk ls := @of_decide_eq_true _ (Classical.propDecidable _) h

theorem psB_f {ls : List Pz} (h : psB ls = false) : ¬ PsOk ls := @of_decide_eq_false _ (Classical.propDecidable _) h

theorem psB_mk {ls : List Pz} (h : PsOk ls) : psB ls = true := @decide_eq_true _ (Classical.propDecidable _) h

theorem psB_no {ls : List Pz} (h : ¬ PsOk ls) : psB ls = false := @decide_eq_false _ (Classical.propDecidable _) h

theorem pokTo_succ {ls : List Pz} {k : Nat} (h : pokTo ls k) (g : pok (pzg ls k) = true) (d : ∀ h, h < k → (pzg ls h).id ≠ (pzg ls k).id) : pokTo ls (k + 1) := by
  intro i hi
  by_cases e : i = k
  · subst e; exact ⟨g, d⟩
  · exact h i (by omega)

abbrev notLaterP (a b : Pz) : Prop := ltJ b a = false

/-- Johnson's order of a list -/
def IsJ (ls ys : List Pz) : Prop := (psB ls = false ∧ ys = []) ∨ (psB ls = true ∧ ys.Perm ls ∧ ys.Pairwise notLaterP)

theorem PsOk.inj {ls : List Pz} (h : PsOk ls) {a b : Pz} (ha : a ∈ ls) (hb : b ∈ ls) (e : a.id = b.id) : a = b := by
  obtain ⟨i, hi, rfl⟩ := List.getElem_of_mem ha
  obtain ⟨j, hj, rfl⟩ := List.getElem_of_mem hb
  rw [← pzg_get hi, ← pzg_get hj] at e ⊢
  rcases Nat.lt_trichotomy i j with h1 | h1 | h1
  · exact absurd e ((h.ok j hj).2 i h1)
  · rw [h1]
  · exact absurd e.symm ((h.ok i hi).2 j h1)

theorem IsJ.uniq {ls ys zs : List Pz} (h : IsJ ls ys) (g : IsJ ls zs) : ys = zs := by
  rcases h with ⟨h0, rfl⟩ | ⟨h0, h1, h2⟩
  · rcases g with ⟨_, rfl⟩ | ⟨g0, _⟩
    · rfl
    · rw [h0] at g0; cases g0
  · rcases g with ⟨g0, _⟩ | ⟨_, g1, g2⟩
    · rw [h0] at g0; cases g0
    · have hok := psB_t h0
      refine List.Perm.eq_of_pairwise (le := notLaterP) (fun a b ha hb h3 h4 => ?_) h2 g2 (h1.trans g1.symm)
      exact hok.inj (h1.subset ha) (g1.subset hb) (ltJ_anti h4 h3)
theorem IsJ.len {ls ys : List Pz} (h : IsJ ls ys) : ys.length ≤ 40 := by
  rcases h with ⟨_, rfl⟩ | ⟨h0, h1, _⟩
  · simp
  · rw [h1.length_eq]; exact (psB_t h0).n
theorem IsJ.wf {ls ys : List Pz} (h : IsJ ls ys) (wf : ∀ i, i < ls.length → pzwf (pzg ls i)) : ∀ i, i < ys.length → pzwf (pzg ys i) := by
  intro i hi
  rcases h with ⟨_, rfl⟩ | ⟨_, h1, _⟩
  · simp at hi
  · obtain ⟨j, hjl, e⟩ := List.getElem_of_mem (h1.subset (List.getElem_mem hi))
    rw [pzg_get hi, ← e, ← pzg_get hjl]
    exact wf j hjl

def insAtP (ys : List Pz) (k : Nat) (x : Pz) : List Pz := ys.take k ++ [x] ++ ys.drop k

theorem insAtPP_perm (ys : List Pz) (k : Nat) (x : Pz) {zs : List Pz} (h : ys.Perm zs) : (insAtP ys k x).Perm (zs ++ [x]) := by
  unfold insAtP
  have h1 : (ys.take k ++ [x] ++ ys.drop k).Perm (ys.take k ++ ys.drop k ++ [x]) := by
    rw [List.append_assoc, List.append_assoc]
    exact List.Perm.append_left _ List.perm_append_comm
  rw [List.take_append_drop] at h1
  exact h1.trans (h.append_right _)

theorem ltJ_tr {x y z : Pz} (h1 : ltJ x y = true) (h2 : ltJ y z = true) : ltJ x z = true := ltJ_trans h1 h2

theorem insAtPP_sorted {ys : List Pz} {k : Nat} {x : Pz} (h : ys.Pairwise notLaterP) (hk : k ≤ ys.length) (h1 : ∀ m, m < k → ltJ x (pzg ys m) = false) (h2 : k < ys.length → ltJ x (pzg ys k) = true) : (insAtP ys k x).Pairwise notLaterP := by
  have hs : (ys.take k ++ ys.drop k).Pairwise notLaterP := by rw [List.take_append_drop]; exact h
  obtain ⟨p1, p2, p3⟩ := List.pairwise_append.1 hs
  have q1 : ∀ a ∈ ys.take k, notLaterP a x := by
    intro a ha
    obtain ⟨m, hm, rfl⟩ := List.getElem_of_mem ha
    have hm' : m < k := by simp at hm; omega
    have := h1 m hm'
    rw [pzg_get (by omega)] at this
    simpa using this
  have q2 : ∀ b ∈ ys.drop k, notLaterP x b := by
    intro b hb
    obtain ⟨m, hm, rfl⟩ := List.getElem_of_mem hb
    have hm' : k + m < ys.length := by simp at hm; omega
    have hx := h2 (by omega)
    rw [pzg_get (by omega)] at hx
    show ltJ _ x = false
    rw [Bool.eq_false_iff]
    intro hc
    simp only [List.getElem_drop] at hc
    have h3 := ltJ_tr hc hx
    by_cases e : m = 0
    · subst e
      have := ltJ_irr (ys[k]'(by omega))
      simp only [Nat.add_zero] at h3
      rw [this] at h3; cases h3
    · have := (List.pairwise_iff_getElem.1 h) k (k + m) (by omega) hm' (by omega)
      rw [this] at h3; cases h3
  unfold insAtP
  rw [List.append_assoc]
  refine List.pairwise_append.2 ⟨p1, ?_, ?_⟩
  · exact List.pairwise_cons.2 ⟨q2, p2⟩
  · intro a ha b hb
    rcases List.mem_cons.1 hb with rfl | hb
    · exact q1 a ha
    · exact p3 a ha b hb

end Go.Proofs.Ytkakdodamnnplaa
