/- What a queue is: the plain mathematics. -/
import Derived.Test.YthgdjecbaomffaaPa
namespace Go.Proofs.Ythgdjecbaomffaa
open Go.RowKit Go.Sort

/-- no later one ahead of an earlier one -/
abbrev notLater (a b : Jb) : Prop := jlt b a = false

theorem jg_get {l : List Jb} {i : Nat} (h : i < l.length) : jg l i = l[i] := by simp [jg, h]

theorem sorted_pw {l : List Jb} : jsorted l ↔ l.Pairwise notLater := by
  rw [List.pairwise_iff_getElem]
  constructor
  · intro h i j hi hj hij
    have := h i j hij hj
    rwa [jg_get hi, jg_get hj] at this
  · intro h i j hij hj
    rw [jg_get hj, jg_get (show i < l.length by omega)]
    exact h i j (by omega) hj hij

/-- the queue of a list -/
def IsQ (ls ys : List Jb) : Prop := (jsB ls = false ∧ ys = []) ∨ (jsB ls = true ∧ ys.Perm ls ∧ jsorted ys)

theorem JsOk.inj {ls : List Jb} (h : JsOk ls) {a b : Jb} (ha : a ∈ ls) (hb : b ∈ ls) (e : a.id = b.id) : a = b := by
  obtain ⟨i, hi, rfl⟩ := List.getElem_of_mem ha
  obtain ⟨j, hj, rfl⟩ := List.getElem_of_mem hb
  rw [← jg_get hi, ← jg_get hj] at e ⊢
  rcases Nat.lt_trichotomy i j with h1 | h1 | h1
  · exact absurd e ((h.ok j hj).2 i h1)
  · rw [h1]
  · exact absurd e.symm ((h.ok i hi).2 j h1)

theorem IsQ.uniq {ls ys zs : List Jb} (h : IsQ ls ys) (g : IsQ ls zs) : ys = zs := by
  rcases h with ⟨h0, rfl⟩ | ⟨h0, h1, h2⟩
  · rcases g with ⟨_, rfl⟩ | ⟨g0, _⟩
    · rfl
    · rw [h0] at g0; cases g0
  · rcases g with ⟨g0, _⟩ | ⟨_, g1, g2⟩
    · rw [h0] at g0; cases g0
    · have hok := jsB_t h0
      refine List.Perm.eq_of_pairwise (le := notLater) (fun a b ha hb h3 h4 => ?_) (sorted_pw.1 h2) (sorted_pw.1 g2) (h1.trans g1.symm)
      refine hok.inj (h1.subset ha) (g1.subset hb) ?_
      have e1 := mt ahead_iff.2 (Bool.eq_false_iff.1 h3)
      have e2 := mt ahead_iff.2 (Bool.eq_false_iff.1 h4)
      omega

theorem IsQ.len {ls ys : List Jb} (h : IsQ ls ys) : ys.length ≤ 40 := by
  rcases h with ⟨_, rfl⟩ | ⟨h0, h1, _⟩
  · simp
  · rw [h1.length_eq]; exact (jsB_t h0).n

/-- one more, laid where it belongs -/
def insAt (ys : List Jb) (k : Nat) (x : Jb) : List Jb := ys.take k ++ [x] ++ ys.drop k

theorem insAt_perm (ys : List Jb) (k : Nat) (x : Jb) {zs : List Jb} (h : ys.Perm zs) : (insAt ys k x).Perm (zs ++ [x]) := by
  unfold insAt
  have h1 : (ys.take k ++ [x] ++ ys.drop k).Perm (ys.take k ++ ys.drop k ++ [x]) := by
    rw [List.append_assoc, List.append_assoc]
    exact List.Perm.append_left _ List.perm_append_comm
  rw [List.take_append_drop] at h1
  exact h1.trans (h.append_right _)

theorem jlt_trans {x y z : Jb} (h1 : jlt x y = true) (h2 : jlt y z = true) : jlt x z = true := swo_jlt.trans x y z h1 h2

theorem insAt_sorted {ys : List Jb} {k : Nat} {x : Jb} (h : ys.Pairwise notLater) (hk : k ≤ ys.length) (h1 : ∀ m, m < k → jlt x (jg ys m) = false) (h2 : k < ys.length → jlt x (jg ys k) = true) : (insAt ys k x).Pairwise notLater := by
  have hs : (ys.take k ++ ys.drop k).Pairwise notLater := by rw [List.take_append_drop]; exact h
  obtain ⟨p1, p2, p3⟩ := List.pairwise_append.1 hs
  have q1 : ∀ a ∈ ys.take k, notLater a x := by
    intro a ha
    obtain ⟨m, hm, rfl⟩ := List.getElem_of_mem ha
    have hm' : m < k := by simp at hm; omega
    have := h1 m hm'
    rw [jg_get (by omega)] at this
    simpa using this
  have q2 : ∀ b ∈ ys.drop k, notLater x b := by
    intro b hb
    obtain ⟨m, hm, rfl⟩ := List.getElem_of_mem hb
    have hm' : k + m < ys.length := by simp at hm; omega
    have hx := h2 (by omega)
    rw [jg_get (by omega)] at hx
    show jlt _ x = false
    rw [Bool.eq_false_iff]
    intro hc
    simp only [List.getElem_drop] at hc
    have h3 := jlt_trans hc hx
    by_cases e : m = 0
    · subst e
      have := swo_jlt.irrefl (ys[k]'(by omega))
      simp only [Nat.add_zero] at h3
      rw [this] at h3; cases h3
    · have := (List.pairwise_iff_getElem.1 h) k (k + m) (by omega) hm' (by omega)
      rw [this] at h3; cases h3
  unfold insAt
  rw [List.append_assoc]
  refine List.pairwise_append.2 ⟨p1, ?_, ?_⟩
  · exact List.pairwise_cons.2 ⟨q2, p2⟩
  · intro a ha b hb
    rcases List.mem_cons.1 hb with rfl | hb
    · exact q1 a ha
    · exact p3 a ha b hb

end Go.Proofs.Ythgdjecbaomffaa
