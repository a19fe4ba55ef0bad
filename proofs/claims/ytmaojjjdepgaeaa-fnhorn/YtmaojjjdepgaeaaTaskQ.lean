/- Tasks (chapter 9): right ones, and what is demanded: plain mathematics. -/
import Derived.Test.YtmaojjjdepgaeaaHornM
import Derived.Test.YtmaojjjdepgaeaaJobQ
import Derived.Test.YtmaojjjdepgaeaaIntRow
namespace Go.Proofs.Ytmaojjjdepgaeaa

/-- a task -/
def tk1 (j : Jb) : Bool := decide (j.at_ ≤ 200) && decide (j.due ≤ 200) && decide (j.long ≤ 50)
theorem tk1_bd {j : Jb} (h : tk1 j = true) : j.at_ ≤ 200 ∧ j.due ≤ 200 ∧ j.long ≤ 50 := by
  unfold tk1 at h
  simp only [Bool.and_eq_true, decide_eq_true_eq] at h
  omega
/-- right tasks -/
structure TsOk (ls : List Jb) : Prop where
  jobs : JsOk ls
  n : ls.length ≤ 12
  one : ∀ i, i < ls.length → tk1 (jg ls i) = true
noncomputable def tsB (ls : List Jb) : Bool := @decide (TsOk ls) (Classical.propDecidable _)
theorem tsB_t {ls : List Jb} (h : tsB ls = true) : TsOk ls := @of_decide_eq_true _ (Classical.propDecidable _) h
theorem tsB_f {ls : List Jb} (h : tsB ls = false) : ¬ TsOk ls := @of_decide_eq_false _ (Classical.propDecidable _) h
theorem tsB_mk {ls : List Jb} (h : TsOk ls) : tsB ls = true := @decide_eq_true _ (Classical.propDecidable _) h
theorem tsB_no {ls : List Jb} (h : ¬ TsOk ls) : tsB ls = false := @decide_eq_false _ (Classical.propDecidable _) h
theorem jb_at {j : Jb} (h : jok j = true) : 0 ≤ j.at_ ∧ j.at_ ≤ 1000000000 ∧ 0 ≤ j.due ∧ j.due ≤ 1000000000 ∧ 1 ≤ j.long ∧ j.long ≤ 10000 ∧ 1 ≤ j.id ∧ j.id ≤ 1000000 := by
  unfold jok jobB okB inB at h
  simp only [Bool.and_eq_true, decide_eq_true_eq] at h
  omega
/-- the numbers of a right task -/
theorem TsOk.bd {ls : List Jb} (h : TsOk ls) {i : Nat} (hi : i < ls.length) : 0 ≤ (jg ls i).at_ ∧ (jg ls i).at_ ≤ 200 ∧ 0 ≤ (jg ls i).due ∧ (jg ls i).due ≤ 200 ∧ 1 ≤ (jg ls i).long ∧ (jg ls i).long ≤ 50 ∧ 1 ≤ (jg ls i).id := by
  have h1 := jb_at (h.jobs.ok i hi).1
  have h2 := tk1_bd (h.one i hi)
  omega
/-- what is demanded of the first k -/
def demK (ls : List Jb) (a b : Int) (k : Nat) : Int := demN (fun i => (jg ls i).at_) (fun i => (jg ls i).due) (fun i => (jg ls i).long) k a b
theorem demK_succ (ls : List Jb) (a b : Int) (k : Nat) : demK ls a b (k + 1) = demK ls a b k + if a ≤ (jg ls k).at_ ∧ (jg ls k).due ≤ b then (jg ls k).long else 0 := rfl
theorem demK_bd {ls : List Jb} (h : TsOk ls) (a b : Int) : ∀ k, k ≤ ls.length → 0 ≤ demK ls a b k ∧ demK ls a b k ≤ 50 * k
  | 0, _ => by simp [demK, demN, sumN]
  | k + 1, hk => by
    have ih := demK_bd h a b k (by omega)
    have hb := h.bd (i := k) (by omega)
    rw [demK_succ]
    split <;> omega
def demV (ls : List Jb) (a b : Int) : Int := demK ls a b ls.length
noncomputable def demF (ls : List Jb) (a b : Int) : Int := if tsB ls then demV ls a b else -1
theorem demF_t {ls : List Jb} {a b : Int} (h : tsB ls = true) : demF ls a b = demV ls a b := by unfold demF; rw [if_pos h]
theorem demF_f {ls : List Jb} {a b : Int} (h : tsB ls = false) : demF ls a b = -1 := by unfold demF; rw [h]; simp

/-- how often this id stands among the first t -/
def workN (zs : List Int) (id : Int) (t : Nat) : Int := sumN (fun u => if zg zs u = id then 1 else 0) t
/-- kept: each as long as it is, in its time, and no other number -/
structure KpOk (ls : List Jb) (zs : List Int) : Prop where
  tasks : TsOk ls
  one : ∀ t, t < zs.length → zg zs t = 0 ∨ ∃ i, i < ls.length ∧ (jg ls i).id = zg zs t ∧ (jg ls i).at_ ≤ t ∧ (t : Int) < (jg ls i).due
  all : ∀ i, i < ls.length → workN zs (jg ls i).id zs.length = (jg ls i).long
noncomputable def kpB (ls : List Jb) (zs : List Int) : Bool := @decide (KpOk ls zs) (Classical.propDecidable _)
theorem kpB_mk {ls : List Jb} {zs : List Int} (h : KpOk ls zs) : kpB ls zs = true := @decide_eq_true _ (Classical.propDecidable _) h
theorem kpB_no {ls : List Jb} {zs : List Int} (h : ¬ KpOk ls zs) : kpB ls zs = false := @decide_eq_false _ (Classical.propDecidable _) h

end Go.Proofs.Ytmaojjjdepgaeaa
