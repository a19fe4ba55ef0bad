/- Chapter 13's model: is this a right State? -/
import Derived.Test.YthgdjecbaomffaaStateS3
import Derived.Test.YthgdjecbaomffaaNodeS
import Derived.Test.YthgdjecbaomffaaPa
namespace Go.Proofs.Ythgdjecbaomffaa
open Go.RowKit Go.Sort

/-- what the numbers of entry i of a right State keep -/
structure EnA (s : St) (i : Nat) (e : En) : Prop where
  nx : e.job.id < s.next
  at_ : e.job.at_ ≤ s.now
  wt : e.job.wt = 0
  due : e.job.due = 1000000000
  up : 0 < i → (eng s.ents (i - 1)).job.id < e.job.id
  ph : 1 ≤ e.ph ∧ e.ph ≤ 5
  ep : 0 ≤ e.ep ∧ e.ep ≤ s.eps
  st : 0 ≤ e.st ∧ e.st ≤ s.now
/-- and what its phase asks -/
structure EnP (s : St) (i : Nat) (e : En) : Prop where
  q : e.ph = 1 → e.st = 0 ∧ e.ep = 0 ∧ e.ps.length = 0
  r : e.ph = 2 → 1 ≤ e.ep ∧ PrOk s.nodes e.job.cores e.ps ∧ ∀ k, k < i → ¬ ((eng s.ents k).ph = 2 ∧ (eng s.ents k).ep = e.ep)
  o : e.ph ≠ 1 → e.ph ≠ 2 → e.ps.length = 0
structure SOk (s : St) : Prop where
  now : 0 ≤ s.now ∧ s.now ≤ 999999999
  nd : NsOk s.nodes
  js : JsOk (jbK s.ents s.ents.length)
  nx : 1 ≤ s.next ∧ s.next ≤ 1000000
  eps : 0 ≤ s.eps ∧ s.eps ≤ 1000000
  en : ∀ i, i < s.ents.length → EnA s i (eng s.ents i) ∧ EnP s i (eng s.ents i)
  us : UsOk s.nodes (iuK s s.ents.length)
noncomputable def soB (s : St) : Bool := @decide (SOk s) (Classical.propDecidable _)
theorem soB_mk {s : St} (h : SOk s) : soB s = true := @decide_eq_true _ (Classical.propDecidable _) h
theorem soB_no {s : St} (h : ¬ SOk s) : soB s = false := @decide_eq_false _ (Classical.propDecidable _) h
theorem soB_t {s : St} (h : soB s = true) : SOk s := @of_decide_eq_true _ (Classical.propDecidable _) h
theorem soB_f {s : St} (h : soB s = false) : ¬ SOk s := @of_decide_eq_false _ (Classical.propDecidable _) h
theorem soB_a {s : St} {i : Nat} (hi : i < s.ents.length) (h : ¬ EnA s i (eng s.ents i)) : soB s = false := soB_no fun q => h (q.en i hi).1
theorem soB_p {s : St} {i : Nat} (hi : i < s.ents.length) (h : ¬ EnP s i (eng s.ents i)) : soB s = false := soB_no fun q => h (q.en i hi).2

theorem jbK_wf {ls : List En} (h : ∀ i, i < ls.length → enwf (eng ls i)) : ∀ i, i < (jbK ls ls.length).length → jwf (jg (jbK ls ls.length) i) := fun i hi c hc => by
  rw [jbK_len (Nat.le_refl _)] at hi
  rw [jbK_at hi (Nat.le_refl _)]
  have := (h i hi).1 c (by omega)
  unfold enc at this
  rwa [if_pos hc] at this
theorem ownJ_toS {w : World} {base g c : Nat} {ls : List En} (h : OwnJ w base g c (jbK ls ls.length)) (hw : ∀ i, i < ls.length → enwf (eng ls i)) : JobS w (some ⟨g, 0, none⟩) ls.length c (jbK ls ls.length) := by
  have := h.toS (jbK_wf hw)
  rwa [jbK_len (Nat.le_refl _)] at this

end Go.Proofs.Ythgdjecbaomffaa
