/- A right State as the program asks for it: mathematics. -/
import Derived.Test.YthgdjecbaomffaaStateS4
import Derived.Test.YthgdjecbaomffaaNodeM
namespace Go.Proofs.Ythgdjecbaomffaa
open Go.RowKit Go.Sort

/-- the first k entries' of this phase -/
def inK (ls : List En) (p : Int) (k : Nat) : List En := (ls.take k).filter fun e => e.ph == p
theorem inK_yes {ls : List En} {p : Int} {k : Nat} (hk : k < ls.length) (h : (eng ls k).ph = p) : inK ls p (k + 1) = inK ls p k ++ [eng ls k] := by
  unfold inK
  rw [List.take_succ_eq_append_getElem hk, List.filter_append, ← eng_get hk]
  simp [h]
theorem inK_no {ls : List En} {p : Int} {k : Nat} (hk : k < ls.length) (h : (eng ls k).ph ≠ p) : inK ls p (k + 1) = inK ls p k := by
  unfold inK
  rw [List.take_succ_eq_append_getElem hk, List.filter_append, ← eng_get hk]
  simp [h]
theorem inK_le {ls : List En} {p : Int} {k : Nat} (hk : k ≤ ls.length) : (inK ls p k).length ≤ k := by
  unfold inK
  have := List.length_filter_le (fun e : En => e.ph == p) (ls.take k)
  simp at this ⊢
  omega
theorem inK_mem {ls : List En} {p : Int} {k : Nat} {e : En} (h : e ∈ inK ls p k) : ∃ i, i < ls.length ∧ e = eng ls i ∧ e.ph = p := by
  unfold inK at h
  obtain ⟨h1, h2⟩ := List.mem_filter.1 h
  obtain ⟨i, hi, rfl⟩ := List.mem_iff_getElem.1 (List.mem_of_mem_take h1)
  exact ⟨i, hi, (eng_get hi).symm, by simpa using h2⟩
theorem eng_mem {ls : List En} {i : Nat} (h : i < ls.length) : eng ls i ∈ ls := by rw [eng_get h]; exact List.getElem_mem h
theorem inK_at {ls : List En} {p : Int} {k i : Nat} (h : i < (inK ls p k).length) : ∃ j, j < ls.length ∧ eng (inK ls p k) i = eng ls j ∧ (eng ls j).ph = p := by
  obtain ⟨j, hj, e, h2⟩ := inK_mem (eng_mem h)
  exact ⟨j, hj, e, by rw [← e]; exact h2⟩
theorem inK_has {ls : List En} {p : Int} {j : Nat} (hj : j < ls.length) (h : (eng ls j).ph = p) : eng ls j ∈ inK ls p ls.length := by
  unfold inK
  rw [List.take_length]
  exact List.mem_filter.2 ⟨eng_mem hj, by simpa using h⟩
theorem eng_app {a : List En} {x : En} {i : Nat} (h : i < a.length) : eng (a ++ [x]) i = eng a i := by
  unfold eng; rw [List.getElem?_append_left h]
theorem eng_last {a : List En} {x : En} : eng (a ++ [x]) a.length = x := by simp [eng]

/-- what these have in use -/
noncomputable def usK (nn : Nat) (ls : List En) : Nat → List Int
  | 0 => List.replicate nn 0
  | k + 1 => (chF (usK nn ls k) (eng ls k).ps 1).getD []
theorem usK_len (nn : Nat) (ls : List En) : ∀ k, (usK nn ls k).length ≤ nn
  | 0 => by simp [usK]
  | k + 1 => by simp only [usK]; exact Nat.le_trans (chF_len _ _ _) (usK_len nn ls k)
theorem usK_app (nn : Nat) (a : List En) (x : En) : ∀ k, k ≤ a.length → usK nn (a ++ [x]) k = usK nn a k
  | 0, _ => rfl
  | k + 1, h => by simp only [usK]; rw [usK_app nn a x k (by omega), eng_app (by omega)]
theorem iuK_us (s : St) : ∀ k, k ≤ s.ents.length → iuK s k = usK s.nodes.length (inK s.ents 2 k) (inK s.ents 2 k).length
  | 0, _ => by simp [iuK, inK, usK]
  | k + 1, h => by
    have ih := iuK_us s k (by omega)
    by_cases q : (eng s.ents k).ph = 2
    · rw [inK_yes (by omega) q, List.length_append]
      simp only [iuK, List.length_cons, List.length_nil, usK]
      rw [if_pos q, ih, usK_app _ _ _ _ (Nat.le_refl _), eng_last]
    · rw [inK_no (by omega) q]
      simp only [iuK]
      rw [if_neg q, ih]

/-- ids never fall -/
def jsrt (l : List Jb) : Prop := ∀ i, 0 < i → i < l.length → (jg l (i - 1)).id ≤ (jg l i).id
noncomputable def jsrtB (l : List Jb) : Bool := @decide (jsrt l) (Classical.propDecidable _)
theorem jsrtB_mk {l : List Jb} (h : jsrt l) : jsrtB l = true := @decide_eq_true _ (Classical.propDecidable _) h
theorem jsrtB_no {l : List Jb} (h : ¬ jsrt l) : jsrtB l = false := @decide_eq_false _ (Classical.propDecidable _) h
theorem jsrtB_t {l : List Jb} (h : jsrtB l = true) : jsrt l := @of_decide_eq_true _ (Classical.propDecidable _) h
theorem jsrtB_f {l : List Jb} (h : jsrtB l = false) : ¬ jsrt l := @of_decide_eq_false _ (Classical.propDecidable _) h

/-- is this Entry right by itself? -/
structure EoOk (s : St) (e : En) : Prop where
  at_ : e.job.at_ ≤ s.now
  wt : e.job.wt = 0
  due : e.job.due = 1000000000
  nx : e.job.id < s.next
  st : 0 ≤ e.st ∧ e.st ≤ s.now
  ep : 0 ≤ e.ep ∧ e.ep ≤ s.eps
  ph : (e.ph = 1 ∧ e.st = 0 ∧ e.ep = 0 ∧ e.ps.length = 0) ∨ (e.ph = 2 ∧ 0 < e.ep) ∨ ((e.ph = 3 ∨ e.ph = 4 ∨ e.ph = 5) ∧ e.ps.length = 0)
noncomputable def eoB (s : St) (e : En) : Bool := @decide (EoOk s e) (Classical.propDecidable _)
theorem eoB_mk {s : St} {e : En} (h : EoOk s e) : eoB s e = true := @decide_eq_true _ (Classical.propDecidable _) h
theorem eoB_no {s : St} {e : En} (h : ¬ EoOk s e) : eoB s e = false := @decide_eq_false _ (Classical.propDecidable _) h
theorem eoB_t {s : St} {e : En} (h : eoB s e = true) : EoOk s e := @of_decide_eq_true _ (Classical.propDecidable _) h
theorem eoB_f {s : St} {e : En} (h : eoB s e = false) : ¬ EoOk s e := @of_decide_eq_false _ (Classical.propDecidable _) h
/-- are the first k? -/
def eoTo (s : St) (ls : List En) (k : Nat) : Prop := ∀ i, i < k → eoB s (eng ls i) = true
noncomputable def eoTB (s : St) (ls : List En) : Bool := @decide (eoTo s ls ls.length) (Classical.propDecidable _)
theorem eoTB_mk {s : St} {ls : List En} (h : eoTo s ls ls.length) : eoTB s ls = true := @decide_eq_true _ (Classical.propDecidable _) h
theorem eoTB_no {s : St} {ls : List En} (h : ¬ eoTo s ls ls.length) : eoTB s ls = false := @decide_eq_false _ (Classical.propDecidable _) h
theorem eoTB_t {s : St} {ls : List En} (h : eoTB s ls = true) : eoTo s ls ls.length := @of_decide_eq_true _ (Classical.propDecidable _) h
theorem eoTB_f {s : St} {ls : List En} (h : eoTB s ls = false) : ¬ eoTo s ls ls.length := @of_decide_eq_false _ (Classical.propDecidable _) h

/-- part i, as the program holds it against its node -/
def Pp1 (ns : List Nd) (ps : List Pt) (i : Nat) : Prop := (0 ≤ (ptg ps i).node ∧ (ptg ps i).node ≤ (ns.length : Int) - 1) ∧ (1 ≤ (ptg ps i).cores ∧ (ptg ps i).cores ≤ (ndg ns (ptg ps i).node.toNat).cores) ∧ (ndg ns (ptg ps i).node.toNat).state ≠ 3 ∧ (0 < i → (ptg ps (i - 1)).node < (ptg ps i).node)
def PpOk (ns : List Nd) (cores : Int) (ps : List Pt) : Prop := (∀ i, i < ps.length → Pp1 ns ps i) ∧ csK ps ps.length = cores
noncomputable def ppB (ns : List Nd) (cores : Int) (ps : List Pt) : Bool := @decide (PpOk ns cores ps) (Classical.propDecidable _)
theorem ppB_mk {ns : List Nd} {cores : Int} {ps : List Pt} (h : PpOk ns cores ps) : ppB ns cores ps = true := @decide_eq_true _ (Classical.propDecidable _) h
theorem ppB_no {ns : List Nd} {cores : Int} {ps : List Pt} (h : ¬ PpOk ns cores ps) : ppB ns cores ps = false := @decide_eq_false _ (Classical.propDecidable _) h
theorem ppB_t {ns : List Nd} {cores : Int} {ps : List Pt} (h : ppB ns cores ps = true) : PpOk ns cores ps := @of_decide_eq_true _ (Classical.propDecidable _) h
theorem ppB_f {ns : List Nd} {cores : Int} {ps : List Pt} (h : ppB ns cores ps = false) : ¬ PpOk ns cores ps := @of_decide_eq_false _ (Classical.propDecidable _) h
theorem ppB_bad {ns : List Nd} {cores : Int} {ps : List Pt} {i : Nat} (hi : i < ps.length) (h : ¬ Pp1 ns ps i) : ppB ns cores ps = false := ppB_no fun q => h (q.1 i hi)

/-- at most forty, each with right parts, no two with one epoch -/
def rnTo (ns : List Nd) (ls : List En) (k : Nat) : Prop := ∀ i, i < k → ppB ns (eng ls i).job.cores (eng ls i).ps = true ∧ ∀ h, h < i → (eng ls h).ep ≠ (eng ls i).ep
structure RnOk (ns : List Nd) (ls : List En) : Prop where
  n : ls.length ≤ 40
  ok : rnTo ns ls ls.length
noncomputable def rnB (ns : List Nd) (ls : List En) : Bool := @decide (RnOk ns ls) (Classical.propDecidable _)
theorem rnB_mk {ns : List Nd} {ls : List En} (h : RnOk ns ls) : rnB ns ls = true := @decide_eq_true _ (Classical.propDecidable _) h
theorem rnB_no {ns : List Nd} {ls : List En} (h : ¬ RnOk ns ls) : rnB ns ls = false := @decide_eq_false _ (Classical.propDecidable _) h
theorem rnB_t {ns : List Nd} {ls : List En} (h : rnB ns ls = true) : RnOk ns ls := @of_decide_eq_true _ (Classical.propDecidable _) h
theorem rnB_f {ns : List Nd} {ls : List En} (h : rnB ns ls = false) : ¬ RnOk ns ls := @of_decide_eq_false _ (Classical.propDecidable _) h
theorem rn_no_ok {ns : List Nd} {ls : List En} {k : Nat} (hk : k < ls.length) (h : ppB ns (eng ls k).job.cores (eng ls k).ps = false) : rnB ns ls = false := rnB_no fun q => by have := (q.ok k hk).1; rw [h] at this; cases this
theorem rn_no_id {ns : List Nd} {ls : List En} {k m : Nat} (hk : k < ls.length) (hm : m < k) (h : (eng ls m).ep = (eng ls k).ep) : rnB ns ls = false := rnB_no fun q => (q.ok k hk).2 m hm h
theorem rnTo_succ {ns : List Nd} {ls : List En} {k : Nat} (h : rnTo ns ls k) (h1 : ppB ns (eng ls k).job.cores (eng ls k).ps = true) (h2 : ∀ i, i < k → (eng ls i).ep ≠ (eng ls k).ep) : rnTo ns ls (k + 1) := fun i hi => by
  by_cases e : i = k
  · subst e; exact ⟨h1, h2⟩
  · exact h i (by omega)

/-! ### cores in use only grow -/
theorem smK_has {ps : List Pt} {n : Nat} : ∀ k, ptOk ps n k → ∀ j, j < k → (ptg ps j).cores ≤ smK ps (ptg ps j).node.toNat k
  | 0, _, j, h => by omega
  | k + 1, hp, j, h => by
    have h0 := smK_mono (i := (ptg ps j).node.toNat) hp
    by_cases e : j = k
    · subst e
      have h1 := smK_0 (i := (ptg ps j).node.toNat) j (fun i hi => hp i (by omega))
      have h2 := (hp j (by omega)).1
      have e1 : (ptg ps j).node = ((ptg ps j).node.toNat : Int) := by omega
      simp only [smK]
      rw [if_pos (by omega)]
      omega
    · exact Int.le_trans (smK_has k (fun i hi => hp i (by omega)) j (by omega)) h0

/-- a full row behind entry k was full ahead of it -/
theorem usK_full {nn : Nat} (hn : 1 ≤ nn) {ls : List En} {k : Nat} (h : (usK nn ls (k + 1)).length = nn) : (usK nn ls k).length = nn ∧ chK (usK nn ls k) (eng ls k).ps 1 (eng ls k).ps.length = some (usK nn ls (k + 1)) := by
  simp only [usK] at h ⊢
  rcases q : chF (usK nn ls k) (eng ls k).ps 1 with _ | out
  · rw [q] at h; simp at h; omega
  · rw [q] at h
    simp at h
    unfold chF at q
    split at q
    · have := (chK_sum _ _ q).1
      refine ⟨by omega, ?_⟩
      exact q
    · cases q
theorem usK_all {nn : Nat} (hn : 1 ≤ nn) {ls : List En} : ∀ d k, (usK nn ls (k + d)).length = nn → (usK nn ls k).length = nn
  | 0, _, h => h
  | d + 1, k, h => usK_all hn d k (usK_full hn (k := k + d) h).1
theorem usK_mono {nn : Nat} (hn : 1 ≤ nn) {ls : List En} {i : Nat} (hi : i < nn) : ∀ d k, (usK nn ls (k + d)).length = nn → zg (usK nn ls k) i ≤ zg (usK nn ls (k + d)) i
  | 0, _, _ => Int.le_refl _
  | d + 1, k, h => by
    obtain ⟨h1, h2⟩ := usK_full hn (k := k + d) h
    have ih := usK_mono hn hi d k h1
    obtain ⟨h3, h4, h5⟩ := chK_sum _ _ h2
    have := h5 i (by omega)
    have h0 := smK_0 (i := i) _ h4
    rw [show k + (d + 1) = k + d + 1 by omega, this]
    omega
theorem usK_nn {nn : Nat} (hn : 1 ≤ nn) {ls : List En} {i k : Nat} (hi : i < nn) (h : (usK nn ls k).length = nn) : 0 ≤ zg (usK nn ls k) i := by
  have := usK_mono hn hi k 0 (by rw [Nat.zero_add]; exact h)
  rw [Nat.zero_add] at this
  refine Int.le_trans ?_ this
  simp [usK, zg, hi]

/-- each part of one that runs has no more than its node -/
theorem run_part {ns : List Nd} {ls : List En} (hu : UsOk ns (usK ns.length ls ls.length)) {k j : Nat} (hk : k < ls.length) (hj : j < (eng ls k).ps.length) :
    (ptg (eng ls k).ps j).cores ≤ (ndg ns (ptg (eng ls k).ps j).node.toNat).cores := by
  have hn := hu.ns.n1
  have hl := hu.len
  have h1 : (usK ns.length ls (k + 1)).length = ns.length := usK_all hn (ls.length - (k + 1)) (k + 1) (by rw [show k + 1 + (ls.length - (k + 1)) = ls.length by omega]; exact hl)
  obtain ⟨h2, h3⟩ := usK_full hn h1
  obtain ⟨_, h4, h5⟩ := chK_sum _ _ h3
  obtain ⟨⟨n1, n2⟩, _⟩ := h4 j hj
  rw [h2] at n2
  have hi : (ptg (eng ls k).ps j).node.toNat < ns.length := by omega
  have h6 := h5 _ (by rw [h2]; exact hi)
  have h7 := smK_has _ h4 j hj
  have h8 := usK_nn hn hi h2
  have h9 := usK_mono hn hi (ls.length - (k + 1)) (k + 1) (by rw [show k + 1 + (ls.length - (k + 1)) = ls.length by omega]; exact hl)
  rw [show k + 1 + (ls.length - (k + 1)) = ls.length by omega] at h9
  have := (hu.us _ hi).2
  omega

end Go.Proofs.Ythgdjecbaomffaa
