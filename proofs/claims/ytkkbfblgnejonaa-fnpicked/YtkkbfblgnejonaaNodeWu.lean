/- What the program makes of what is used: each part added, or taken off, with no look between; that it is what the model makes. -/
import Derived.Test.YtkkbfblgnejonaaNodeM
namespace Go.Proofs.Ytkkbfblgnejonaa
open Go.RowKit

def wuK (u : List Int) (ps : List Pt) (sign : Int) : Nat → List Int
  | 0 => u
  | k + 1 => (wuK u ps sign k).set (ptg ps k).node.toNat (zg (wuK u ps sign k) (ptg ps k).node.toNat + sign * (ptg ps k).cores)
theorem wuK_len {u : List Int} {ps : List Pt} {sign : Int} : ∀ k, (wuK u ps sign k).length = u.length
  | 0 => rfl
  | k + 1 => by rw [wuK, List.length_set]; exact wuK_len k
theorem wuK_sum {u : List Int} {ps : List Pt} {sign : Int} : ∀ k, ptOk ps u.length k → ∀ i, i < u.length → zg (wuK u ps sign k) i = zg u i + sign * smK ps i k
  | 0, _, i, _ => by simp [wuK, smK]
  | k + 1, h, i, hi => by
    have ih := wuK_sum (sign := sign) k (fun j hj => h j (by omega))
    have hp := h k (by omega)
    rw [wuK, zg_set (by rw [wuK_len]; omega)]
    simp only [smK]
    by_cases e : (ptg ps k).node = (i : Int)
    · rw [if_pos (by omega), if_pos e, show (ptg ps k).node.toNat = i by omega, ih i hi, Int.mul_add]; omega
    · rw [if_neg (by omega), if_neg e]; exact ih i hi
theorem smK_bd {ps : List Pt} {i n : Nat} : ∀ k, ptOk ps n k → smK ps i k ≤ 1073741824 * (k : Int)
  | 0, _ => by simp [smK]
  | k + 1, h => by
    have ih := smK_bd (i := i) k fun j hj => h j (by omega)
    have := (h k (by omega)).2
    simp only [smK]; push_cast; split <;> omega
theorem wuK_bd {u : List Int} {ps : List Pt} {sign : Int} (hs : sign = 1 ∨ sign = -1) (hu : useOk u u.length) (k : Nat) (h : ptOk ps u.length k) (i : Nat) (hi : i < u.length) :
    -(1073741824 * ((k : Int) + 1)) ≤ zg (wuK u ps sign k) i ∧ zg (wuK u ps sign k) i ≤ 1073741824 * ((k : Int) + 1) := by
  have h1 := wuK_sum (sign := sign) k h i hi
  have h2 := smK_bd (i := i) k h
  have h3 := smK_0 (i := i) k h
  have h4 := hu i hi
  rw [h1]
  rcases hs with rfl | rfl <;> omega

noncomputable def poB2 (ps : List Pt) (n k : Nat) : Bool := @decide (ptOk ps n k) (Classical.propDecidable _)
theorem poB2_mk {ps : List Pt} {n k : Nat} (h : ptOk ps n k) : poB2 ps n k = true := @decide_eq_true _ (Classical.propDecidable _) h
theorem poB2_no {ps : List Pt} {n k : Nat} (h : ¬ ptOk ps n k) : poB2 ps n k = false := @decide_eq_false _ (Classical.propDecidable _) h
theorem poB2_t {ps : List Pt} {n k : Nat} (h : poB2 ps n k = true) : ptOk ps n k := @of_decide_eq_true _ (Classical.propDecidable _) h
theorem poB2_f {ps : List Pt} {n k : Nat} (h : poB2 ps n k = false) : ¬ ptOk ps n k := @of_decide_eq_false _ (Classical.propDecidable _) h

/-- what the program's usedWith tells -/
noncomputable def wuF (u : List Int) (ps : List Pt) (sign : Int) : List Int := if (uoB u u.length && poB2 ps u.length ps.length) = true then wuK u ps sign ps.length else []

/-- where the one can't tell, the other neither -/
theorem chF_no {u : List Int} {ps : List Pt} {sign : Int} (h : (uoB u u.length && poB2 ps u.length ps.length) = false) : chF u ps sign = none := by
  unfold chF
  by_cases c : uoB u u.length = true
  · rw [if_pos c]
    rw [c] at h
    have hp := poB2_f (by simpa using h)
    rcases hk : chK u ps sign ps.length with _ | o
    · rfl
    · exact absurd (chK_sum _ o hk).2.1 hp
  · rw [if_neg c]
theorem chF_is {u : List Int} {ps : List Pt} {sign : Int} (hs : sign = 1 ∨ sign = -1) (h : (uoB u u.length && poB2 ps u.length ps.length) = true)
    (hz : ∀ i, i < u.length → 0 ≤ zg (wuK u ps sign ps.length) i) : chF u ps sign = some (wuK u ps sign ps.length) := by
  obtain ⟨h1, h2⟩ : uoB u u.length = true ∧ poB2 ps u.length ps.length = true := by simpa using h
  have hu := uoB_t h1
  have hp := poB2_t h2
  have hcan : ∃ out, chK u ps sign ps.length = some out := chK_can hs ps.length hp fun j i hj hi => by
    have e0 := hu i hi
    have e1 := hz i hi
    rw [wuK_sum _ hp i hi] at e1
    have e2 := smK_le (i := i) (n := u.length) (ps.length - j) j (by rw [show j + (ps.length - j) = ps.length by omega]; exact hp)
    rw [show j + (ps.length - j) = ps.length by omega] at e2
    have e3 := smK_0 (i := i) (n := u.length) j (fun q hq => hp q (by omega))
    rcases hs with rfl | rfl <;> omega
  obtain ⟨o, ho⟩ := hcan
  obtain ⟨l1, _, v1⟩ := chK_sum _ o ho
  unfold chF
  rw [if_pos h1, ho]
  refine congrArg some (ints_ext (l1.trans (wuK_len _).symm) fun i hi => ?_)
  rw [v1 i (by omega), wuK_sum _ hp i (by omega)]
theorem chF_neg {u : List Int} {ps : List Pt} {sign : Int} (hs : sign = 1 ∨ sign = -1) (h : (uoB u u.length && poB2 ps u.length ps.length) = true)
    (hz : ¬ ∀ i, i < u.length → 0 ≤ zg (wuK u ps sign ps.length) i) : chF u ps sign = none := by
  obtain ⟨h1, h2⟩ : uoB u u.length = true ∧ poB2 ps u.length ps.length = true := by simpa using h
  have hu := uoB_t h1
  have hp := poB2_t h2
  unfold chF
  rw [if_pos h1]
  rcases hk : chK u ps sign ps.length with _ | o
  · rfl
  · refine absurd (fun i hi => ?_) hz
    have e1 := (chK_bd hs hu _ o hk).2 i hi
    rw [(chK_sum _ o hk).2.2 i hi] at e1
    rw [wuK_sum _ hp i hi]
    exact e1.1
/-- added to, none falls below 0 -/
theorem wuK_pos {u : List Int} {ps : List Pt} (h : (uoB u u.length && poB2 ps u.length ps.length) = true) : ∀ i, i < u.length → 0 ≤ zg (wuK u ps 1 ps.length) i := by
  obtain ⟨h1, h2⟩ : uoB u u.length = true ∧ poB2 ps u.length ps.length = true := by simpa using h
  intro i hi
  have hp := poB2_t h2
  have e0 := uoB_t h1 i hi
  have e3 := smK_0 (i := i) (n := u.length) _ hp
  rw [wuK_sum _ hp i hi]; omega

end Go.Proofs.Ytkkbfblgnejonaa
