/- What FnMachines and FnGraham ask of plain numbers. -/
import Derived.Test.YtcomohobkjkhiaaBnd
import Derived.Test.YtcomohobkjkhiaaBests
import Derived.Test.YtcomohobkjkhiaaSpns
namespace Go.Proofs.Ytcomohobkjkhiaa
open Go.RowKit Go.Sort

theorem JsOk.tail {x : Jb} {ls : List Jb} (h : JsOk (x :: ls)) : JsOk ls :=
  ⟨by have := h.n; simp at this; omega, fun i hi => by
    have h1 := h.ok (i + 1) (by simpa using hi)
    rw [jg_succ] at h1
    refine ⟨h1.1, fun k hk => ?_⟩
    have := h1.2 (k + 1) (by omega)
    rwa [jg_succ] at this⟩
theorem sumP_longs (ls : List Jb) : ∀ k, k ≤ ls.length → sumP ((longs ls).take k) = sumTo ls k
  | 0, _ => rfl
  | k + 1, hk => by
    rw [longs_succ (by omega), sumP_snoc, sumP_longs ls k (by omega)]; rfl
theorem sumP_all (ls : List Jb) : sumP (longs ls) = sumTo ls ls.length := by
  rw [← sumP_longs ls ls.length (Nat.le_refl _), ← longs_len, List.take_length]
theorem mxL_le {ls : List Jb} {T : Int} (hT : 0 ≤ T) (h : ∀ p ∈ longs ls, p ≤ T) : ∀ k, k ≤ ls.length → mxL ls k ≤ T
  | 0, _ => hT
  | k + 1, hk => by
    have h1 := mxL_le hT h k (by omega)
    have h2 := h (jg ls k).long (List.mem_map.2 ⟨jg ls k, by rw [jg_get (by omega)]; exact List.getElem_mem _, rfl⟩)
    simp only [mxL]; omega
theorem longs_nn {ls : List Jb} (h : JsOk ls) : ∀ p ∈ longs ls, 0 ≤ p := fun p hp => by have := longs_bd h p hp; omega

theorem bnd_opt {ls : List Jb} {m : Nat} (h : JsOk ls) (h1 : 1 ≤ m) : bndV ls m ≤ optV (longs ls) m := by
  obtain ⟨b1, b2⟩ := bound_opt (ps := longs ls) h1 (longs_nn h)
  have h0 := optV_nonneg (longs ls) h1
  have hs := sumTo_bd h.ok ls.length (Nat.le_refl _)
  have e : upV (sumTo ls ls.length) m = (sumP (longs ls) + m - 1) / m := by
    unfold upV; rw [sumP_all, Int.tdiv_eq_ediv_of_nonneg (by omega)]
  unfold bndV
  rw [e]
  have := mxL_le h0 b1 ls.length (Nat.le_refl _)
  omega

/-- what the best is where there is one -/
theorem opt_some {ls : List Jb} {m : Int} (h : ¬ optI ls m < 0) : ∃ q : Nat, m = q ∧ JsOk ls ∧ ls.length ≤ 7 ∧ 1 ≤ q ∧ q ≤ 4 ∧ optI ls m = optV (longs ls) q := by
  by_cases hq : JsOk ls ∧ ls.length ≤ 7 ∧ 1 ≤ m ∧ m ≤ 4
  · obtain ⟨a, b, c, d⟩ := hq
    obtain ⟨q, rfl⟩ : ∃ q : Nat, m = q := ⟨m.toNat, by omega⟩
    exact ⟨q, rfl, a, b, by omega, by omega, optI_yes a b (by omega) (by omega)⟩
  · rw [optI_no hq] at h; exact absurd (by omega) h
theorem opt_more6 {ls : List Jb} {q : Nat} (h : JsOk ls) (hn : ls.length ≤ 7) (h1 : 1 ≤ q) : optI ls ((q : Int) + 1) ≤ optV (longs ls) q := by
  have h0 := optV_nonneg (longs ls) h1
  by_cases hq : JsOk ls ∧ ls.length ≤ 7 ∧ 1 ≤ (q : Int) + 1 ∧ (q : Int) + 1 ≤ 4
  · have e : (q : Int) + 1 = ((q + 1 : Nat) : Int) := by omega
    rw [e, optI_yes h hn (by omega) (by omega)]
    exact opt_more h1
  · rw [optI_no hq]; omega
theorem opt_one6 {ls : List Jb} (h : JsOk ls) (hn : ls.length ≤ 7) : optI ls 1 = sumTo ls ls.length := by
  have : optI ls ((1 : Nat) : Int) = _ := optI_yes h hn (Nat.le_refl _) (by omega)
  rw [show ((1 : Nat) : Int) = 1 by rfl] at this
  rw [this, ← sumP_all]
  exact opt_one (longs_nn h)
theorem opt_less6 {x : Jb} {ls : List Jb} {q : Nat} (h : JsOk (x :: ls)) (hn : (x :: ls).length ≤ 7) (h1 : 1 ≤ q) (h4 : q ≤ 4) : 0 ≤ optI ls q ∧ optI ls q ≤ optV (longs (x :: ls)) q ∧ optV (longs (x :: ls)) q ≤ optI ls q + x.long := by
  rw [optI_yes h.tail (by simp at hn; omega) h1 h4]
  have hx := longs_nn h x.long (by rw [longs_cons]; exact List.mem_cons_self)
  have := opt_less (p := x.long) (ps := longs ls) h1 hx
  exact ⟨optV_nonneg (longs ls) h1, this.1, this.2⟩
theorem opt_top {ls : List Jb} {q : Nat} (h : JsOk ls) (hn : ls.length ≤ 7) (h1 : 1 ≤ q) : optV (longs ls) q ≤ 70000 := by
  have hl := longs_len ls
  have := (least_best (longs ls) (List.replicate q 0) 0 (by simpa using h1) (LdOk.rep q) (Int.le_refl _) (by rw [hl]; omega) (fun p hp => by have := longs_bd h p hp; omega)).2.2
  have e : optV (longs ls) q = bestV (longs ls) (List.replicate q 0) := rfl
  rw [e]; omega


end Go.Proofs.Ytcomohobkjkhiaa
