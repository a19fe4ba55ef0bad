/- Plans that are not empty (chapter 10): what is known of them: plain mathematics. -/
import Derived.Test.YtcmpenlgkccgkaaPlanT
import Derived.Test.YtcmpenlgkccgkaaPlanW
import Derived.Test.YtcmpenlgkccgkaaPlanMk
namespace Go.Proofs.Ytcmpenlgkccgkaa
open Go.RowKit Go.Sort

structure PlF (T : Int) (st : Bool) (ls : List Lev) (js : List Jb) (now : Int) (zs : List Int) : Prop where
  po : PO T ls
  js_ : JsOk js
  ok : PlOk T ls now
  len : zs.length = js.length
  at_ : ∀ i, i < js.length → zg zs i = at10 T st ls now js i
  st_ : stOk zs js.length
  lf : lfF T ls js zs = some (lefK T st ls now js js.length)
  mks : mkF js zs = mkK js zs js.length
theorem plF_all {T : Int} {st : Bool} {ls : List Lev} {js : List Jb} {now : Int} (h : 0 < (plF T st ls js now).length) : PlF T st ls js now (plF T st ls js now) := by
  by_cases c : poB T ls = true ∧ jsB js = true ∧ okB now = true
  · obtain ⟨c1, c2, c3⟩ := c
    have po := poB_t c1
    have hj := jsB_t c2
    obtain ⟨n0, n1⟩ := okB_t c3
    have ok : PlOk T ls now := ⟨po, n0, n1⟩
    have e := plF_t (T := T) (st := st) (ls := ls) (js := js) (now := now) c1 c2 c3
    have len : (plF T st ls js now).length = js.length := by rw [e, staK_len]
    have at_ : ∀ i, i < js.length → zg (plF T st ls js now) i = at10 T st ls now js i := fun i hi => by rw [e]; exact staK_at _ i hi
    have st_ : stOk (plF T st ls js now) js.length := fun i hi => by
      rw [at_ i hi]; exact plT_bd (ok.all i) _
    have lf : lfF T ls js (plF T st ls js now) = some (lefK T st ls now js js.length) := by
      rw [lfF_t c1 c2 len]; exact lf_plan ok hj st at_ _ (Nat.le_refl _)
    exact ⟨po, hj, ok, len, at_, st_, lf, mkF_t c2 len st_⟩
  · unfold plF at h
    rw [if_neg c] at h
    simp at h

/-- what one more takes -/
theorem sumC_s {js : List Jb} {ss : List Int} {k : Nat} (c : 0 ≤ zg ss k ∧ zg ss k < 1000000000) : sumC js ss (k + 1) = sumC js ss k + (jg js k).cores * (laterI (zg ss k) (jg js k).long - zg ss k) := by simp only [sumC]; rw [if_pos c]
theorem sumC_n {js : List Jb} {ss : List Int} {k : Nat} (c : ¬ (0 ≤ zg ss k ∧ zg ss k < 1000000000)) : sumC js ss (k + 1) = sumC js ss k := by simp only [sumC]; rw [if_neg c]
theorem one_bd {j : Jb} (h : jok j = true) {s : Int} (_c : 0 ≤ s ∧ s < 1000000000) : 0 ≤ laterI s j.long - s ∧ laterI s j.long - s ≤ 10000 ∧ 0 ≤ j.cores * (laterI s j.long - s) ∧ j.cores * (laterI s j.long - s) ≤ 10000000 := by
  have hc := jok_cl h
  have h1 : 0 ≤ laterI s j.long - s ∧ laterI s j.long - s ≤ 10000 := by unfold laterI; split <;> omega
  refine ⟨h1.1, h1.2, Int.mul_nonneg (by omega) h1.1, ?_⟩
  have h2 : j.cores * (laterI s j.long - s) ≤ 1000 * (laterI s j.long - s) := Int.mul_le_mul_of_nonneg_right (by omega) h1.1
  omega
theorem sumC_bd {js : List Jb} {ss : List Int} (hj : JsOk js) : ∀ k, k ≤ js.length → 0 ≤ sumC js ss k ∧ sumC js ss k ≤ 10000000 * (k : Int)
  | 0, _ => by simp [sumC]
  | k + 1, hk => by
    have ih := sumC_bd (ss := ss) hj k (by omega)
    by_cases c : 0 ≤ zg ss k ∧ zg ss k < 1000000000
    · have := one_bd (hj.ok k (by omega)).1 c
      rw [sumC_s c]; push_cast; omega
    · rw [sumC_n c]; push_cast; omega

theorem pf_in {a : Int} (h1 : -9223372036854775808 ≤ a) (h2 : a ≤ 9223372036854775807) : wrap64 a = a := by unfold wrap64; omega
theorem pf_wrap (a : Int) : IntKind.i64.wrap a = wrap64 a := by
  show (if (true && decide (a % 2 ^ 64 ≥ 2 ^ 63)) = true then a % 2 ^ 64 - 2 ^ 64 else a % 2 ^ 64) = wrap64 a
  unfold wrap64
  by_cases h : a % 2 ^ 64 ≥ 2 ^ 63
  · rw [if_pos (by simpa using h)]; omega
  · rw [if_neg (by simpa using h)]; omega

end Go.Proofs.Ytcmpenlgkccgkaa
