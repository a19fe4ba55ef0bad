/- Two neighbours change places: the plain mathematics. -/
import Derived.Test.YtmaojjjdepgaeaaEndsI
import Derived.Test.YtmaojjjdepgaeaaJobDs
namespace Go.Proofs.Ytmaojjjdepgaeaa
open Go.RowKit

def swp (ys : List Jb) (k : Nat) : List Jb := (ys.set k (jg ys (k + 1))).set (k + 1) (jg ys k)
theorem swp_len (ys : List Jb) (k : Nat) : (swp ys k).length = ys.length := by simp [swp]
theorem swp_g {ys : List Jb} {k : Nat} (hk : k + 1 < ys.length) (i : Nat) : jg (swp ys k) i = if i = k then jg ys (k + 1) else if i = k + 1 then jg ys k else jg ys i := by
  unfold swp jg
  rw [List.getElem?_set, List.getElem?_set]
  by_cases h1 : i = k
  · subst h1; simp [show i < ys.length by omega]
  · by_cases h2 : i = k + 1
    · subst h2; simp [hk]
    · simp [h1, h2, Ne.symm h1, Ne.symm h2]

theorem swp_ok {ys : List Jb} {k : Nat} (hk : k + 1 < ys.length) (h : JsOk ys) : JsOk (swp ys k) := by
  refine ⟨by rw [swp_len]; exact h.n, ?_⟩
  rw [swp_len]
  have inj : ∀ i j, i < ys.length → j < ys.length → i ≠ j → (jg ys i).id ≠ (jg ys j).id := by
    intro i j hi hj hne
    rcases Nat.lt_or_ge i j with h1 | h1
    · exact (h.ok j hj).2 i h1
    · exact fun e => (h.ok i hi).2 j (by omega) e.symm
  intro i hi
  refine ⟨?_, fun m hm => ?_⟩
  · rw [swp_g hk]
    by_cases h1 : i = k
    · rw [if_pos h1]; exact (h.ok _ hk).1
    · rw [if_neg h1]
      by_cases h2 : i = k + 1
      · rw [if_pos h2]; exact (h.ok k (by omega)).1
      · rw [if_neg h2]; exact (h.ok i hi).1
  · rw [swp_g hk, swp_g hk]
    by_cases h1 : i = k
    · rw [if_pos h1, if_neg (by omega), if_neg (by omega)]; exact inj _ _ (by omega) hk (by omega)
    · rw [if_neg h1]
      by_cases h2 : i = k + 1
      · rw [if_pos h2]
        by_cases h3 : m = k
        · rw [if_pos h3]; exact inj _ _ hk (by omega) (by omega)
        · rw [if_neg h3, if_neg (by omega)]; exact inj _ _ (by omega) (by omega) (by omega)
      · rw [if_neg h2]
        by_cases h3 : m = k
        · rw [if_pos h3]; exact inj _ _ hk hi (by omega)
        · rw [if_neg h3]
          by_cases h4 : m = k + 1
          · rw [if_pos h4]; exact inj _ _ (by omega) hi (by omega)
          · rw [if_neg h4]; exact inj _ _ (by omega) hi (by omega)

theorem sumTo_lo {ys : List Jb} {k : Nat} (hk : k + 1 < ys.length) : ∀ i, i ≤ k → sumTo (swp ys k) i = sumTo ys i
  | 0, _ => rfl
  | i + 1, hi => by
    simp only [sumTo]
    rw [sumTo_lo hk i (by omega), swp_g hk, if_neg (by omega), if_neg (by omega)]
theorem sumTo_mid {ys : List Jb} {k : Nat} (hk : k + 1 < ys.length) : sumTo (swp ys k) (k + 1) = sumTo ys k + (jg ys (k + 1)).long := by
  simp only [sumTo]
  rw [sumTo_lo hk k (by omega), swp_g hk, if_pos rfl]
theorem sumTo_two {ys : List Jb} {k : Nat} (hk : k + 1 < ys.length) : sumTo (swp ys k) (k + 2) = sumTo ys (k + 2) := by
  have e : sumTo (swp ys k) (k + 2) = sumTo (swp ys k) (k + 1) + (jg (swp ys k) (k + 1)).long := rfl
  rw [e, sumTo_mid hk, swp_g hk, if_neg (by omega), if_pos rfl]
  show _ = sumTo ys k + (jg ys k).long + (jg ys (k + 1)).long
  omega
theorem sumTo_hi {ys : List Jb} {k : Nat} (hk : k + 1 < ys.length) : ∀ i, sumTo (swp ys k) (k + 2 + i) = sumTo ys (k + 2 + i)
  | 0 => sumTo_two hk
  | i + 1 => by
    have e : ∀ l : List Jb, sumTo l (k + 2 + (i + 1)) = sumTo l (k + 2 + i) + (jg l (k + 2 + i)).long := fun l => rfl
    rw [e, e, sumTo_hi hk i, swp_g hk, if_neg (by omega), if_neg (by omega)]
/-- no other's end changes -/
theorem sumTo_swp {ys : List Jb} {k i : Nat} (hk : k + 1 < ys.length) (h : i ≠ k) : sumTo (swp ys k) (i + 1) = sumTo ys (i + 1) := by
  rcases Nat.lt_or_ge i k with h1 | h1
  · exact sumTo_lo hk _ (by omega)
  · have := sumTo_hi hk (i - (k + 1))
    rwa [show k + 2 + (i - (k + 1)) = i + 1 by omega] at this

theorem sumG_lo (g : Jb → Int → Int) {ys : List Jb} {k : Nat} (hk : k + 1 < ys.length) : ∀ i, i ≤ k → sumG g (swp ys k) i = sumG g ys i
  | 0, _ => rfl
  | i + 1, hi => by
    simp only [sumG]
    rw [sumG_lo g hk i (by omega), sumTo_lo hk (i + 1) hi, swp_g hk, if_neg (by omega), if_neg (by omega)]
theorem sumG_two (g : Jb → Int → Int) {ys : List Jb} {k : Nat} (hk : k + 1 < ys.length) :
    sumG g (swp ys k) (k + 2) = sumG g ys k + g (jg ys (k + 1)) (sumTo ys k + (jg ys (k + 1)).long) + g (jg ys k) (sumTo ys (k + 2)) := by
  have e : sumG g (swp ys k) (k + 2) = sumG g (swp ys k) k + g (jg (swp ys k) k) (sumTo (swp ys k) (k + 1)) + g (jg (swp ys k) (k + 1)) (sumTo (swp ys k) (k + 2)) := rfl
  rw [e, sumG_lo g hk k (by omega), sumTo_mid hk, sumTo_two hk, swp_g hk, swp_g hk, if_pos rfl, if_neg (by omega), if_pos rfl]
theorem sumG_hi (g : Jb → Int → Int) {ys : List Jb} {k : Nat} (hk : k + 1 < ys.length) : ∀ i, sumG g (swp ys k) (k + 2 + i) - sumG g ys (k + 2 + i) = sumG g (swp ys k) (k + 2) - sumG g ys (k + 2)
  | 0 => rfl
  | i + 1 => by
    have e : ∀ l : List Jb, sumG g l (k + 2 + (i + 1)) = sumG g l (k + 2 + i) + g (jg l (k + 2 + i)) (sumTo l (k + 2 + (i + 1))) := fun l => rfl
    have := sumG_hi g hk i
    rw [e, e, sumTo_hi hk (i + 1), swp_g hk, if_neg (by omega), if_neg (by omega)]
    omega
theorem sumG_swp (g : Jb → Int → Int) {ys : List Jb} {k : Nat} (hk : k + 1 < ys.length) : sumG g (swp ys k) ys.length - sumG g ys ys.length =
    g (jg ys (k + 1)) (sumTo ys k + (jg ys (k + 1)).long) + g (jg ys k) (sumTo ys k + (jg ys k).long + (jg ys (k + 1)).long) - g (jg ys k) (sumTo ys k + (jg ys k).long) - g (jg ys (k + 1)) (sumTo ys k + (jg ys k).long + (jg ys (k + 1)).long) := by
  have h := sumG_hi g hk (ys.length - (k + 2))
  rw [show k + 2 + (ys.length - (k + 2)) = ys.length by omega] at h
  rw [h, sumG_two g hk]
  have e : sumG g ys (k + 2) = sumG g ys k + g (jg ys k) (sumTo ys k + (jg ys k).long) + g (jg ys (k + 1)) (sumTo ys k + (jg ys k).long + (jg ys (k + 1)).long) := rfl
  have e2 : sumTo ys (k + 2) = sumTo ys k + (jg ys k).long + (jg ys (k + 1)).long := rfl
  rw [e, e2]
  omega

theorem weighted_swp {ys : List Jb} {k : Nat} (hk : k + 1 < ys.length) : sumG gWeighted (swp ys k) ys.length - sumG gWeighted ys ys.length = (jg ys k).wt * (jg ys (k + 1)).long - (jg ys (k + 1)).wt * (jg ys k).long := by
  rw [sumG_swp gWeighted hk]
  simp only [gWeighted, Int.mul_add]
  omega
theorem waiting_swp {ys : List Jb} {k : Nat} (hk : k + 1 < ys.length) : sumG gWaiting (swp ys k) ys.length - sumG gWaiting ys ys.length = (jg ys (k + 1)).long - (jg ys k).long := by
  rw [sumG_swp gWaiting hk]
  simp only [gWaiting]
  omega

/-- a whole job stored over number i -/
theorem OwnJ.store7 {w : World} {base g cap : Nat} {ys : List Jb} (h : OwnJ w base g cap ys) {i : Nat} (hi : i < ys.length) (j : Jb) :
    OwnJ (((((((w.setCell ⟨g, i * 7, none⟩ (.int .i64 j.id)).setCell ⟨g, i * 7 + 1, none⟩ (.int .i64 j.cores)).setCell ⟨g, i * 7 + 2, none⟩ (.int .i64 j.long)).setCell ⟨g, i * 7 + 3, none⟩ (.int .i64 j.due)).setCell ⟨g, i * 7 + 4, none⟩ (.int .i64 j.wt)).setCell ⟨g, i * 7 + 5, none⟩ (.int .i64 j.rank)).setCell ⟨g, i * 7 + 6, none⟩ (.int .i64 j.at_)) base g cap (ys.set i j) := by
  have step : ∀ (w : World) (zs : List Jb) (f : Nat) (z : Int), zs.length = ys.length → f < 7 → OwnJ w base g cap zs → OwnJ (w.setCell ⟨g, i * 7 + f, none⟩ (.int .i64 z)) base g cap (zs.set i (jset (jg zs i) f z)) := fun w zs f z hz hf hh => hh.store (by omega) hf z
  have len : ∀ (zs : List Jb) (x : Jb), (zs.set i x).length = zs.length := fun zs x => by simp
  have h0 := step _ _ 0 j.id rfl (by omega) h
  have h1 := step _ _ 1 j.cores (by simp) (by omega) h0
  have h2 := step _ _ 2 j.long (by simp) (by omega) h1
  have h3 := step _ _ 3 j.due (by simp) (by omega) h2
  have h4 := step _ _ 4 j.wt (by simp) (by omega) h3
  have h5 := step _ _ 5 j.rank (by simp) (by omega) h4
  have h6 := step _ _ 6 j.at_ (by simp) (by omega) h5
  have gi : ∀ (zs : List Jb) (x : Jb), zs.length = ys.length → jg (zs.set i x) i = x := fun zs x hz => by simp [jg, show i < zs.length by omega]
  simp only [List.set_set, Nat.add_zero] at h6
  rw [gi ys _ rfl, gi ys _ rfl, gi ys _ rfl, gi ys _ rfl, gi ys _ rfl, gi ys _ rfl] at h6
  exact h6

end Go.Proofs.Ytmaojjjdepgaeaa
