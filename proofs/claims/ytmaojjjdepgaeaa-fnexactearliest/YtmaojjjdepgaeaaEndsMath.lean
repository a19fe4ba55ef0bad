/- The latest, the tardy: the plain mathematics; likeInts. -/
import Derived.Test.YtmaojjjdepgaeaaSwap
import Derived.Test.YtmaojjjdepgaeaaEndsS2
namespace Go.Proofs.Ytmaojjjdepgaeaa
open Go.RowKit

theorem maxTo_ge (zs : List Int) : ∀ k i, i ≤ k → zg zs i ≤ maxTo zs k
  | 0, i, h => by obtain rfl : i = 0 := by omega
                  exact Int.le_refl _
  | k + 1, i, h => by
    simp only [maxTo]
    by_cases e : i = k + 1
    · subst e; omega
    · have := maxTo_ge zs k i (by omega); omega
theorem maxTo_le (zs : List Int) (b : Int) : ∀ k, (∀ i, i ≤ k → zg zs i ≤ b) → maxTo zs k ≤ b
  | 0, h => h 0 (by omega)
  | k + 1, h => by
    simp only [maxTo]
    have := maxTo_le zs b k (fun i hi => h i (by omega))
    have := h (k + 1) (by omega)
    omega

theorem lateV_eq {ys : List Jb} (hq : jsB ys = true) (h0 : 0 < ys.length) : lateV ys = maxTo (meas gLateness ys ys.length) (ys.length - 1) := by
  unfold lateV; rw [if_pos ⟨hq, h0⟩]
theorem lateV_ge {ys : List Jb} (hq : jsB ys = true) {k : Nat} (hk : k < ys.length) : sumTo ys (k + 1) - (jg ys k).due ≤ lateV ys := by
  rw [lateV_eq hq (by omega)]
  have := maxTo_ge (meas gLateness ys ys.length) (ys.length - 1) k (by omega)
  rwa [meas_g _ _ hk] at this

theorem tardy_pos (ys : List Jb) : ∀ k, 0 ≤ sumG gTardy ys k
  | 0 => by simp [sumG]
  | k + 1 => by
    have := tardy_pos ys k
    simp only [sumG, gTardy]
    split <;> omega
theorem tardy_mono (ys : List Jb) : ∀ m k, k ≤ m → sumG gTardy ys k ≤ sumG gTardy ys m
  | 0, k, h => by obtain rfl : k = 0 := by omega
                  exact Int.le_refl _
  | m + 1, k, h => by
    by_cases e : k = m + 1
    · subst e; exact Int.le_refl _
    · have := tardy_mono ys m k (by omega)
      have e2 : sumG gTardy ys (m + 1) = sumG gTardy ys m + (if (jg ys m).due < sumTo ys (m + 1) then 1 else 0) := rfl
      rw [e2]; split <;> omega
theorem tardy_zero (ys : List Jb) : ∀ k, (∀ i, i < k → sumTo ys (i + 1) ≤ (jg ys i).due) → sumG gTardy ys k = 0
  | 0, _ => rfl
  | k + 1, h => by
    have e2 : sumG gTardy ys (k + 1) = sumG gTardy ys k + (if (jg ys k).due < sumTo ys (k + 1) then 1 else 0) := rfl
    rw [e2, tardy_zero ys k (fun i hi => h i (by omega)), if_neg (by have := h k (by omega); omega)]; rfl

/-- none is tardy just where the latest is not above 0 -/
theorem tardy_late {ys : List Jb} (hq : jsB ys = true) (h0 : 0 < ys.length) : (sumV gTardy ys = 0 ↔ lateV ys ≤ 0) := by
  have e : sumV gTardy ys = sumG gTardy ys ys.length := by unfold sumV; rw [if_pos hq]
  rw [e]
  constructor
  · intro h
    rw [lateV_eq hq h0]
    refine maxTo_le _ _ _ (fun i hi => ?_)
    rw [meas_g _ _ (by omega)]
    show sumTo ys (i + 1) - (jg ys i).due ≤ 0
    rcases Int.lt_or_le (jg ys i).due (sumTo ys (i + 1)) with h1 | h1
    · have h2 := tardy_mono ys ys.length (i + 1) (by omega)
      have h3 := tardy_pos ys i
      have e2 : sumG gTardy ys (i + 1) = sumG gTardy ys i + (if (jg ys i).due < sumTo ys (i + 1) then 1 else 0) := rfl
      rw [e2, if_pos h1] at h2
      omega
    · omega
  · intro h
    refine tardy_zero ys _ (fun i hi => ?_)
    have := lateV_ge hq hi
    omega

set_option maxHeartbeats 400000 in
theorem likeInts_same (a a' : Option Addr) (n cap cap' : Nat) (zs : List Int) (w : World) (h : IntS w a n cap zs) (h' : IntS w a' n cap' zs) :
    Calls Try.prog 20 #[.slice a n cap, .slice a' n cap'] w fun e w' => e = .returned (.bool true) ∧ Below w.heap.size w w' := by
  have hm := h.mx
  have hle := h.le
  unfold maxLen at hm
  go_enter Try.func20, Try.ntmps20
  go_wp2
  go_loopw [5] (fun i wr => ∃ k : Nat, k ≤ n ∧ i = .int .i64 k ∧ Below w.heap.size w wr) (fun i _ => n - (intOf i).toNat)
  case atStart => exact ⟨0, by omega, rfl, Below.refl _ _⟩
  case round =>
    obtain ⟨k, hk, rfl, hw⟩ := hrel
    by_cases hlt : k < n
    · obtain ⟨b, off, rfl, hbw, hat⟩ := (h.below hw).at_ (by omega)
      obtain ⟨b', off', rfl, hbw', hat'⟩ := (h'.below hw).at_ (by omega)
      have hc := hat k hlt
      have hd := hat' k hlt
      have hlt' : (k : Int) < (n : Int) := by omega
      clear hat hat'
      go_wp2
      go_quiet (fail)
      go_wp2
      go_roundw
      case rel => exact ⟨k + 1, by omega, by go_num, hw.drewNI _⟩
      case measure => simp [intOf]; omega
    · have e : k = n := by omega
      subst e
      go_wp2
      go_ret
      exact ⟨rfl, hw⟩

theorem IntB.keepB {w w' : World} {B n : Nat} {zs : List Int} (h : IntB w B n zs) (hb : w'.heap[B]? = w.heap[B]?) : IntB w' B n zs := by
  obtain ⟨cur, h1, h2⟩ := h
  exact ⟨cur, hb.trans h1, h2⟩

theorem js_nil : jsB ([] : List Jb) = true := jsB_mk ⟨Nat.zero_le _, fun i hi => by simp at hi⟩

end Go.Proofs.Ytmaojjjdepgaeaa
