/- One after the other: Ends, Lateness, Weighted, Tardy, Waiting of the model. -/
import Derived.Test.YtnbeaeekfahijaaEndsI
namespace Go.Proofs.Ytnbeaeekfahijaa
open Go.RowKit

set_option maxHeartbeats 1000000 in
theorem specWeighted_any (a : Option Addr) (n cap : Nat) (ls : List Jb) (w : World) (h : JobS w a n cap ls) :
    Calls Try.prog 22 #[.slice a n cap] w fun e w' => e = .returned (.int .i64 (sumV gWeighted ls)) ∧ Below w.heap.size w w' := by
  have hlen := h.len
  have hm := h.mx
  have hle := h.le
  unfold maxLen at hm
  unfold sumV
  rcases hq : jsB ls with _ | _
  · rw [if_neg (by simp)]
    go_enter Try.func22, Try.ntmps22
    go_wp2_with fail
    refine (specJobsOk_any a n cap ls _ h).mono ?_
    rw [hq]
    rintro e w1 ⟨rfl, hb1⟩
    go_wp2
    go_ret
    exact ⟨rfl, hb1⟩
  · rw [if_pos rfl, hlen]
    have hn := (jsB_t hq).n
    have ok : jokTo ls n := by rw [← hlen]; exact (jsB_t hq).ok
    go_enter Try.func22, Try.ntmps22
    go_wp2_with fail
    refine (specJobsOk_any a n cap ls _ h).mono ?_
    rw [hq]
    rintro e w1 ⟨rfl, hb1⟩
    go_wp2_with fail
    refine (l4Ends_any a n cap ls _ (h.below hb1) ok (by omega)).mono ?_
    rintro e w2 ⟨g, c, rfl, hg, hc, hnc, hI, hb2⟩
    unfold maxLen at hc
    have hbw2 := hb1.then hb2 hb1.size
    go_wp2
    go_loopw [4, 5] (fun t i wr => ∃ k : Nat, k ≤ n ∧ i = .int .i64 k ∧ t = .int .i64 (sumG gWeighted ls k) ∧ Below w2.heap.size w2 wr) (fun _ i _ => n - (intOf i).toNat)
    case atStart => exact ⟨0, by omega, rfl, rfl, Below.refl _ _⟩
    case round =>
      obtain ⟨k, hk, rfl, rfl, hw⟩ := hrel
      by_cases hlt : k < n
      · have hlt' : (k : Int) < (n : Int) := by omega
        obtain ⟨b, off, rfl, hbw, hat⟩ := h.at_ (by omega)
        have hcl := (hI.below hw).cell hlt
        rw [endsL_g _ hlt] at hcl
        have hcj := (hat.below (hbw2.then hw hbw2.size) hbw) k (by omega) 4 (by omega)
        simp only [jc] at hcj
        have e0 := sumTo_bd ok (k + 1) (by omega)
        have okk := (ok k hlt).1
        have b0 := sumG_bd g_bd_Weighted ok (by omega) k (by omega)
        have b1 := g_bd_Weighted okk e0.1 (by omega)

        have HS : Hid (sumG gWeighted ls (k + 1) = sumG gWeighted ls k + (jg ls k).wt * sumTo ls (k + 1)) := by unfold Hid; simp only [sumG, gWeighted]
        unfold gWeighted at b1
        clear hat
        generalize sumTo ls (k + 1) = z at *
        go_wp2
        go_quiet (fail)
        go_wp2
        go_roundw
        case rel => exact ⟨k + 1, by omega, by go_num, by rw [HS.out], hw.drewNI _⟩
        case measure => simp [intOf]; omega
      · have e : k = n := by omega
        subst e
        go_wp2
        go_ret
        exact ⟨rfl, hbw2.then hw hbw2.size⟩

set_option maxHeartbeats 1000000 in
theorem specWaiting_any (a : Option Addr) (n cap : Nat) (ls : List Jb) (w : World) (h : JobS w a n cap ls) :
    Calls Try.prog 23 #[.slice a n cap] w fun e w' => e = .returned (.int .i64 (sumV gWaiting ls)) ∧ Below w.heap.size w w' := by
  have hlen := h.len
  have hm := h.mx
  have hle := h.le
  unfold maxLen at hm
  unfold sumV
  rcases hq : jsB ls with _ | _
  · rw [if_neg (by simp)]
    go_enter Try.func23, Try.ntmps23
    go_wp2_with fail
    refine (specJobsOk_any a n cap ls _ h).mono ?_
    rw [hq]
    rintro e w1 ⟨rfl, hb1⟩
    go_wp2
    go_ret
    exact ⟨rfl, hb1⟩
  · rw [if_pos rfl, hlen]
    have hn := (jsB_t hq).n
    have ok : jokTo ls n := by rw [← hlen]; exact (jsB_t hq).ok
    go_enter Try.func23, Try.ntmps23
    go_wp2_with fail
    refine (specJobsOk_any a n cap ls _ h).mono ?_
    rw [hq]
    rintro e w1 ⟨rfl, hb1⟩
    go_wp2_with fail
    refine (l4Ends_any a n cap ls _ (h.below hb1) ok (by omega)).mono ?_
    rintro e w2 ⟨g, c, rfl, hg, hc, hnc, hI, hb2⟩
    unfold maxLen at hc
    have hbw2 := hb1.then hb2 hb1.size
    go_wp2
    go_loopw [4, 5] (fun t i wr => ∃ k : Nat, k ≤ n ∧ i = .int .i64 k ∧ t = .int .i64 (sumG gWaiting ls k) ∧ Below w2.heap.size w2 wr) (fun _ i _ => n - (intOf i).toNat)
    case atStart => exact ⟨0, by omega, rfl, rfl, Below.refl _ _⟩
    case round =>
      obtain ⟨k, hk, rfl, rfl, hw⟩ := hrel
      by_cases hlt : k < n
      · have hlt' : (k : Int) < (n : Int) := by omega
        obtain ⟨b, off, rfl, hbw, hat⟩ := h.at_ (by omega)
        have hcl := (hI.below hw).cell hlt
        rw [endsL_g _ hlt] at hcl
        have hcj := (hat.below (hbw2.then hw hbw2.size) hbw) k (by omega) 2 (by omega)
        simp only [jc] at hcj
        have e0 := sumTo_bd ok (k + 1) (by omega)
        have okk := (ok k hlt).1
        have b0 := sumG_bd g_bd_Waiting ok (by omega) k (by omega)
        have b1 := g_bd_Waiting okk e0.1 (by omega)
        have jb := jok_bd okk
        have HS : Hid (sumG gWaiting ls (k + 1) = sumG gWaiting ls k + sumTo ls (k + 1) - (jg ls k).long) := by unfold Hid; simp only [sumG, gWaiting]; omega
        unfold gWaiting at b1
        clear hat
        generalize sumTo ls (k + 1) = z at *
        go_wp2
        go_quiet (fail)
        go_wp2
        go_roundw
        case rel => exact ⟨k + 1, by omega, by go_num, by rw [HS.out], hw.drewNI _⟩
        case measure => simp [intOf]; omega
      · have e : k = n := by omega
        subst e
        go_wp2
        go_ret
        exact ⟨rfl, hbw2.then hw hbw2.size⟩

set_option maxHeartbeats 1000000 in
theorem l4Tardy_any (a : Option Addr) (n cap : Nat) (ls : List Jb) (w : World) (h : JobS w a n cap ls) (ok : jokTo ls n) (hn : n ≤ 40) :
    Calls Try.prog 55 #[.slice a n cap] w fun e w' => e = .returned (.int .i64 (sumG gTardy ls n)) ∧ Below w.heap.size w w' := by
  have hlen := h.len
  have hm := h.mx
  have hle := h.le
  unfold maxLen at hm
  go_enter Try.func55, Try.ntmps55
  go_wp2_with fail
  refine (l4Ends_any a n cap ls _ h ok hn).mono ?_
  rintro e w2 ⟨g, c, rfl, hg, hc, hnc, hI, hbw2⟩
  unfold maxLen at hc
  go_wp2
  go_loopw [4, 5] (fun t i wr => ∃ k : Nat, k ≤ n ∧ i = .int .i64 k ∧ t = .int .i64 (sumG gTardy ls k) ∧ Below w2.heap.size w2 wr) (fun _ i _ => n - (intOf i).toNat)
  case atStart => exact ⟨0, by omega, rfl, rfl, Below.refl _ _⟩
  case round =>
    obtain ⟨k, hk, rfl, rfl, hw⟩ := hrel
    by_cases hlt : k < n
    · have hlt' : (k : Int) < (n : Int) := by omega
      obtain ⟨b, off, rfl, hbw, hat⟩ := h.at_ (by omega)
      have hcl := (hI.below hw).cell hlt
      rw [endsL_g _ hlt] at hcl
      have hcj := (hat.below (hbw2.then hw hbw2.size) hbw) k (by omega) 3 (by omega)
      simp only [jc] at hcj
      have e0 := sumTo_bd ok (k + 1) (by omega)
      have b0 := sumG_bd g_bd_Tardy ok (by omega) k (by omega)
      clear hat
      by_cases hd : (jg ls k).due < sumTo ls (k + 1)
      · have HS : Hid (sumG gTardy ls (k + 1) = sumG gTardy ls k + 1) := by unfold Hid; simp only [sumG, gTardy]; rw [if_pos hd]
        generalize sumTo ls (k + 1) = z at *
        go_wp2
        go_quiet (fail)
        go_wp2
        go_roundw
        case rel => exact ⟨k + 1, by omega, by go_num, by rw [HS.out], hw.drewNI _⟩
        case measure => simp [intOf]; omega
      · have HS : Hid (sumG gTardy ls (k + 1) = sumG gTardy ls k) := by unfold Hid; simp only [sumG, gTardy]; rw [if_neg hd]; omega
        generalize sumTo ls (k + 1) = z at *
        go_wp2
        go_quiet (fail)
        go_wp2
        go_roundw
        case rel => exact ⟨k + 1, by omega, by go_num, by rw [HS.out], hw.drewNI _⟩
        case measure => simp [intOf]; omega
    · have e : k = n := by omega
      subst e
      go_wp2
      go_ret
      exact ⟨rfl, hbw2.then hw hbw2.size⟩

theorem specTardy_any (a : Option Addr) (n cap : Nat) (ls : List Jb) (w : World) (h : JobS w a n cap ls) :
    Calls Try.prog 31 #[.slice a n cap] w fun e w' => e = .returned (.int .i64 (sumV gTardy ls)) ∧ Below w.heap.size w w' := by
  have hlen := h.len
  unfold sumV
  rcases hq : jsB ls with _ | _
  · rw [if_neg (by simp)]
    go_enter Try.func31, Try.ntmps31
    go_wp2_with fail
    refine (specJobsOk_any a n cap ls _ h).mono ?_
    rw [hq]
    rintro e w1 ⟨rfl, hb1⟩
    go_wp2
    go_ret
    exact ⟨rfl, hb1⟩
  · rw [if_pos rfl, hlen]
    have hn := (jsB_t hq).n
    have ok : jokTo ls n := by rw [← hlen]; exact (jsB_t hq).ok
    go_enter Try.func31, Try.ntmps31
    go_wp2_with fail
    refine (specJobsOk_any a n cap ls _ h).mono ?_
    rw [hq]
    rintro e w1 ⟨rfl, hb1⟩
    go_wp2_with fail
    refine (l4Tardy_any a n cap ls _ (h.below hb1) ok (by omega)).mono ?_
    rintro e w2 ⟨rfl, hb2⟩
    go_wp2
    go_ret
    exact ⟨rfl, hb1.then hb2 hb1.size⟩

end Go.Proofs.Ytnbeaeekfahijaa
