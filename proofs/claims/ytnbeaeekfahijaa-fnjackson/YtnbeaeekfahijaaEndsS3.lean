/- Lateness of the model. -/
import Derived.Test.YtnbeaeekfahijaaEndsI
namespace Go.Proofs.Ytnbeaeekfahijaa
open Go.RowKit

set_option maxHeartbeats 2000000 in
theorem specLateness_any (a : Option Addr) (n cap : Nat) (ls : List Jb) (w : World) (h : JobS w a n cap ls) :
    Calls Try.prog 21 #[.slice a n cap] w fun e w' => e = .returned (.int .i64 (lateV ls)) ∧ Below w.heap.size w w' := by
  have hlen := h.len
  have hm := h.mx
  have hle := h.le
  unfold maxLen at hm
  unfold lateV
  rcases hq : jsB ls with _ | _
  · rw [if_neg (by simp)]
    go_enter Try.func21, Try.ntmps21
    go_wp2_with fail
    refine (specJobsOk_any a n cap ls _ h).mono ?_
    rw [hq]
    rintro e w1 ⟨rfl, hb1⟩
    go_wp2
    go_ret
    exact ⟨rfl, hb1⟩
  · have hn := (jsB_t hq).n
    by_cases h0 : n = 0
    · rw [if_neg (by omega)]
      subst h0
      clear hn
      go_enter Try.func21, Try.ntmps21
      go_wp2_with fail
      refine (specJobsOk_any a 0 cap ls _ h).mono ?_
      rw [hq]
      rintro e w1 ⟨rfl, hb1⟩
      go_wp2
      go_ret
      exact ⟨rfl, hb1⟩
    · rw [if_pos ⟨rfl, by omega⟩, hlen]
      have ok : jokTo ls n := by rw [← hlen]; exact (jsB_t hq).ok
      have hd : ((n : Int) == 0) = false := by simpa using h0
      have h0' : (0 : Int) < (n : Int) := by omega
      obtain ⟨b, off, rfl, hbw, hat⟩ := h.at_ (by omega)
      go_enter Try.func21, Try.ntmps21
      go_wp2_with fail
      refine (specJobsOk_any (some ⟨b, off, none⟩) n cap ls _ h).mono ?_
      rw [hq]
      rintro e w1 ⟨rfl, hb1⟩
      go_wp2_with fail
      refine (l4Ends_any (some ⟨b, off, none⟩) n cap ls _ (h.below hb1) ok (by omega)).mono ?_
      rintro e w2 ⟨g, c, rfl, hg, hc, hnc, hI, hb2⟩
      unfold maxLen at hc
      have hbw2 := hb1.then hb2 hb1.size
      have hcl0 := hI.cell (i := 0) (by omega)
      rw [endsL_g _ (show 0 < n by omega)] at hcl0
      have hcj0 := (hat.below hbw2 hbw) 0 (by omega) 3 (by omega)
      simp only [jc, Nat.zero_mul, Nat.add_zero] at hcj0
      have bd0 := sumTo_bd ok 1 (by omega)
      have jb0' := jok_bd (ok 0 (by omega)).1
      have HM0 : Hid (maxTo (meas gLateness ls n) 0 = sumTo ls 1 - (jg ls 0).due) := by
        show zg (meas gLateness ls n) 0 = _
        rw [meas_g _ _ (by omega)]; rfl
      go_wp2
      go_quiet (fail)
      clear hcl0 hcj0
      go_wp2
      go_loopw [4, 5] (fun t i wr => ∃ k : Nat, k ≤ n ∧ i = .int .i64 k ∧ t = .int .i64 (maxTo (meas gLateness ls n) (k - 1)) ∧ Below w2.heap.size w2 wr) (fun _ i _ => n - (intOf i).toNat)
      case atStart => exact ⟨0, by omega, rfl, by rw [HM0.out], (Below.refl _ _).drewNI _⟩
      case round =>
        obtain ⟨k, hk, rfl, rfl, hw⟩ := hrel
        by_cases hlt : k < n
        · have hlt' : (k : Int) < (n : Int) := by omega
          have hcl := (hI.below hw).cell hlt
          rw [endsL_g _ hlt] at hcl
          have hcj := (hat.below (hbw2.then hw hbw2.size) hbw) k (by omega) 3 (by omega)
          simp only [jc] at hcj
          have e0 := sumTo_bd ok (k + 1) (by omega)
          have jb := jok_bd (ok k hlt).1
          have HS : Hid (max (maxTo (meas gLateness ls n) (k - 1)) (sumTo ls (k + 1) - (jg ls k).due) = maxTo (meas gLateness ls n) k) := by
            unfold Hid
            have hz : zg (meas gLateness ls n) k = sumTo ls (k + 1) - (jg ls k).due := by rw [meas_g _ _ hlt]; rfl
            rw [← hz]
            rcases k with _ | m
            · exact Int.max_self _
            · rfl
          generalize sumTo ls (k + 1) = z at *
          generalize maxTo (meas gLateness ls n) (k - 1) = y at *
          go_wp2
          go_quiet ((go_at_call 47; exact Calls.quiet_of_same (l1Max_any _ _ _)))
          go_wp2
          go_roundw
          case rel => exact ⟨k + 1, by omega, by go_num, by rw [HS.out]; rfl, hw.drewNI _⟩
          case measure => simp [intOf]; omega
        · have e : k = n := by omega
          subst e
          go_wp2
          go_ret
          exact ⟨rfl, hbw2.then hw hbw2.size⟩

end Go.Proofs.Ytnbeaeekfahijaa
