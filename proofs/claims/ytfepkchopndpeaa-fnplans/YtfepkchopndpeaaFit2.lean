/- Fit, of the model: its face. -/
import Derived.Test.YtfepkchopndpeaaPkB
namespace Go.Proofs.Ytfepkchopndpeaa
open Go.RowKit

set_option maxHeartbeats 1000000 in
theorem specFit_any (T x long n' : Int) (a : Option Addr) (n cap : Nat) (ls : List Lev) (w : World) (h : LevS w a n cap ls) :
    Calls Try.prog 21 #[.agg #[.int .i64 T, .slice a n cap], .int .i64 x, .int .i64 long, .int .i64 n'] w fun e w' => e = .returned (.int .i64 (fitF T ls x long n')) ∧ Below w.heap.size w w' := by
  have w0 : Below w.heap.size w (w.alloc (.cells #[.int .i64 T, .slice a n cap] 26)) := box_below
  by_cases c1 : poB T ls = true
  · by_cases c2 : okB x = true
    · by_cases c3 : okB long = true
      · by_cases c4 : inB n' 0 T = true
        · rw [fitF_t (by rw [c1, c2, c3, c4]; rfl)]
          go_enter Try.func21, Try.ntmps21
          go_wp2_with fail
          refine (specProfileOk_any T a n cap ls _ (h.below w0)).mono ?_
          rw [c1]
          rintro e w1 ⟨rfl, U1⟩
          obtain ⟨p0, p1, hz1⟩ := box_cells U1
          go_wp2_with (first | (go_at_call 38; refine (specOk_any _ _).mono ?_; rintro e w' ⟨rfl, hq⟩; have hq' := hq.symm; clear hq; subst hq') | (go_at_call 42; refine (l1In_any _ _ _ _).mono ?_; rintro e w' ⟨rfl, hq⟩; have hq' := hq.symm; clear hq; subst hq'))
          refine (l2Fit_any T x long n' a n cap ls _ (h.below (w0.then U1 (by simp))) (poB_t c1) c2 c3 (inB_t c4).2).mono ?_
          rintro e w2 ⟨rfl, hb2⟩
          go_wp2
          go_ret
          exact ⟨rfl, (w0.then U1 (by simp)).then hb2 (w0.then U1 (by simp)).size⟩
        · simp only [Bool.not_eq_true] at c4
          rw [fitF_f (by rw [c1, c2, c3, c4]; rfl)]
          go_enter Try.func21, Try.ntmps21
          go_wp2_with fail
          refine (specProfileOk_any T a n cap ls _ (h.below w0)).mono ?_
          rw [c1]
          rintro e w1 ⟨rfl, U1⟩
          obtain ⟨p0, p1, hz1⟩ := box_cells U1
          go_wp2_with (first | (go_at_call 38; refine (specOk_any _ _).mono ?_; rintro e w' ⟨rfl, hq⟩; have hq' := hq.symm; clear hq; subst hq') | (go_at_call 42; refine (l1In_any _ _ _ _).mono ?_; rintro e w' ⟨rfl, hq⟩; have hq' := hq.symm; clear hq; subst hq'))
          go_ret
          exact ⟨rfl, w0.then U1 (by simp)⟩
      · simp only [Bool.not_eq_true] at c3
        rw [fitF_f (by rw [c1, c2, c3]; rfl)]
        go_enter Try.func21, Try.ntmps21
        go_wp2_with fail
        refine (specProfileOk_any T a n cap ls _ (h.below w0)).mono ?_
        rw [c1]
        rintro e w1 ⟨rfl, U1⟩
        go_wp2_with (go_at_call 38; refine (specOk_any _ _).mono ?_; rintro e w' ⟨rfl, rfl⟩)
        go_ret
        exact ⟨rfl, w0.then U1 (by simp)⟩
    · simp only [Bool.not_eq_true] at c2
      rw [fitF_f (by rw [c1, c2]; rfl)]
      go_enter Try.func21, Try.ntmps21
      go_wp2_with fail
      refine (specProfileOk_any T a n cap ls _ (h.below w0)).mono ?_
      rw [c1]
      rintro e w1 ⟨rfl, U1⟩
      go_wp2_with (go_at_call 38; refine (specOk_any _ _).mono ?_; rintro e w' ⟨rfl, rfl⟩)
      go_ret
      exact ⟨rfl, w0.then U1 (by simp)⟩
  · simp only [Bool.not_eq_true] at c1
    rw [fitF_f (by rw [c1]; rfl)]
    go_enter Try.func21, Try.ntmps21
    go_wp2_with fail
    refine (specProfileOk_any T a n cap ls _ (h.below w0)).mono ?_
    rw [c1]
    rintro e w1 ⟨rfl, U1⟩
    go_wp2
    go_ret
    exact ⟨rfl, w0.then U1 (by simp)⟩

end Go.Proofs.Ytfepkchopndpeaa
