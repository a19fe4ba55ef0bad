/- Contracts of the functions of chapter 1, over this seat's program: each computes a plain function of integers and leaves memory as it was. -/
import Derived.Test.YtebbjmdfjmnbbaaDoorRows
import Derived.WalkKit
namespace Go.Proofs.YtebbjmdfjmnbbaaDoor

/-- a number from lo to hi -/
def inB (x lo hi : Int) : Bool := decide (lo ≤ x) && decide (x ≤ hi)
/-- a time -/
def okB (t : Int) : Bool := inB t 0 1000000000
def laterI (t b : Int) : Int := if t + b < 1000000000 then t + b else 1000000000
def untilI (a b : Int) : Int := if b = 1000000000 ∧ a ≠ 1000000000 then 1000000000 else if a < b then b - a else 0

theorem okB_t {t : Int} (h : okB t = true) : 0 ≤ t ∧ t ≤ 1000000000 := by
  unfold okB inB at h; simpa using h
theorem okB_f {t : Int} (h : okB t = false) : t < 0 ∨ 1000000000 < t := by
  unfold okB inB at h; simp at h; omega

theorem l1In_any (x lo hi : Int) (w : World) :
    Calls Tryd.prog 34 #[.int .i64 x, .int .i64 lo, .int .i64 hi] w fun e w' => e = .returned (.bool (inB x lo hi)) ∧ w' = w := by
  by_cases c1 : x < lo
  · have e1 : inB x lo hi = false := by unfold inB; simp; omega
    rw [e1]; clear e1
    go_enter Tryd.func34, Tryd.ntmps34
    go_wp2
    go_ret
    exact ⟨rfl, rfl⟩
  · have e1 : inB x lo hi = decide (x ≤ hi) := by unfold inB; simp; omega
    rw [e1]; clear e1
    go_enter Tryd.func34, Tryd.ntmps34
    go_wp2
    go_ret
    exact ⟨rfl, rfl⟩

theorem specOk_any (t : Int) (w : World) :
    Calls Tryd.prog 17 #[.int .i64 t] w fun e w' => e = .returned (.bool (okB t)) ∧ w' = w := by
  go_enter Tryd.func17, Tryd.ntmps17
  go_wp2_with (go_at_call 34; refine (l1In_any _ _ _ _).mono ?_; rintro e w' ⟨rfl, rfl⟩)
  go_ret
  exact ⟨rfl, rfl⟩

theorem momentOk_any (x : Int) (w : World) :
    Calls Tryd.prog 33 #[.int .i64 x] w fun e w' => e = .returned (.bool (okB x)) ∧ w' = w := by
  by_cases c1 : x < 0
  · have e1 : okB x = false := by unfold okB inB; simp; omega
    rw [e1]; clear e1
    go_enter Tryd.func33, Tryd.ntmps33
    go_wp2
    go_ret
    exact ⟨rfl, rfl⟩
  · have e1 : okB x = decide (x ≤ 1000000000) := by unfold okB inB; simp; omega
    rw [e1]; clear e1
    go_enter Tryd.func33, Tryd.ntmps33
    go_wp2
    go_ret
    exact ⟨rfl, rfl⟩

theorem implOk_any (t : Int) (w : World) :
    Calls Tryd.prog 16 #[.int .i64 t] w fun e w' => e = .returned (.bool (okB t)) ∧ w' = w := by
  go_enter Tryd.func16, Tryd.ntmps16
  go_wp2_with (go_at_call 33; refine (momentOk_any _ _).mono ?_; rintro e w' ⟨rfl, rfl⟩)
  go_ret
  exact ⟨rfl, rfl⟩

theorem ret_int {k : IntKind} {a b : Int} (h : a = b) : Ending.returned (.int k a) = .returned (.int k b) := by rw [h]

theorem l1Min_any (a b : Int) (w : World) :
    Calls Tryd.prog 30 #[.int .i64 a, .int .i64 b] w fun e w' => e = .returned (.int .i64 (min a b)) ∧ w' = w := by
  by_cases c1 : a < b
  · have e1 : min a b = a := by omega
    rw [e1]; clear e1
    go_enter Tryd.func30, Tryd.ntmps30
    go_wp2
    go_ret
    exact ⟨rfl, rfl⟩
  · have e1 : min a b = b := by omega
    rw [e1]; clear e1
    go_enter Tryd.func30, Tryd.ntmps30
    go_wp2
    go_ret
    exact ⟨rfl, rfl⟩

theorem l1Max_any (a b : Int) (w : World) :
    Calls Tryd.prog 29 #[.int .i64 a, .int .i64 b] w fun e w' => e = .returned (.int .i64 (max a b)) ∧ w' = w := by
  by_cases c1 : b < a
  · have e1 : max a b = a := by omega
    rw [e1]; clear e1
    go_enter Tryd.func29, Tryd.ntmps29
    go_wp2
    go_ret
    exact ⟨rfl, rfl⟩
  · have e1 : max a b = b := by omega
    rw [e1]; clear e1
    go_enter Tryd.func29, Tryd.ntmps29
    go_wp2
    go_ret
    exact ⟨rfl, rfl⟩

theorem l1Later_any (t b : Int) (w : World) (h0 : 0 ≤ t) (h1 : t ≤ 1000000000) (h2 : 0 ≤ b) (h3 : b ≤ 1000000000) :
    Calls Tryd.prog 27 #[.int .i64 t, .int .i64 b] w fun e w' => e = .returned (.int .i64 (laterI t b)) ∧ w' = w := by
  go_enter Tryd.func27, Tryd.ntmps27
  go_wp2_with (go_at_call 30; refine (l1Min_any _ _ _).mono ?_; rintro e w' ⟨rfl, rfl⟩)
  all_goals (go_ret; exact ⟨ret_int (by unfold laterI; split <;> omega), rfl⟩)

theorem mLater_any (t b : Int) (w : World) (h0 : 0 ≤ t) (h1 : t ≤ 1000000000) (h2 : 0 ≤ b) (h3 : b ≤ 1000000000) :
    Calls Tryd.prog 22 #[.int .i64 t, .int .i64 b] w fun e w' => e = .returned (.int .i64 (laterI t b)) ∧ w' = w := by
  go_enter Tryd.func22, Tryd.ntmps22
  go_wp2
  all_goals (go_ret; exact ⟨ret_int (by unfold laterI; split <;> omega), rfl⟩)

theorem l1Until_any (a b : Int) (w : World) (h0 : 0 ≤ a) (h1 : a ≤ 1000000000) (h2 : 0 ≤ b) (h3 : b ≤ 1000000000) :
    Calls Tryd.prog 28 #[.int .i64 a, .int .i64 b] w fun e w' => e = .returned (.int .i64 (untilI a b)) ∧ w' = w := by
  by_cases c1 : b = 1000000000
  · subst c1
    by_cases c2 : a < 1000000000
    · go_enter Tryd.func28, Tryd.ntmps28
      go_wp2_with (go_at_call 29; refine (l1Max_any _ _ _).mono ?_; rintro e w' ⟨rfl, rfl⟩)
      all_goals (go_ret; exact ⟨ret_int (by unfold untilI; split <;> omega), rfl⟩)
    · go_enter Tryd.func28, Tryd.ntmps28
      go_wp2_with (go_at_call 29; refine (l1Max_any _ _ _).mono ?_; rintro e w' ⟨rfl, rfl⟩)
      all_goals (go_ret; exact ⟨ret_int (by unfold untilI; split <;> omega), rfl⟩)
  · have c3 : (b == 1000000000) = false := by simpa using c1
    go_enter Tryd.func28, Tryd.ntmps28
    go_wp2_with (go_at_call 29; refine (l1Max_any _ _ _).mono ?_; rintro e w' ⟨rfl, rfl⟩)
    all_goals (go_ret; exact ⟨ret_int (by unfold untilI; split <;> omega), rfl⟩)

theorem mUntil_any (a b : Int) (w : World) (h0 : 0 ≤ a) (h1 : a ≤ 1000000000) (h2 : 0 ≤ b) (h3 : b ≤ 1000000000) :
    Calls Tryd.prog 23 #[.int .i64 a, .int .i64 b] w fun e w' => e = .returned (.int .i64 (untilI a b)) ∧ w' = w := by
  by_cases c1 : b = 1000000000
  · subst c1
    by_cases c2 : a < 1000000000
    · go_enter Tryd.func23, Tryd.ntmps23
      go_wp2
      all_goals (go_ret; exact ⟨ret_int (by unfold untilI; (repeat split) <;> omega), rfl⟩)
    · have c4 : a = 1000000000 := by omega
      subst c4
      go_enter Tryd.func23, Tryd.ntmps23
      go_wp2
      all_goals (go_ret; exact ⟨ret_int (by unfold untilI; (repeat split) <;> omega), rfl⟩)
  · have c3 : (b == 1000000000) = false := by simpa using c1
    go_enter Tryd.func23, Tryd.ntmps23
    go_wp2
    all_goals (go_ret; exact ⟨ret_int (by unfold untilI; (repeat split) <;> omega), rfl⟩)

theorem mLaterOf_any (t u : Int) (w : World) :
    Calls Tryd.prog 24 #[.int .i64 t, .int .i64 u] w fun e w' => e = .returned (.int .i64 (max t u)) ∧ w' = w := by
  go_enter Tryd.func24, Tryd.ntmps24
  go_wp2
  all_goals (go_ret; exact ⟨ret_int (by omega), rfl⟩)

theorem mEarlierOf_any (t u : Int) (w : World) :
    Calls Tryd.prog 25 #[.int .i64 t, .int .i64 u] w fun e w' => e = .returned (.int .i64 (min t u)) ∧ w' = w := by
  go_enter Tryd.func25, Tryd.ntmps25
  go_wp2
  all_goals (go_ret; exact ⟨ret_int (by omega), rfl⟩)

end Go.Proofs.YtebbjmdfjmnbbaaDoor
