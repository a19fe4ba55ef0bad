/- Contracts of the functions of chapter 1, over this seat's program: each computes a plain function of integers and leaves memory as it was. -/
import Derived.Test.YtcmpenlgkccgkaaRows
import Derived.WalkKit
namespace Go.Proofs.Ytcmpenlgkccgkaa

/-- a number from lo to hi -/
def inB (x lo hi : Int) : Bool := decide (lo ≤ x) && decide (x ≤ hi)
/-- a time -/
def okB (t : Int) : Bool := inB t 0 1000000000
def laterI (t b : Int) : Int := if t + b < 1000000000 then t + b else 1000000000
def untilI (a b : Int) : Int := if b = 1000000000 ∧ a ≠ 1000000000 then 1000000000 else if a < b then b - a else 0

theorem okB_t {t : Int} (h : okB t = true) : 0 ≤ t ∧ t ≤ 1000000000 := by
  unfold okB inB at h; simpa using h
theorem okB_f {t : Int} (h : okB t = false) : t < 0 ∨ 1000000000 < t := by
  unfold okB inB at h; simp at h; omega

theorem l1In_any (x lo hi : Int) (w : World) :
    Calls Try.prog 33 #[.int .i64 x, .int .i64 lo, .int .i64 hi] w fun e w' => e = .returned (.bool (inB x lo hi)) ∧ w' = w := by
  by_cases c1 : x < lo
  · have e1 : inB x lo hi = false := by unfold inB; simp; omega
    rw [e1]; clear e1
    go_enter Try.func33, Try.ntmps33
    go_wp2
    go_ret
    exact ⟨rfl, rfl⟩
  · have e1 : inB x lo hi = decide (x ≤ hi) := by unfold inB; simp; omega
    rw [e1]; clear e1
    go_enter Try.func33, Try.ntmps33
    go_wp2
    go_ret
    exact ⟨rfl, rfl⟩

theorem within_any (x lo hi : Int) (w : World) :
    Calls Try.prog 66 #[.int .i64 x, .int .i64 lo, .int .i64 hi] w fun e w' => e = .returned (.bool (inB x lo hi)) ∧ w' = w := by
  by_cases c1 : x < lo
  · have e1 : inB x lo hi = false := by unfold inB; simp; omega
    rw [e1]; clear e1
    go_enter Try.func66, Try.ntmps66
    go_wp2
    go_ret
    exact ⟨rfl, rfl⟩
  · have e1 : inB x lo hi = decide (x ≤ hi) := by unfold inB; simp; omega
    rw [e1]; clear e1
    go_enter Try.func66, Try.ntmps66
    go_wp2
    go_ret
    exact ⟨rfl, rfl⟩

theorem specOk_any (t : Int) (w : World) :
    Calls Try.prog 58 #[.int .i64 t] w fun e w' => e = .returned (.bool (okB t)) ∧ w' = w := by
  go_enter Try.func58, Try.ntmps58
  go_wp2_with (go_at_call 33; refine (l1In_any _ _ _ _).mono ?_; rintro e w' ⟨rfl, rfl⟩)
  go_ret
  exact ⟨rfl, rfl⟩

theorem momentOk_any (x : Int) (w : World) :
    Calls Try.prog 83 #[.int .i64 x] w fun e w' => e = .returned (.bool (okB x)) ∧ w' = w := by
  by_cases c1 : x < 0
  · have e1 : okB x = false := by unfold okB inB; simp; omega
    rw [e1]; clear e1
    go_enter Try.func83, Try.ntmps83
    go_wp2
    go_ret
    exact ⟨rfl, rfl⟩
  · have e1 : okB x = decide (x ≤ 1000000000) := by unfold okB inB; simp; omega
    rw [e1]; clear e1
    go_enter Try.func83, Try.ntmps83
    go_wp2
    go_ret
    exact ⟨rfl, rfl⟩

theorem implOk_any (t : Int) (w : World) :
    Calls Try.prog 63 #[.int .i64 t] w fun e w' => e = .returned (.bool (okB t)) ∧ w' = w := by
  go_enter Try.func63, Try.ntmps63
  go_wp2_with (go_at_call 83; refine (momentOk_any _ _).mono ?_; rintro e w' ⟨rfl, rfl⟩)
  go_ret
  exact ⟨rfl, rfl⟩

theorem ret_int {k : IntKind} {a b : Int} (h : a = b) : Ending.returned (.int k a) = .returned (.int k b) := by rw [h]

theorem l1Min_any (a b : Int) (w : World) :
    Calls Try.prog 60 #[.int .i64 a, .int .i64 b] w fun e w' => e = .returned (.int .i64 (min a b)) ∧ w' = w := by
  by_cases c1 : a < b
  · have e1 : min a b = a := by omega
    rw [e1]; clear e1
    go_enter Try.func60, Try.ntmps60
    go_wp2
    go_ret
    exact ⟨rfl, rfl⟩
  · have e1 : min a b = b := by omega
    rw [e1]; clear e1
    go_enter Try.func60, Try.ntmps60
    go_wp2
    go_ret
    exact ⟨rfl, rfl⟩

theorem l1Max_any (a b : Int) (w : World) :
    Calls Try.prog 34 #[.int .i64 a, .int .i64 b] w fun e w' => e = .returned (.int .i64 (max a b)) ∧ w' = w := by
  by_cases c1 : b < a
  · have e1 : max a b = a := by omega
    rw [e1]; clear e1
    go_enter Try.func34, Try.ntmps34
    go_wp2
    go_ret
    exact ⟨rfl, rfl⟩
  · have e1 : max a b = b := by omega
    rw [e1]; clear e1
    go_enter Try.func34, Try.ntmps34
    go_wp2
    go_ret
    exact ⟨rfl, rfl⟩

theorem l1Later_any (t b : Int) (w : World) (h0 : 0 ≤ t) (h1 : t ≤ 1000000000) (h2 : 0 ≤ b) (h3 : b ≤ 1000000000) :
    Calls Try.prog 35 #[.int .i64 t, .int .i64 b] w fun e w' => e = .returned (.int .i64 (laterI t b)) ∧ w' = w := by
  go_enter Try.func35, Try.ntmps35
  go_wp2_with (go_at_call 60; refine (l1Min_any _ _ _).mono ?_; rintro e w' ⟨rfl, rfl⟩)
  all_goals (go_ret; exact ⟨ret_int (by unfold laterI; split <;> omega), rfl⟩)

theorem mLater_any (t b : Int) (w : World) (h0 : 0 ≤ t) (h1 : t ≤ 1000000000) (h2 : 0 ≤ b) (h3 : b ≤ 1000000000) :
    Calls Try.prog 68 #[.int .i64 t, .int .i64 b] w fun e w' => e = .returned (.int .i64 (laterI t b)) ∧ w' = w := by
  go_enter Try.func68, Try.ntmps68
  go_wp2
  all_goals (go_ret; exact ⟨ret_int (by unfold laterI; split <;> omega), rfl⟩)

end Go.Proofs.Ytcmpenlgkccgkaa
