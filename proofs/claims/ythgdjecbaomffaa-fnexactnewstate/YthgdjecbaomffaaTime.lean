/- Contracts of the functions of chapter 1, over this seat's program: each computes a plain function of integers and leaves memory as it was. -/
import Derived.Test.YthgdjecbaomffaaRows
import Derived.WalkKit
namespace Go.Proofs.Ythgdjecbaomffaa

/-- a number from lo to hi -/
def inB (x lo hi : Int) : Bool := decide (lo ≤ x) && decide (x ≤ hi)
/-- a time -/
def okB (t : Int) : Bool := inB t 0 1000000000
def laterI (t b : Int) : Int := if t + b < 1000000000 then t + b else 1000000000
def untilI (a b : Int) : Int := if b = 1000000000 ∧ a ≠ 1000000000 then 1000000000 else if a < b then b - a else 0

theorem okB_t {t : Int} (h : okB t = true) : 0 ≤ t ∧ t ≤ 1000000000 := by
  unfold okB inB at h; simpa using h
theorem okB_f {t : Int} (h : okB t = false) : t < 0 ∨ 1000000000 < t := by
  unfold okB inB at h; simp at h; omega

theorem l1In_any (x lo hi : Int) (w : World) :
    Calls Try.prog 28 #[.int .i64 x, .int .i64 lo, .int .i64 hi] w fun e w' => e = .returned (.bool (inB x lo hi)) ∧ w' = w := by
  by_cases c1 : x < lo
  · have e1 : inB x lo hi = false := by unfold inB; simp; omega
    rw [e1]; clear e1
    go_enter Try.func28, Try.ntmps28
    go_wp2
    go_ret
    exact ⟨rfl, rfl⟩
  · have e1 : inB x lo hi = decide (x ≤ hi) := by unfold inB; simp; omega
    rw [e1]; clear e1
    go_enter Try.func28, Try.ntmps28
    go_wp2
    go_ret
    exact ⟨rfl, rfl⟩

theorem within_any (x lo hi : Int) (w : World) :
    Calls Try.prog 36 #[.int .i64 x, .int .i64 lo, .int .i64 hi] w fun e w' => e = .returned (.bool (inB x lo hi)) ∧ w' = w := by
  by_cases c1 : x < lo
  · have e1 : inB x lo hi = false := by unfold inB; simp; omega
    rw [e1]; clear e1
    go_enter Try.func36, Try.ntmps36
    go_wp2
    go_ret
    exact ⟨rfl, rfl⟩
  · have e1 : inB x lo hi = decide (x ≤ hi) := by unfold inB; simp; omega
    rw [e1]; clear e1
    go_enter Try.func36, Try.ntmps36
    go_wp2
    go_ret
    exact ⟨rfl, rfl⟩

theorem specOk_any (t : Int) (w : World) :
    Calls Try.prog 75 #[.int .i64 t] w fun e w' => e = .returned (.bool (okB t)) ∧ w' = w := by
  go_enter Try.func75, Try.ntmps75
  go_wp2_with (go_at_call 28; refine (l1In_any _ _ _ _).mono ?_; rintro e w' ⟨rfl, rfl⟩)
  go_ret
  exact ⟨rfl, rfl⟩

theorem momentOk_any (x : Int) (w : World) :
    Calls Try.prog 100 #[.int .i64 x] w fun e w' => e = .returned (.bool (okB x)) ∧ w' = w := by
  by_cases c1 : x < 0
  · have e1 : okB x = false := by unfold okB inB; simp; omega
    rw [e1]; clear e1
    go_enter Try.func100, Try.ntmps100
    go_wp2
    go_ret
    exact ⟨rfl, rfl⟩
  · have e1 : okB x = decide (x ≤ 1000000000) := by unfold okB inB; simp; omega
    rw [e1]; clear e1
    go_enter Try.func100, Try.ntmps100
    go_wp2
    go_ret
    exact ⟨rfl, rfl⟩

theorem implOk_any (t : Int) (w : World) :
    Calls Try.prog 91 #[.int .i64 t] w fun e w' => e = .returned (.bool (okB t)) ∧ w' = w := by
  go_enter Try.func91, Try.ntmps91
  go_wp2_with (go_at_call 100; refine (momentOk_any _ _).mono ?_; rintro e w' ⟨rfl, rfl⟩)
  go_ret
  exact ⟨rfl, rfl⟩

theorem ret_int {k : IntKind} {a b : Int} (h : a = b) : Ending.returned (.int k a) = .returned (.int k b) := by rw [h]

end Go.Proofs.Ythgdjecbaomffaa
