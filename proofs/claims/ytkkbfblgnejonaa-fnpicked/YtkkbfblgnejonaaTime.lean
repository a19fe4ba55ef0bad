/- Contracts of the functions of chapter 1, over this seat's program: each computes a plain function of integers and leaves memory as it was. -/
import Derived.Test.YtkkbfblgnejonaaRows
import Derived.WalkKit
namespace Go.Proofs.Ytkkbfblgnejonaa

/-- a number from lo to hi -/
def inB (x lo hi : Int) : Bool := decide (lo ≤ x) && decide (x ≤ hi)
/-- a time -/
def okB (t : Int) : Bool := inB t 0 1000000000
def laterI (t b : Int) : Int := if t + b < 1000000000 then t + b else 1000000000
def untilI (a b : Int) : Int := if b = 1000000000 ∧ a ≠ 1000000000 then 1000000000 else if a < b then b - a else 0

theorem okB_t {t : Int} (h : okB t = true) : 0 ≤ t ∧ t ≤ 1000000000 := by
  unfold okB inB at h; simpa using h
theorem okB_f {t : Int} (h : okB t = false) : t < 0 ∨ 1000000000 < t := by
  unfold okB inB at h; simp at h; omega

theorem l1In_any (x lo hi : Int) (w : World) :
    Calls Try.prog 46 #[.int .i64 x, .int .i64 lo, .int .i64 hi] w fun e w' => e = .returned (.bool (inB x lo hi)) ∧ w' = w := by
  by_cases c1 : x < lo
  · have e1 : inB x lo hi = false := by unfold inB; simp; omega
    rw [e1]; clear e1
    go_enter Try.func46, Try.ntmps46
    go_wp2
    go_ret
    exact ⟨rfl, rfl⟩
  · have e1 : inB x lo hi = decide (x ≤ hi) := by unfold inB; simp; omega
    rw [e1]; clear e1
    go_enter Try.func46, Try.ntmps46
    go_wp2
    go_ret
    exact ⟨rfl, rfl⟩

theorem within_any (x lo hi : Int) (w : World) :
    Calls Try.prog 47 #[.int .i64 x, .int .i64 lo, .int .i64 hi] w fun e w' => e = .returned (.bool (inB x lo hi)) ∧ w' = w := by
  by_cases c1 : x < lo
  · have e1 : inB x lo hi = false := by unfold inB; simp; omega
    rw [e1]; clear e1
    go_enter Try.func47, Try.ntmps47
    go_wp2
    go_ret
    exact ⟨rfl, rfl⟩
  · have e1 : inB x lo hi = decide (x ≤ hi) := by unfold inB; simp; omega
    rw [e1]; clear e1
    go_enter Try.func47, Try.ntmps47
    go_wp2
    go_ret
    exact ⟨rfl, rfl⟩

theorem ret_int {k : IntKind} {a b : Int} (h : a = b) : Ending.returned (.int k a) = .returned (.int k b) := by rw [h]

theorem l1Min_any (a b : Int) (w : World) :
    Calls Try.prog 52 #[.int .i64 a, .int .i64 b] w fun e w' => e = .returned (.int .i64 (min a b)) ∧ w' = w := by
  by_cases c1 : a < b
  · have e1 : min a b = a := by omega
    rw [e1]; clear e1
    go_enter Try.func52, Try.ntmps52
    go_wp2
    go_ret
    exact ⟨rfl, rfl⟩
  · have e1 : min a b = b := by omega
    rw [e1]; clear e1
    go_enter Try.func52, Try.ntmps52
    go_wp2
    go_ret
    exact ⟨rfl, rfl⟩

theorem l1Max_any (a b : Int) (w : World) :
    Calls Try.prog 70 #[.int .i64 a, .int .i64 b] w fun e w' => e = .returned (.int .i64 (max a b)) ∧ w' = w := by
  by_cases c1 : b < a
  · have e1 : max a b = a := by omega
    rw [e1]; clear e1
    go_enter Try.func70, Try.ntmps70
    go_wp2
    go_ret
    exact ⟨rfl, rfl⟩
  · have e1 : max a b = b := by omega
    rw [e1]; clear e1
    go_enter Try.func70, Try.ntmps70
    go_wp2
    go_ret
    exact ⟨rfl, rfl⟩

end Go.Proofs.Ytkkbfblgnejonaa
