/- Contracts of the functions of chapter 1, over this seat's program: each computes a plain function of integers and leaves memory as it was. -/
import Derived.Test.YtdgfkcobhhlfbaaGreatRows
import Derived.WalkKit
namespace Go.Proofs.YtdgfkcobhhlfbaaGreat

/-- a number from lo to hi -/
def inB (x lo hi : Int) : Bool := decide (lo ≤ x) && decide (x ≤ hi)
/-- a time -/
def okB (t : Int) : Bool := inB t 0 1000000000
def laterI (t b : Int) : Int := if t + b < 1000000000 then t + b else 1000000000
def untilI (a b : Int) : Int := if b = 1000000000 ∧ a ≠ 1000000000 then 1000000000 else if a < b then b - a else 0

theorem okB_t {t : Int} (h : okB t = true) : 0 ≤ t ∧ t ≤ 1000000000 := by
  unfold okB inB at h; simpa using h
theorem okB_f {t : Int} (h : okB t = false) : t < 0 ∨ 1000000000 < t := by
  unfold okB inB at h; simp at h; omega

theorem l1In_any (x lo hi : Int) (w : World) :
    Calls Tryz.prog 29 #[.int .i64 x, .int .i64 lo, .int .i64 hi] w fun e w' => e = .returned (.bool (inB x lo hi)) ∧ w' = w := by
  by_cases c1 : x < lo
  · have e1 : inB x lo hi = false := by unfold inB; simp; omega
    rw [e1]; clear e1
    go_enter Tryz.func29, Tryz.ntmps29
    go_wp2
    go_ret
    exact ⟨rfl, rfl⟩
  · have e1 : inB x lo hi = decide (x ≤ hi) := by unfold inB; simp; omega
    rw [e1]; clear e1
    go_enter Tryz.func29, Tryz.ntmps29
    go_wp2
    go_ret
    exact ⟨rfl, rfl⟩

theorem within_any (x lo hi : Int) (w : World) :
    Calls Tryz.prog 39 #[.int .i64 x, .int .i64 lo, .int .i64 hi] w fun e w' => e = .returned (.bool (inB x lo hi)) ∧ w' = w := by
  by_cases c1 : x < lo
  · have e1 : inB x lo hi = false := by unfold inB; simp; omega
    rw [e1]; clear e1
    go_enter Tryz.func39, Tryz.ntmps39
    go_wp2
    go_ret
    exact ⟨rfl, rfl⟩
  · have e1 : inB x lo hi = decide (x ≤ hi) := by unfold inB; simp; omega
    rw [e1]; clear e1
    go_enter Tryz.func39, Tryz.ntmps39
    go_wp2
    go_ret
    exact ⟨rfl, rfl⟩

theorem specOk_any (t : Int) (w : World) :
    Calls Tryz.prog 72 #[.int .i64 t] w fun e w' => e = .returned (.bool (okB t)) ∧ w' = w := by
  go_enter Tryz.func72, Tryz.ntmps72
  go_wp2_with (go_at_call 29; refine (l1In_any _ _ _ _).mono ?_; rintro e w' ⟨rfl, rfl⟩)
  go_ret
  exact ⟨rfl, rfl⟩

theorem momentOk_any (x : Int) (w : World) :
    Calls Tryz.prog 89 #[.int .i64 x] w fun e w' => e = .returned (.bool (okB x)) ∧ w' = w := by
  by_cases c1 : x < 0
  · have e1 : okB x = false := by unfold okB inB; simp; omega
    rw [e1]; clear e1
    go_enter Tryz.func89, Tryz.ntmps89
    go_wp2
    go_ret
    exact ⟨rfl, rfl⟩
  · have e1 : okB x = decide (x ≤ 1000000000) := by unfold okB inB; simp; omega
    rw [e1]; clear e1
    go_enter Tryz.func89, Tryz.ntmps89
    go_wp2
    go_ret
    exact ⟨rfl, rfl⟩

theorem implOk_any (t : Int) (w : World) :
    Calls Tryz.prog 81 #[.int .i64 t] w fun e w' => e = .returned (.bool (okB t)) ∧ w' = w := by
  go_enter Tryz.func81, Tryz.ntmps81
  go_wp2_with (go_at_call 89; refine (momentOk_any _ _).mono ?_; rintro e w' ⟨rfl, rfl⟩)
  go_ret
  exact ⟨rfl, rfl⟩

theorem ret_int {k : IntKind} {a b : Int} (h : a = b) : Ending.returned (.int k a) = .returned (.int k b) := by rw [h]

end Go.Proofs.YtdgfkcobhhlfbaaGreat
