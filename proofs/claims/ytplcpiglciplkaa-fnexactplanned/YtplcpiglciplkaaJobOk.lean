/- JobOk and Ahead, of the model and of the program. -/
import Derived.Test.YtplcpiglciplkaaJobIn
import Derived.Test.YtplcpiglciplkaaTime
namespace Go.Proofs.Ytplcpiglciplkaa
open Go.RowKit

/-- a right job -/
def jobB (i c l d t r a : Int) : Bool := inB i 1 1000000 && inB c 1 1000 && inB l 1 10000 && okB d && inB t 0 1000 && inB r 0 9 && okB a
/-- is a ahead of b -/
def aheadB (i r a i' r' a' : Int) : Bool := if r ≠ r' then decide (r' < r) else if a ≠ a' then decide (a < a') else decide (i < i')

set_option maxHeartbeats 1000000 in
theorem specJobOk_any (i c l d t r a : Int) (w : World) :
    Calls Try.prog 89 #[.agg #[.int .i64 i, .int .i64 c, .int .i64 l, .int .i64 d, .int .i64 t, .int .i64 r, .int .i64 a]] w fun e w' => e = .returned (.bool (jobB i c l d t r a)) ∧ Below w.heap.size w w' := by

  rcases h0 : inB i 1 1000000 with _ | _
  · have E : jobB i c l d t r a = false := by unfold jobB; simp [h0]
    rw [E]; clear E
    go_enter Try.func89, Try.ntmps89
    go_wp2_with (first | (go_at_call 62; refine (l1In_any _ _ _ _).mono ?_; rintro e w' ⟨rfl, rfl⟩) | (go_at_call 58; refine (specOk_any _ _).mono ?_; rintro e w' ⟨rfl, rfl⟩))
    go_ret
    exact ⟨rfl, (Below.refl _ _).alloc (by simp) _⟩
  rcases h1 : inB c 1 1000 with _ | _
  · have E : jobB i c l d t r a = false := by unfold jobB; simp [h1]
    rw [E]; clear E
    go_enter Try.func89, Try.ntmps89
    go_wp2_with (first | (go_at_call 62; refine (l1In_any _ _ _ _).mono ?_; rintro e w' ⟨rfl, rfl⟩) | (go_at_call 58; refine (specOk_any _ _).mono ?_; rintro e w' ⟨rfl, rfl⟩))
    go_ret
    exact ⟨rfl, (Below.refl _ _).alloc (by simp) _⟩
  rcases h2 : inB l 1 10000 with _ | _
  · have E : jobB i c l d t r a = false := by unfold jobB; simp [h2]
    rw [E]; clear E
    go_enter Try.func89, Try.ntmps89
    go_wp2_with (first | (go_at_call 62; refine (l1In_any _ _ _ _).mono ?_; rintro e w' ⟨rfl, rfl⟩) | (go_at_call 58; refine (specOk_any _ _).mono ?_; rintro e w' ⟨rfl, rfl⟩))
    go_ret
    exact ⟨rfl, (Below.refl _ _).alloc (by simp) _⟩
  rcases h3 : okB d with _ | _
  · have E : jobB i c l d t r a = false := by unfold jobB; simp [h3]
    rw [E]; clear E
    go_enter Try.func89, Try.ntmps89
    go_wp2_with (first | (go_at_call 62; refine (l1In_any _ _ _ _).mono ?_; rintro e w' ⟨rfl, rfl⟩) | (go_at_call 58; refine (specOk_any _ _).mono ?_; rintro e w' ⟨rfl, rfl⟩))
    go_ret
    exact ⟨rfl, (Below.refl _ _).alloc (by simp) _⟩
  rcases h4 : okB a with _ | _
  · have E : jobB i c l d t r a = false := by unfold jobB; simp [h4]
    rw [E]; clear E
    go_enter Try.func89, Try.ntmps89
    go_wp2_with (first | (go_at_call 62; refine (l1In_any _ _ _ _).mono ?_; rintro e w' ⟨rfl, rfl⟩) | (go_at_call 58; refine (specOk_any _ _).mono ?_; rintro e w' ⟨rfl, rfl⟩))
    go_ret
    exact ⟨rfl, (Below.refl _ _).alloc (by simp) _⟩
  rcases h5 : inB t 0 1000 with _ | _
  · have E : jobB i c l d t r a = false := by unfold jobB; simp [h5]
    rw [E]; clear E
    go_enter Try.func89, Try.ntmps89
    go_wp2_with (first | (go_at_call 62; refine (l1In_any _ _ _ _).mono ?_; rintro e w' ⟨rfl, rfl⟩) | (go_at_call 58; refine (specOk_any _ _).mono ?_; rintro e w' ⟨rfl, rfl⟩))
    go_ret
    exact ⟨rfl, (Below.refl _ _).alloc (by simp) _⟩
  rcases h6 : inB r 0 9 with _ | _
  · have E : jobB i c l d t r a = false := by unfold jobB; simp [h6]
    rw [E]; clear E
    go_enter Try.func89, Try.ntmps89
    go_wp2_with (first | (go_at_call 62; refine (l1In_any _ _ _ _).mono ?_; rintro e w' ⟨rfl, rfl⟩) | (go_at_call 58; refine (specOk_any _ _).mono ?_; rintro e w' ⟨rfl, rfl⟩))
    go_ret
    exact ⟨rfl, (Below.refl _ _).alloc (by simp) _⟩
  have E : jobB i c l d t r a = true := by unfold jobB; simp [h0, h1, h2, h3, h4, h5, h6]
  rw [E]; clear E
  go_enter Try.func89, Try.ntmps89
  go_wp2_with (first | (go_at_call 62; refine (l1In_any _ _ _ _).mono ?_; rintro e w' ⟨rfl, rfl⟩) | (go_at_call 58; refine (specOk_any _ _).mono ?_; rintro e w' ⟨rfl, rfl⟩))
  go_ret
  exact ⟨rfl, (Below.refl _ _).alloc (by simp) _⟩

set_option maxHeartbeats 1000000 in
theorem implJobOk_any (i c l d t r a : Int) (w : World) :
    Calls Try.prog 100 #[.agg #[.int .i64 i, .int .i64 c, .int .i64 l, .int .i64 d, .int .i64 t, .int .i64 r, .int .i64 a]] w fun e w' => e = .returned (.bool (jobB i c l d t r a)) ∧ Below w.heap.size w w' := by

  rcases h0 : inB i 1 1000000 with _ | _
  · have E : jobB i c l d t r a = false := by unfold jobB; simp [h0]
    rw [E]; clear E
    go_enter Try.func100, Try.ntmps100
    go_wp2_with (first | (go_at_call 90; refine (within_any _ _ _ _).mono ?_; rintro e w' ⟨rfl, rfl⟩) | (go_at_call 86; refine (implOk_any _ _).mono ?_; rintro e w' ⟨rfl, rfl⟩))
    go_ret
    exact ⟨rfl, (Below.refl _ _).alloc (by simp) _⟩
  rcases h1 : inB c 1 1000 with _ | _
  · have E : jobB i c l d t r a = false := by unfold jobB; simp [h1]
    rw [E]; clear E
    go_enter Try.func100, Try.ntmps100
    go_wp2_with (first | (go_at_call 90; refine (within_any _ _ _ _).mono ?_; rintro e w' ⟨rfl, rfl⟩) | (go_at_call 86; refine (implOk_any _ _).mono ?_; rintro e w' ⟨rfl, rfl⟩))
    go_ret
    exact ⟨rfl, (Below.refl _ _).alloc (by simp) _⟩
  rcases h2 : inB l 1 10000 with _ | _
  · have E : jobB i c l d t r a = false := by unfold jobB; simp [h2]
    rw [E]; clear E
    go_enter Try.func100, Try.ntmps100
    go_wp2_with (first | (go_at_call 90; refine (within_any _ _ _ _).mono ?_; rintro e w' ⟨rfl, rfl⟩) | (go_at_call 86; refine (implOk_any _ _).mono ?_; rintro e w' ⟨rfl, rfl⟩))
    go_ret
    exact ⟨rfl, (Below.refl _ _).alloc (by simp) _⟩
  rcases h3 : okB d with _ | _
  · have E : jobB i c l d t r a = false := by unfold jobB; simp [h3]
    rw [E]; clear E
    go_enter Try.func100, Try.ntmps100
    go_wp2_with (first | (go_at_call 90; refine (within_any _ _ _ _).mono ?_; rintro e w' ⟨rfl, rfl⟩) | (go_at_call 86; refine (implOk_any _ _).mono ?_; rintro e w' ⟨rfl, rfl⟩))
    go_ret
    exact ⟨rfl, (Below.refl _ _).alloc (by simp) _⟩
  rcases h4 : inB t 0 1000 with _ | _
  · have E : jobB i c l d t r a = false := by unfold jobB; simp [h4]
    rw [E]; clear E
    go_enter Try.func100, Try.ntmps100
    go_wp2_with (first | (go_at_call 90; refine (within_any _ _ _ _).mono ?_; rintro e w' ⟨rfl, rfl⟩) | (go_at_call 86; refine (implOk_any _ _).mono ?_; rintro e w' ⟨rfl, rfl⟩))
    go_ret
    exact ⟨rfl, (Below.refl _ _).alloc (by simp) _⟩
  rcases h5 : inB r 0 9 with _ | _
  · have E : jobB i c l d t r a = false := by unfold jobB; simp [h5]
    rw [E]; clear E
    go_enter Try.func100, Try.ntmps100
    go_wp2_with (first | (go_at_call 90; refine (within_any _ _ _ _).mono ?_; rintro e w' ⟨rfl, rfl⟩) | (go_at_call 86; refine (implOk_any _ _).mono ?_; rintro e w' ⟨rfl, rfl⟩))
    go_ret
    exact ⟨rfl, (Below.refl _ _).alloc (by simp) _⟩
  rcases h6 : okB a with _ | _
  · have E : jobB i c l d t r a = false := by unfold jobB; simp [h6]
    rw [E]; clear E
    go_enter Try.func100, Try.ntmps100
    go_wp2_with (first | (go_at_call 90; refine (within_any _ _ _ _).mono ?_; rintro e w' ⟨rfl, rfl⟩) | (go_at_call 86; refine (implOk_any _ _).mono ?_; rintro e w' ⟨rfl, rfl⟩))
    go_ret
    exact ⟨rfl, (Below.refl _ _).alloc (by simp) _⟩
  have E : jobB i c l d t r a = true := by unfold jobB; simp [h0, h1, h2, h3, h4, h5, h6]
  rw [E]; clear E
  go_enter Try.func100, Try.ntmps100
  go_wp2_with (first | (go_at_call 90; refine (within_any _ _ _ _).mono ?_; rintro e w' ⟨rfl, rfl⟩) | (go_at_call 86; refine (implOk_any _ _).mono ?_; rintro e w' ⟨rfl, rfl⟩))
  go_ret
  exact ⟨rfl, (Below.refl _ _).alloc (by simp) _⟩

end Go.Proofs.Ytplcpiglciplkaa
