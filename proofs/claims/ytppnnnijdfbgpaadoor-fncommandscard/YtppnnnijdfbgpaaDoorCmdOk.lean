/- CommandOk of the model. -/
import Derived.Test.YtppnnnijdfbgpaaDoorCommandIn
import Derived.Test.YtppnnnijdfbgpaaDoorTime
namespace Go.Proofs.YtppnnnijdfbgpaaDoor
open Go.RowKit

/-- a right command -/
def cmB (k a b c : Int) : Bool :=
  if k = 1 then inB a 1 1000 && (inB b 1 10000 && inB c 0 9)
  else if k = 2 then inB a 1 1000000 && (decide (b = 0) && decide (c = 0))
  else if k = 3 then okB a && (decide (b = 0) && decide (c = 0))
  else if k = 4 then inB a 0 7 && (decide (b = 0) && decide (c = 0))
  else if k = 5 then inB a 0 7 && (decide (b = 0) && decide (c = 0))
  else if k = 6 then inB a 0 7 && (decide (b = 0) && decide (c = 0))
  else if k = 7 then inB a 1 1000000 && (inB b 1 1000000 && decide (c = 0))
  else false

set_option maxHeartbeats 4000000 in
theorem specCommandOk_any (k a b c : Int) (w : World) :
    Calls Tryd.prog 15 #[.agg #[.int .i64 k, .int .i64 a, .int .i64 b, .int .i64 c]] w fun e w' => e = .returned (.bool (cmB k a b c)) ∧ Below w.heap.size w w' := by
  by_cases k1 : k = 1
  · subst k1
    rcases h0 : inB a 1 1000 with _ | _
    · have E : cmB 1 a b c = false := by unfold cmB; simp [h0]
      rw [E]; clear E
      go_enter Tryd.func15, Tryd.ntmps15
      go_wp2_with (first | (go_at_call 33; refine (l1In_any _ _ _ _).mono ?_; rintro e w' ⟨rfl, hq⟩; have hq' := hq.symm; clear hq; subst hq') | (go_at_call 34; refine (specOk_any _ _).mono ?_; rintro e w' ⟨rfl, hq⟩; have hq' := hq.symm; clear hq; subst hq'))
      go_ret
      refine ⟨?_, box_below⟩
      first | rfl | (show Ending.returned (.bool _) = .returned (.bool _); simp [h0])
    rcases h1 : inB b 1 10000 with _ | _
    · have E : cmB 1 a b c = false := by unfold cmB; simp [h0, h1]
      rw [E]; clear E
      go_enter Tryd.func15, Tryd.ntmps15
      go_wp2_with (first | (go_at_call 33; refine (l1In_any _ _ _ _).mono ?_; rintro e w' ⟨rfl, hq⟩; have hq' := hq.symm; clear hq; subst hq') | (go_at_call 34; refine (specOk_any _ _).mono ?_; rintro e w' ⟨rfl, hq⟩; have hq' := hq.symm; clear hq; subst hq'))
      go_ret
      refine ⟨?_, box_below⟩
      first | rfl | (show Ending.returned (.bool _) = .returned (.bool _); simp [h1])
    rcases h2 : inB c 0 9 with _ | _
    · have E : cmB 1 a b c = false := by unfold cmB; simp [h0, h1, h2]
      rw [E]; clear E
      go_enter Tryd.func15, Tryd.ntmps15
      go_wp2_with (first | (go_at_call 33; refine (l1In_any _ _ _ _).mono ?_; rintro e w' ⟨rfl, hq⟩; have hq' := hq.symm; clear hq; subst hq') | (go_at_call 34; refine (specOk_any _ _).mono ?_; rintro e w' ⟨rfl, hq⟩; have hq' := hq.symm; clear hq; subst hq'))
      go_ret
      refine ⟨?_, box_below⟩
      first | rfl | (show Ending.returned (.bool _) = .returned (.bool _); simp [h2])
    have E : cmB 1 a b c = true := by unfold cmB; simp [h0, h1, h2]
    rw [E]; clear E
    go_enter Tryd.func15, Tryd.ntmps15
    go_wp2_with (first | (go_at_call 33; refine (l1In_any _ _ _ _).mono ?_; rintro e w' ⟨rfl, hq⟩; have hq' := hq.symm; clear hq; subst hq') | (go_at_call 34; refine (specOk_any _ _).mono ?_; rintro e w' ⟨rfl, hq⟩; have hq' := hq.symm; clear hq; subst hq'))
    go_ret
    refine ⟨?_, box_below⟩
    first | rfl | (show Ending.returned (.bool _) = .returned (.bool _); simp [h2])
  by_cases k2 : k = 2
  · subst k2
    rcases h0 : inB a 1 1000000 with _ | _
    · have E : cmB 2 a b c = false := by unfold cmB; simp [h0]
      rw [E]; clear E
      go_enter Tryd.func15, Tryd.ntmps15
      go_wp2_with (first | (go_at_call 33; refine (l1In_any _ _ _ _).mono ?_; rintro e w' ⟨rfl, hq⟩; have hq' := hq.symm; clear hq; subst hq') | (go_at_call 34; refine (specOk_any _ _).mono ?_; rintro e w' ⟨rfl, hq⟩; have hq' := hq.symm; clear hq; subst hq'))
      go_ret
      refine ⟨?_, box_below⟩
      first | rfl | (show Ending.returned (.bool _) = .returned (.bool _); simp [h0])
    rcases (Classical.em (b = 0)).symm with h1 | h1
    · have E : cmB 2 a b c = false := by unfold cmB; simp [h0, h1]
      rw [E]; clear E
      go_enter Tryd.func15, Tryd.ntmps15
      go_wp2_with (first | (go_at_call 33; refine (l1In_any _ _ _ _).mono ?_; rintro e w' ⟨rfl, hq⟩; have hq' := hq.symm; clear hq; subst hq') | (go_at_call 34; refine (specOk_any _ _).mono ?_; rintro e w' ⟨rfl, hq⟩; have hq' := hq.symm; clear hq; subst hq'))
      go_ret
      refine ⟨?_, box_below⟩
      first | rfl | (show Ending.returned (.bool _) = .returned (.bool _); simp [h1])
    rcases (Classical.em (c = 0)).symm with h2 | h2
    · have E : cmB 2 a b c = false := by unfold cmB; simp [h0, h1, h2]
      rw [E]; clear E
      go_enter Tryd.func15, Tryd.ntmps15
      go_wp2_with (first | (go_at_call 33; refine (l1In_any _ _ _ _).mono ?_; rintro e w' ⟨rfl, hq⟩; have hq' := hq.symm; clear hq; subst hq') | (go_at_call 34; refine (specOk_any _ _).mono ?_; rintro e w' ⟨rfl, hq⟩; have hq' := hq.symm; clear hq; subst hq'))
      go_ret
      refine ⟨?_, box_below⟩
      first | rfl | (show Ending.returned (.bool _) = .returned (.bool _); simp [h2])
    have E : cmB 2 a b c = true := by unfold cmB; simp [h0, h1, h2]
    rw [E]; clear E
    go_enter Tryd.func15, Tryd.ntmps15
    go_wp2_with (first | (go_at_call 33; refine (l1In_any _ _ _ _).mono ?_; rintro e w' ⟨rfl, hq⟩; have hq' := hq.symm; clear hq; subst hq') | (go_at_call 34; refine (specOk_any _ _).mono ?_; rintro e w' ⟨rfl, hq⟩; have hq' := hq.symm; clear hq; subst hq'))
    go_ret
    refine ⟨?_, box_below⟩
    first | rfl | (show Ending.returned (.bool _) = .returned (.bool _); simp [h2])
  by_cases k3 : k = 3
  · subst k3
    rcases h0 : okB a with _ | _
    · have E : cmB 3 a b c = false := by unfold cmB; simp [h0]
      rw [E]; clear E
      go_enter Tryd.func15, Tryd.ntmps15
      go_wp2_with (first | (go_at_call 33; refine (l1In_any _ _ _ _).mono ?_; rintro e w' ⟨rfl, hq⟩; have hq' := hq.symm; clear hq; subst hq') | (go_at_call 34; refine (specOk_any _ _).mono ?_; rintro e w' ⟨rfl, hq⟩; have hq' := hq.symm; clear hq; subst hq'))
      go_ret
      refine ⟨?_, box_below⟩
      first | rfl | (show Ending.returned (.bool _) = .returned (.bool _); simp [h0])
    rcases (Classical.em (b = 0)).symm with h1 | h1
    · have E : cmB 3 a b c = false := by unfold cmB; simp [h0, h1]
      rw [E]; clear E
      go_enter Tryd.func15, Tryd.ntmps15
      go_wp2_with (first | (go_at_call 33; refine (l1In_any _ _ _ _).mono ?_; rintro e w' ⟨rfl, hq⟩; have hq' := hq.symm; clear hq; subst hq') | (go_at_call 34; refine (specOk_any _ _).mono ?_; rintro e w' ⟨rfl, hq⟩; have hq' := hq.symm; clear hq; subst hq'))
      go_ret
      refine ⟨?_, box_below⟩
      first | rfl | (show Ending.returned (.bool _) = .returned (.bool _); simp [h1])
    rcases (Classical.em (c = 0)).symm with h2 | h2
    · have E : cmB 3 a b c = false := by unfold cmB; simp [h0, h1, h2]
      rw [E]; clear E
      go_enter Tryd.func15, Tryd.ntmps15
      go_wp2_with (first | (go_at_call 33; refine (l1In_any _ _ _ _).mono ?_; rintro e w' ⟨rfl, hq⟩; have hq' := hq.symm; clear hq; subst hq') | (go_at_call 34; refine (specOk_any _ _).mono ?_; rintro e w' ⟨rfl, hq⟩; have hq' := hq.symm; clear hq; subst hq'))
      go_ret
      refine ⟨?_, box_below⟩
      first | rfl | (show Ending.returned (.bool _) = .returned (.bool _); simp [h2])
    have E : cmB 3 a b c = true := by unfold cmB; simp [h0, h1, h2]
    rw [E]; clear E
    go_enter Tryd.func15, Tryd.ntmps15
    go_wp2_with (first | (go_at_call 33; refine (l1In_any _ _ _ _).mono ?_; rintro e w' ⟨rfl, hq⟩; have hq' := hq.symm; clear hq; subst hq') | (go_at_call 34; refine (specOk_any _ _).mono ?_; rintro e w' ⟨rfl, hq⟩; have hq' := hq.symm; clear hq; subst hq'))
    go_ret
    refine ⟨?_, box_below⟩
    first | rfl | (show Ending.returned (.bool _) = .returned (.bool _); simp [h2])
  by_cases k4 : k = 4
  · subst k4
    rcases h0 : inB a 0 7 with _ | _
    · have E : cmB 4 a b c = false := by unfold cmB; simp [h0]
      rw [E]; clear E
      go_enter Tryd.func15, Tryd.ntmps15
      go_wp2_with (first | (go_at_call 33; refine (l1In_any _ _ _ _).mono ?_; rintro e w' ⟨rfl, hq⟩; have hq' := hq.symm; clear hq; subst hq') | (go_at_call 34; refine (specOk_any _ _).mono ?_; rintro e w' ⟨rfl, hq⟩; have hq' := hq.symm; clear hq; subst hq'))
      go_ret
      refine ⟨?_, box_below⟩
      first | rfl | (show Ending.returned (.bool _) = .returned (.bool _); simp [h0])
    rcases (Classical.em (b = 0)).symm with h1 | h1
    · have E : cmB 4 a b c = false := by unfold cmB; simp [h0, h1]
      rw [E]; clear E
      go_enter Tryd.func15, Tryd.ntmps15
      go_wp2_with (first | (go_at_call 33; refine (l1In_any _ _ _ _).mono ?_; rintro e w' ⟨rfl, hq⟩; have hq' := hq.symm; clear hq; subst hq') | (go_at_call 34; refine (specOk_any _ _).mono ?_; rintro e w' ⟨rfl, hq⟩; have hq' := hq.symm; clear hq; subst hq'))
      go_ret
      refine ⟨?_, box_below⟩
      first | rfl | (show Ending.returned (.bool _) = .returned (.bool _); simp [h1])
    rcases (Classical.em (c = 0)).symm with h2 | h2
    · have E : cmB 4 a b c = false := by unfold cmB; simp [h0, h1, h2]
      rw [E]; clear E
      go_enter Tryd.func15, Tryd.ntmps15
      go_wp2_with (first | (go_at_call 33; refine (l1In_any _ _ _ _).mono ?_; rintro e w' ⟨rfl, hq⟩; have hq' := hq.symm; clear hq; subst hq') | (go_at_call 34; refine (specOk_any _ _).mono ?_; rintro e w' ⟨rfl, hq⟩; have hq' := hq.symm; clear hq; subst hq'))
      go_ret
      refine ⟨?_, box_below⟩
      first | rfl | (show Ending.returned (.bool _) = .returned (.bool _); simp [h2])
    have E : cmB 4 a b c = true := by unfold cmB; simp [h0, h1, h2]
    rw [E]; clear E
    go_enter Tryd.func15, Tryd.ntmps15
    go_wp2_with (first | (go_at_call 33; refine (l1In_any _ _ _ _).mono ?_; rintro e w' ⟨rfl, hq⟩; have hq' := hq.symm; clear hq; subst hq') | (go_at_call 34; refine (specOk_any _ _).mono ?_; rintro e w' ⟨rfl, hq⟩; have hq' := hq.symm; clear hq; subst hq'))
    go_ret
    refine ⟨?_, box_below⟩
    first | rfl | (show Ending.returned (.bool _) = .returned (.bool _); simp [h2])
  by_cases k5 : k = 5
  · subst k5
    rcases h0 : inB a 0 7 with _ | _
    · have E : cmB 5 a b c = false := by unfold cmB; simp [h0]
      rw [E]; clear E
      go_enter Tryd.func15, Tryd.ntmps15
      go_wp2_with (first | (go_at_call 33; refine (l1In_any _ _ _ _).mono ?_; rintro e w' ⟨rfl, hq⟩; have hq' := hq.symm; clear hq; subst hq') | (go_at_call 34; refine (specOk_any _ _).mono ?_; rintro e w' ⟨rfl, hq⟩; have hq' := hq.symm; clear hq; subst hq'))
      go_ret
      refine ⟨?_, box_below⟩
      first | rfl | (show Ending.returned (.bool _) = .returned (.bool _); simp [h0])
    rcases (Classical.em (b = 0)).symm with h1 | h1
    · have E : cmB 5 a b c = false := by unfold cmB; simp [h0, h1]
      rw [E]; clear E
      go_enter Tryd.func15, Tryd.ntmps15
      go_wp2_with (first | (go_at_call 33; refine (l1In_any _ _ _ _).mono ?_; rintro e w' ⟨rfl, hq⟩; have hq' := hq.symm; clear hq; subst hq') | (go_at_call 34; refine (specOk_any _ _).mono ?_; rintro e w' ⟨rfl, hq⟩; have hq' := hq.symm; clear hq; subst hq'))
      go_ret
      refine ⟨?_, box_below⟩
      first | rfl | (show Ending.returned (.bool _) = .returned (.bool _); simp [h1])
    rcases (Classical.em (c = 0)).symm with h2 | h2
    · have E : cmB 5 a b c = false := by unfold cmB; simp [h0, h1, h2]
      rw [E]; clear E
      go_enter Tryd.func15, Tryd.ntmps15
      go_wp2_with (first | (go_at_call 33; refine (l1In_any _ _ _ _).mono ?_; rintro e w' ⟨rfl, hq⟩; have hq' := hq.symm; clear hq; subst hq') | (go_at_call 34; refine (specOk_any _ _).mono ?_; rintro e w' ⟨rfl, hq⟩; have hq' := hq.symm; clear hq; subst hq'))
      go_ret
      refine ⟨?_, box_below⟩
      first | rfl | (show Ending.returned (.bool _) = .returned (.bool _); simp [h2])
    have E : cmB 5 a b c = true := by unfold cmB; simp [h0, h1, h2]
    rw [E]; clear E
    go_enter Tryd.func15, Tryd.ntmps15
    go_wp2_with (first | (go_at_call 33; refine (l1In_any _ _ _ _).mono ?_; rintro e w' ⟨rfl, hq⟩; have hq' := hq.symm; clear hq; subst hq') | (go_at_call 34; refine (specOk_any _ _).mono ?_; rintro e w' ⟨rfl, hq⟩; have hq' := hq.symm; clear hq; subst hq'))
    go_ret
    refine ⟨?_, box_below⟩
    first | rfl | (show Ending.returned (.bool _) = .returned (.bool _); simp [h2])
  by_cases k6 : k = 6
  · subst k6
    rcases h0 : inB a 0 7 with _ | _
    · have E : cmB 6 a b c = false := by unfold cmB; simp [h0]
      rw [E]; clear E
      go_enter Tryd.func15, Tryd.ntmps15
      go_wp2_with (first | (go_at_call 33; refine (l1In_any _ _ _ _).mono ?_; rintro e w' ⟨rfl, hq⟩; have hq' := hq.symm; clear hq; subst hq') | (go_at_call 34; refine (specOk_any _ _).mono ?_; rintro e w' ⟨rfl, hq⟩; have hq' := hq.symm; clear hq; subst hq'))
      go_ret
      refine ⟨?_, box_below⟩
      first | rfl | (show Ending.returned (.bool _) = .returned (.bool _); simp [h0])
    rcases (Classical.em (b = 0)).symm with h1 | h1
    · have E : cmB 6 a b c = false := by unfold cmB; simp [h0, h1]
      rw [E]; clear E
      go_enter Tryd.func15, Tryd.ntmps15
      go_wp2_with (first | (go_at_call 33; refine (l1In_any _ _ _ _).mono ?_; rintro e w' ⟨rfl, hq⟩; have hq' := hq.symm; clear hq; subst hq') | (go_at_call 34; refine (specOk_any _ _).mono ?_; rintro e w' ⟨rfl, hq⟩; have hq' := hq.symm; clear hq; subst hq'))
      go_ret
      refine ⟨?_, box_below⟩
      first | rfl | (show Ending.returned (.bool _) = .returned (.bool _); simp [h1])
    rcases (Classical.em (c = 0)).symm with h2 | h2
    · have E : cmB 6 a b c = false := by unfold cmB; simp [h0, h1, h2]
      rw [E]; clear E
      go_enter Tryd.func15, Tryd.ntmps15
      go_wp2_with (first | (go_at_call 33; refine (l1In_any _ _ _ _).mono ?_; rintro e w' ⟨rfl, hq⟩; have hq' := hq.symm; clear hq; subst hq') | (go_at_call 34; refine (specOk_any _ _).mono ?_; rintro e w' ⟨rfl, hq⟩; have hq' := hq.symm; clear hq; subst hq'))
      go_ret
      refine ⟨?_, box_below⟩
      first | rfl | (show Ending.returned (.bool _) = .returned (.bool _); simp [h2])
    have E : cmB 6 a b c = true := by unfold cmB; simp [h0, h1, h2]
    rw [E]; clear E
    go_enter Tryd.func15, Tryd.ntmps15
    go_wp2_with (first | (go_at_call 33; refine (l1In_any _ _ _ _).mono ?_; rintro e w' ⟨rfl, hq⟩; have hq' := hq.symm; clear hq; subst hq') | (go_at_call 34; refine (specOk_any _ _).mono ?_; rintro e w' ⟨rfl, hq⟩; have hq' := hq.symm; clear hq; subst hq'))
    go_ret
    refine ⟨?_, box_below⟩
    first | rfl | (show Ending.returned (.bool _) = .returned (.bool _); simp [h2])
  by_cases k7 : k = 7
  · subst k7
    rcases h0 : inB a 1 1000000 with _ | _
    · have E : cmB 7 a b c = false := by unfold cmB; simp [h0]
      rw [E]; clear E
      go_enter Tryd.func15, Tryd.ntmps15
      go_wp2_with (first | (go_at_call 33; refine (l1In_any _ _ _ _).mono ?_; rintro e w' ⟨rfl, hq⟩; have hq' := hq.symm; clear hq; subst hq') | (go_at_call 34; refine (specOk_any _ _).mono ?_; rintro e w' ⟨rfl, hq⟩; have hq' := hq.symm; clear hq; subst hq'))
      go_ret
      refine ⟨?_, box_below⟩
      first | rfl | (show Ending.returned (.bool _) = .returned (.bool _); simp [h0])
    rcases h1 : inB b 1 1000000 with _ | _
    · have E : cmB 7 a b c = false := by unfold cmB; simp [h0, h1]
      rw [E]; clear E
      go_enter Tryd.func15, Tryd.ntmps15
      go_wp2_with (first | (go_at_call 33; refine (l1In_any _ _ _ _).mono ?_; rintro e w' ⟨rfl, hq⟩; have hq' := hq.symm; clear hq; subst hq') | (go_at_call 34; refine (specOk_any _ _).mono ?_; rintro e w' ⟨rfl, hq⟩; have hq' := hq.symm; clear hq; subst hq'))
      go_ret
      refine ⟨?_, box_below⟩
      first | rfl | (show Ending.returned (.bool _) = .returned (.bool _); simp [h1])
    rcases (Classical.em (c = 0)).symm with h2 | h2
    · have E : cmB 7 a b c = false := by unfold cmB; simp [h0, h1, h2]
      rw [E]; clear E
      go_enter Tryd.func15, Tryd.ntmps15
      go_wp2_with (first | (go_at_call 33; refine (l1In_any _ _ _ _).mono ?_; rintro e w' ⟨rfl, hq⟩; have hq' := hq.symm; clear hq; subst hq') | (go_at_call 34; refine (specOk_any _ _).mono ?_; rintro e w' ⟨rfl, hq⟩; have hq' := hq.symm; clear hq; subst hq'))
      go_ret
      refine ⟨?_, box_below⟩
      first | rfl | (show Ending.returned (.bool _) = .returned (.bool _); simp [h2])
    have E : cmB 7 a b c = true := by unfold cmB; simp [h0, h1, h2]
    rw [E]; clear E
    go_enter Tryd.func15, Tryd.ntmps15
    go_wp2_with (first | (go_at_call 33; refine (l1In_any _ _ _ _).mono ?_; rintro e w' ⟨rfl, hq⟩; have hq' := hq.symm; clear hq; subst hq') | (go_at_call 34; refine (specOk_any _ _).mono ?_; rintro e w' ⟨rfl, hq⟩; have hq' := hq.symm; clear hq; subst hq'))
    go_ret
    refine ⟨?_, box_below⟩
    first | rfl | (show Ending.returned (.bool _) = .returned (.bool _); simp [h2])
  have E : cmB k a b c = false := by unfold cmB; simp [k1, k2, k3, k4, k5, k6, k7]
  rw [E]; clear E
  go_enter Tryd.func15, Tryd.ntmps15
  go_wp2
  go_ret
  exact ⟨rfl, box_below⟩
/-- a boxed struct of four cells is still there -/
theorem box4_cells {w wi : World} {v0 v1 v2 v3 : Value} {T : TypeId} (U : Below (w.alloc (.cells #[v0, v1, v2, v3] T)).heap.size (w.alloc (.cells #[v0, v1, v2, v3] T)) wi) :
    wi.cell? ⟨w.heap.size, 0, none⟩ = some v0 ∧ wi.cell? ⟨w.heap.size, 1, none⟩ = some v1 ∧ wi.cell? ⟨w.heap.size, 2, none⟩ = some v2 ∧ wi.cell? ⟨w.heap.size, 3, none⟩ = some v3 ∧ w.heap.size < wi.heap.size := by
  refine ⟨(U.cell (p := ⟨w.heap.size, 0, none⟩) (by simp)).trans (by simp), (U.cell (p := ⟨w.heap.size, 1, none⟩) (by simp)).trans (by simp), (U.cell (p := ⟨w.heap.size, 2, none⟩) (by simp)).trans (by simp), (U.cell (p := ⟨w.heap.size, 3, none⟩) (by simp)).trans (by simp), ?_⟩
  have := U.size
  simp at this; omega
end Go.Proofs.YtppnnnijdfbgpaaDoor
