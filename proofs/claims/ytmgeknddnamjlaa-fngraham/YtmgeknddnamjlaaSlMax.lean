/- slices.Max of int64s. -/
import Derived.Test.YtmgeknddnamjlaaMeasOf
namespace Go.Proofs.Ytmgeknddnamjlaa
open Go.RowKit

theorem if_max (a b : Int) : (if a < b then b else a) = max a b := by
  rw [Int.max_def]
  split <;> split <;> omega

set_option maxHeartbeats 1000000 in
theorem slicesMax_any (B n cap : Nat) (zs : List Int) (w : World) (h : IntB w B n zs) (h0 : 0 < n) (hnc : n ≤ cap) (hm : cap ≤ maxLen) :
    Calls Try.prog 54 #[.slice (some ⟨B, 0, none⟩) n cap] w fun e w' => e = .returned (.int .i64 (maxTo zs (n - 1))) ∧ w' = w := by
  unfold maxLen at hm
  have hc0 := h.cell h0
  have h0' : (0 : Int) < (n : Int) := by omega
  have h1' : ¬ ((n : Int) < 1) := by omega
  go_enter Try.func54, Try.ntmps54
  go_wp2
  clear hc0
  go_loop [3, 4] (fun m i => ∃ k : Nat, k < n ∧ i = .int .i64 (k + 1) ∧ m = .int .i64 (maxTo zs k)) (fun _ i => n - (intOf i).toNat)
  case atStart => exact ⟨0, by omega, rfl, rfl⟩
  case round =>
    obtain ⟨k, hk, rfl, rfl⟩ := hrel
    by_cases hlt : k + 1 < n
    · have hlt' : (k : Int) + 1 < (n : Int) := by omega
      have hcl := h.cell hlt
      clear h
      go_wp2
      go_round
      case rel => exact ⟨k + 1, by omega, by go_num, congrArg (Value.int .i64) (if_max _ _)⟩
      case measure => simp [intOf]; omega
    · have e : k = n - 1 := by omega
      subst e
      have hn' : ¬ (((n - 1 : Nat) : Int) + 1 < (n : Int)) := by omega
      go_wp2
      go_ret
      exact ⟨rfl, rfl⟩

end Go.Proofs.Ytmgeknddnamjlaa
