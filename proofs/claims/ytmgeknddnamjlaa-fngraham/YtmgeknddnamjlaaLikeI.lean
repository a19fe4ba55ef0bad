/- Two rows of numbers that are alike, to the laws. -/
import Derived.Test.YtmgeknddnamjlaaIntRow
namespace Go.Proofs.Ytmgeknddnamjlaa
open Go.RowKit

set_option maxHeartbeats 400000 in
theorem likeInts_same6 (a a' : Option Addr) (n cap cap' : Nat) (zs : List Int) (w : World) (h : IntS w a n cap zs) (h' : IntS w a' n cap' zs) :
    Calls Try.prog 18 #[.slice a n cap, .slice a' n cap'] w fun e w' => e = .returned (.bool true) ∧ Below w.heap.size w w' := by
  have hm := h.mx
  have hle := h.le
  unfold maxLen at hm
  go_enter Try.func18, Try.ntmps18
  go_wp2
  go_loopw [5] (fun i wr => ∃ k : Nat, k ≤ n ∧ i = .int .i64 k ∧ Below w.heap.size w wr) (fun i _ => n - (intOf i).toNat)
  case atStart => exact ⟨0, by omega, rfl, Below.refl _ _⟩
  case round =>
    obtain ⟨k, hk, rfl, hw⟩ := hrel
    by_cases hlt : k < n
    · obtain ⟨b, off, rfl, hbw, hat⟩ := (h.below hw).at_ (by omega)
      obtain ⟨b', off', rfl, hbw', hat'⟩ := (h'.below hw).at_ (by omega)
      have hc := hat k hlt
      have hd := hat' k hlt
      have hlt' : (k : Int) < (n : Int) := by omega
      clear hat hat'
      go_wp2
      go_quiet (fail)
      go_wp2
      go_roundw
      case rel => exact ⟨k + 1, by omega, by go_num, hw.drewNI _⟩
      case measure => simp [intOf]; omega
    · have e : k = n := by omega
      subst e
      go_wp2
      go_ret
      exact ⟨rfl, hw⟩

end Go.Proofs.Ytmgeknddnamjlaa
