/- The laws' likeParts. -/
import Derived.Test.YtkkbfblgnejonaaPartOpen
namespace Go.Proofs.Ytkkbfblgnejonaa
open Go.RowKit Go.Sort

set_option maxHeartbeats 1000000 in
theorem likeParts_same (a a' : Option Addr) (n cap cap' : Nat) (ls : List Pt) (w : World) (h : PartS w a n cap ls) (h' : PartS w a' n cap' ls) :
    Calls Try.prog 42 #[.slice a n cap, .slice a' n cap'] w fun e w' => e = .returned (.bool true) ∧ Below w.heap.size w w' := by
  have hm := h.mx
  have hle := h.le
  unfold maxLen at hm
  go_enter Try.func42, Try.ntmps42
  go_wp2
  go_loopw [5] (fun i wr => ∃ k : Nat, k ≤ n ∧ i = .int .i64 k ∧ Below w.heap.size w wr) (fun i _ => n - (intOf i).toNat)
  case atStart => exact ⟨0, by omega, rfl, Below.refl _ _⟩
  case round =>
    obtain ⟨k, hk, rfl, hw⟩ := hrel
    by_cases hlt : k < n
    · obtain ⟨b, off, rfl, hbw, hat⟩ := h.at_ (by omega)
      obtain ⟨b', off', rfl, hbw', hat'⟩ := h'.at_ (by omega)
      obtain ⟨c0, c1⟩ := (hat.below hw hbw).row (i := k) (by rw [h.len]; exact hlt)
      obtain ⟨d0, d1⟩ := (hat'.below hw hbw').row (i := k) (by rw [h.len]; exact hlt)
      have hlt' : (k : Int) < (n : Int) := by omega
      go_wp2
      go_quiet (fail)
      go_wp2
      go_roundw
      case rel => exact ⟨k + 1, by omega, by go_num, hw.drewN _⟩
      case measure => simp [intOf]; omega
    · have e : k = n := by omega
      subst e
      go_wp2
      go_ret
      exact ⟨rfl, hw⟩

end Go.Proofs.Ytkkbfblgnejonaa
