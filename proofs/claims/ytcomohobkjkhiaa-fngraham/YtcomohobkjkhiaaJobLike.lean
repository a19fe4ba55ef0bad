/- The laws' own comparing of lists of jobs. -/
import Derived.Test.YtcomohobkjkhiaaJobDs
namespace Go.Proofs.Ytcomohobkjkhiaa
open Go.RowKit Go.Sort

set_option maxHeartbeats 1000000 in
theorem likeJobs_same (a a' : Option Addr) (n cap cap' : Nat) (ls : List Jb) (w : World) (h : JobS w a n cap ls) (h' : JobS w a' n cap' ls) :
    Calls Try.prog 14 #[.slice a n cap, .slice a' n cap'] w fun e w' => e = .returned (.bool true) ∧ Below w.heap.size w w' := by
  have hm := h.mx
  have hle := h.le
  unfold maxLen at hm
  go_enter Try.func14, Try.ntmps14
  go_wp2
  go_loopw [5] (fun i wr => ∃ k : Nat, k ≤ n ∧ i = .int .i64 k ∧ Below w.heap.size w wr) (fun i _ => n - (intOf i).toNat)
  case atStart => exact ⟨0, by omega, rfl, Below.refl _ _⟩
  case round =>
    obtain ⟨k, hk, rfl, hw⟩ := hrel
    by_cases hlt : k < n
    · obtain ⟨b, off, rfl, hbw, hat⟩ := h.at_ (by omega)
      obtain ⟨b', off', rfl, hbw', hat'⟩ := h'.at_ (by omega)
      obtain ⟨c0, c1, c2, c3, c4, c5, c6⟩ := (hat.below hw hbw).job (i := k) (by rw [h.len]; exact hlt)
      obtain ⟨d0, d1, d2, d3, d4, d5, d6⟩ := (hat'.below hw hbw').job (i := k) (by rw [h.len]; exact hlt)
      have hlt' : (k : Int) < (n : Int) := by omega
      go_wp2
      go_quiet (fail)
      go_wp2
      go_roundw
      case rel => exact ⟨k + 1, by omega, by go_num, hw.drewN _⟩
      case measure => simp [intOf]; omega
    · have e : k = n := by omega
      subst e
      go_wp2
      go_ret
      exact ⟨rfl, hw⟩

set_option maxHeartbeats 1000000 in
theorem together_any (a a' : Option Addr) (n cap cap' : Nat) (ys ls : List Jb) (w : World) (h : JobS w a n cap ys) (h' : JobS w a' n cap' ls) (hin : ∀ y ∈ ys, y ∈ ls) :
    Calls Try.prog 19 #[.slice a n cap, .slice a' n cap'] w fun e w' => e = .returned (.bool true) ∧ Below w.heap.size w w' := by
  have hm := h.mx
  have hle := h.le
  have hle' := h'.le
  have hm' := h'.mx
  have hyl := h.len
  have hll := h'.len
  unfold maxLen at hm hm'
  go_enter Try.func19, Try.ntmps19
  go_wp2
  go_loopw [5] (fun i wr => ∃ k : Nat, k ≤ n ∧ i = .int .i64 k ∧ Below w.heap.size w wr) (fun i _ => n - (intOf i).toNat)
  case atStart => exact ⟨0, by omega, rfl, Below.refl _ _⟩
  case round =>
    obtain ⟨k, hk, rfl, hw⟩ := hrel
    by_cases hlt : k < n
    · obtain ⟨b, off, rfl, hbw, hat⟩ := h.at_ (by omega)
      obtain ⟨b', off', rfl, hbw', hat'⟩ := h'.at_ (by omega)
      have hlt' : (k : Int) < (n : Int) := by omega
      obtain ⟨x0, hx0, hxe⟩ : ∃ x, x < n ∧ jg ls x = jg ys k := by
        have hmem : jg ys k ∈ ls := hin _ (by rw [jg_get (show k < ys.length by omega)]; exact List.getElem_mem _)
        obtain ⟨x, hx, e⟩ := List.getElem_of_mem hmem
        exact ⟨x, by omega, by rw [jg_get hx]; exact e⟩
      have HX : Hid (jg ls x0 = jg ys k) := hxe
      clear hxe hin
      go_wp2
      go_loopw [6, 7] (fun f i wr => ∃ (m : Nat) (t : Bool), m ≤ n ∧ i = .int .i64 m ∧ f = .bool t ∧ (x0 < m → t = true) ∧ Below w.heap.size w wr) (fun _ i _ => n - (intOf i).toNat)
      case atStart => exact ⟨0, false, by omega, rfl, rfl, fun h => by omega, hw⟩
      case round =>
        obtain ⟨m, t, hmn, rfl, rfl, ht, hwi⟩ := hrel
        by_cases hmt : m < n
        · obtain ⟨c0, c1, c2, c3, c4, c5, c6⟩ := (hat.below hwi hbw).job (i := k) (by omega)
          obtain ⟨d0, d1, d2, d3, d4, d5, d6⟩ := (hat'.below hwi hbw').job (i := m) (by omega)
          have hmt' : (m : Int) < (n : Int) := by omega
          cases t with
          | true =>
            go_wp2
            go_quiet (fail)
            go_wp2
            go_roundw
            case rel => exact ⟨m + 1, true, by omega, by go_num, rfl, fun _ => rfl, hwi.drewN _⟩
            case measure => simp [intOf]; omega
          | false =>
            by_cases hme : m = x0
            · subst hme
              rw [HX.out] at d0  d1  d2  d3  d4  d5  d6
              go_wp2
              go_quiet (fail)
              go_wp2
              go_roundw
              case rel => exact ⟨m + 1, true, by omega, by go_num, rfl, fun _ => rfl, hwi.drewN _⟩
              case measure => simp [intOf]; omega
            · skip
              by_cases e0 : (jg ls m).id = (jg ys k).id
              · rw [e0] at d0
                clear e0
                by_cases e1 : (jg ls m).cores = (jg ys k).cores
                · rw [e1] at d1
                  clear e1
                  by_cases e2 : (jg ls m).long = (jg ys k).long
                  · rw [e2] at d2
                    clear e2
                    by_cases e3 : (jg ls m).due = (jg ys k).due
                    · rw [e3] at d3
                      clear e3
                      by_cases e4 : (jg ls m).wt = (jg ys k).wt
                      · rw [e4] at d4
                        clear e4
                        by_cases e5 : (jg ls m).rank = (jg ys k).rank
                        · rw [e5] at d5
                          clear e5
                          by_cases e6 : (jg ls m).at_ = (jg ys k).at_
                          · rw [e6] at d6
                            clear e6
                            go_wp2
                            go_quiet (fail)
                            go_wp2
                            go_roundw
                            case rel => exact ⟨m + 1, _, by omega, by go_num, rfl, (by first | exact fun _ => rfl | exact fun hx => absurd (ht (by omega)) Bool.false_ne_true), hwi.drewN _⟩
                            case measure => simp [intOf]; omega
                          · have n6 : ¬ (jg ys k).at_ = (jg ls m).at_ := fun e => e6 e.symm
                            have b6 : ((jg ys k).at_ == (jg ls m).at_) = false := by simpa using n6
                            go_wp2
                            go_quiet (fail)
                            go_wp2
                            go_roundw
                            case rel => exact ⟨m + 1, _, by omega, by go_num, rfl, (by first | exact fun _ => rfl | exact fun hx => absurd (ht (by omega)) Bool.false_ne_true), hwi.drewN _⟩
                            case measure => simp [intOf]; omega
                        · have n5 : ¬ (jg ys k).rank = (jg ls m).rank := fun e => e5 e.symm
                          have b5 : ((jg ys k).rank == (jg ls m).rank) = false := by simpa using n5
                          go_wp2
                          go_quiet (fail)
                          go_wp2
                          go_roundw
                          case rel => exact ⟨m + 1, _, by omega, by go_num, rfl, (by first | exact fun _ => rfl | exact fun hx => absurd (ht (by omega)) Bool.false_ne_true), hwi.drewN _⟩
                          case measure => simp [intOf]; omega
                      · have n4 : ¬ (jg ys k).wt = (jg ls m).wt := fun e => e4 e.symm
                        have b4 : ((jg ys k).wt == (jg ls m).wt) = false := by simpa using n4
                        go_wp2
                        go_quiet (fail)
                        go_wp2
                        go_roundw
                        case rel => exact ⟨m + 1, _, by omega, by go_num, rfl, (by first | exact fun _ => rfl | exact fun hx => absurd (ht (by omega)) Bool.false_ne_true), hwi.drewN _⟩
                        case measure => simp [intOf]; omega
                    · have n3 : ¬ (jg ys k).due = (jg ls m).due := fun e => e3 e.symm
                      have b3 : ((jg ys k).due == (jg ls m).due) = false := by simpa using n3
                      go_wp2
                      go_quiet (fail)
                      go_wp2
                      go_roundw
                      case rel => exact ⟨m + 1, _, by omega, by go_num, rfl, (by first | exact fun _ => rfl | exact fun hx => absurd (ht (by omega)) Bool.false_ne_true), hwi.drewN _⟩
                      case measure => simp [intOf]; omega
                  · have n2 : ¬ (jg ys k).long = (jg ls m).long := fun e => e2 e.symm
                    have b2 : ((jg ys k).long == (jg ls m).long) = false := by simpa using n2
                    go_wp2
                    go_quiet (fail)
                    go_wp2
                    go_roundw
                    case rel => exact ⟨m + 1, _, by omega, by go_num, rfl, (by first | exact fun _ => rfl | exact fun hx => absurd (ht (by omega)) Bool.false_ne_true), hwi.drewN _⟩
                    case measure => simp [intOf]; omega
                · have n1 : ¬ (jg ys k).cores = (jg ls m).cores := fun e => e1 e.symm
                  have b1 : ((jg ys k).cores == (jg ls m).cores) = false := by simpa using n1
                  go_wp2
                  go_quiet (fail)
                  go_wp2
                  go_roundw
                  case rel => exact ⟨m + 1, _, by omega, by go_num, rfl, (by first | exact fun _ => rfl | exact fun hx => absurd (ht (by omega)) Bool.false_ne_true), hwi.drewN _⟩
                  case measure => simp [intOf]; omega
              · have n0 : ¬ (jg ys k).id = (jg ls m).id := fun e => e0 e.symm
                have b0 : ((jg ys k).id == (jg ls m).id) = false := by simpa using n0
                go_wp2
                go_quiet (fail)
                go_wp2
                go_roundw
                case rel => exact ⟨m + 1, _, by omega, by go_num, rfl, (by first | exact fun _ => rfl | exact fun hx => absurd (ht (by omega)) Bool.false_ne_true), hwi.drewN _⟩
                case measure => simp [intOf]; omega
        · obtain rfl : m = n := by omega
          have htt := ht hx0
          subst htt
          go_wp2
          go_roundw
          case rel => exact ⟨k + 1, by omega, by go_num, hwi⟩
          case measure => simp [intOf]; omega
    · have e : k = n := by omega
      subst e
      go_wp2
      go_ret
      exact ⟨rfl, hw⟩

end Go.Proofs.Ytcomohobkjkhiaa
