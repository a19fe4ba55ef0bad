/- Demand of the program. -/
import Derived.Test.YtmaojjjdepgaeaaTaskFew
namespace Go.Proofs.Ytmaojjjdepgaeaa
open Go.RowKit Go.Sort

set_option maxHeartbeats 2000000 in
theorem implDemand_any (a : Option Addr) (n cap : Nat) (ls : List Jb) (x y : Int) (w : World) (h : JobS w a n cap ls) :
    Calls Try.prog 37 #[.slice a n cap, .int .i64 x, .int .i64 y] w fun e w' => e = .returned (.int .i64 (demF ls x y)) ∧ Below w.heap.size w w' := by
  rcases hq : tsB ls with _ | _
  · rw [demF_f hq]
    go_enter Try.func37, Try.ntmps37
    go_wp2_with (go_at_call 39; refine (implTasksOk_any _ _ _ _ _ h).mono ?_; rw [hq]; rintro e w1 ⟨rfl, hb1⟩)
    go_ret
    exact ⟨rfl, hb1⟩
  rw [demF_t hq]
  have ho := tsB_t hq
  have hm := h.mx
  have hle := h.le
  have hlen := h.len
  have hn := ho.n
  unfold maxLen at hm
  go_enter Try.func37, Try.ntmps37
  go_wp2_with (go_at_call 39; refine (implTasksOk_any _ _ _ _ _ h).mono ?_; rw [hq]; rintro e w1 ⟨rfl, hb1⟩)
  have h1 := h.below hb1
  go_loopw [7, 9, 15] (fun s _ i wr => ∃ k : Nat, k ≤ n ∧ i = .int .i64 k ∧ s = .int .i64 (demK ls x y k) ∧ Below w.heap.size w wr) (fun _ _ i _ => n - (intOf i).toNat)
  case atStart => exact ⟨0, by omega, rfl, rfl, hb1⟩
  case round =>
    obtain ⟨k, hk, rfl, rfl, hw⟩ := hrel
    rename World => wr
    obtain ⟨b0, b1⟩ := demK_bd ho x y k (by omega)
    by_cases hlt : k < n
    · obtain ⟨b, off, rfl, hbw, hat⟩ := h.at_ (by omega)
      obtain ⟨hc0, hc1, hc2, hc3, hc4, hc5, hc6⟩ := (hat.below hw hbw).job (i := k) (by omega)
      have hlt' : (k : Int) < (n : Int) := by omega
      obtain ⟨t0, t1, t2, t3, t4, t5, _⟩ := ho.bd (i := k) (by omega)
      have ST := demK_succ ls x y k
      have HW : Hid (∀ o, Below w.heap.size w (wr.alloc o)) := fun o => hw.alloc hw.size _
      by_cases d1 : x ≤ (jg ls k).at_
      · by_cases d2 : (jg ls k).due ≤ y
        · rw [if_pos ⟨d1, d2⟩] at ST
          have HS : Hid _ := ST
          clear ST hat
          go_wp2
          go_roundw
          case rel => exact ⟨k + 1, by omega, by go_num, by rw [HS.out], HW.out _⟩
          case measure => simp [intOf]; omega
        · rw [if_neg (fun h9 => d2 h9.2)] at ST
          have HS : Hid _ := ST
          clear ST hat
          go_wp2
          go_roundw
          case rel => exact ⟨k + 1, by omega, by go_num, by rw [HS.out, Int.add_zero], HW.out _⟩
          case measure => simp [intOf]; omega
      · rw [if_neg (fun h9 => d1 h9.1)] at ST
        have HS : Hid _ := ST
        clear ST hat
        go_wp2
        go_roundw
        case rel => exact ⟨k + 1, by omega, by go_num, by rw [HS.out, Int.add_zero], HW.out _⟩
        case measure => simp [intOf]; omega
    · have e : k = n := by omega
      subst e
      have HE : Hid (demK ls x y k = demV ls x y) := by unfold demV; rw [hlen]; rfl
      go_wp2
      go_ret
      exact ⟨by rw [HE.out]; rfl, hw⟩

end Go.Proofs.Ytmaojjjdepgaeaa
