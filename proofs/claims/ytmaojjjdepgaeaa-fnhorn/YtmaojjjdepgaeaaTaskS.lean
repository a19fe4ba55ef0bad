/- TasksOk and Demand of the model. -/
import Derived.Test.YtmaojjjdepgaeaaTaskQ
import Derived.Test.YtmaojjjdepgaeaaJobQ
namespace Go.Proofs.Ytmaojjjdepgaeaa
open Go.RowKit Go.Sort

set_option maxHeartbeats 1000000 in
theorem specTasksOk_any (a : Option Addr) (n cap : Nat) (ls : List Jb) (w : World) (h : JobS w a n cap ls) :
    Calls Try.prog 40 #[.slice a n cap] w fun e w' => e = .returned (.bool (tsB ls)) ∧ Below w.heap.size w w' := by
  have hm := h.mx
  have hle := h.le
  have hlen := h.len
  unfold maxLen at hm
  rcases hq : jsB ls with _ | _
  · rw [tsB_no fun p => by have := jsB_mk p.jobs; rw [hq] at this; cases this]
    go_enter Try.func40, Try.ntmps40
    go_wp2_with (go_at_call 62; refine (specJobsOk_any a n cap ls _ h).mono ?_; rw [hq]; rintro e w1 ⟨rfl, hb1⟩)
    go_ret
    exact ⟨rfl, hb1⟩
  by_cases c1 : 12 < n
  · have c1' : (12 : Int) < (n : Int) := by omega
    rw [tsB_no fun p => by have := p.n; omega]
    go_enter Try.func40, Try.ntmps40
    go_wp2_with (go_at_call 62; refine (specJobsOk_any a n cap ls _ h).mono ?_; rw [hq]; rintro e w1 ⟨rfl, hb1⟩)
    go_ret
    exact ⟨rfl, hb1⟩
  have c1' : ¬ (12 : Int) < (n : Int) := by omega
  have hjs := jsB_t hq
  go_enter Try.func40, Try.ntmps40
  go_wp2_with (go_at_call 62; refine (specJobsOk_any a n cap ls _ h).mono ?_; rw [hq]; rintro e w1 ⟨rfl, hb1⟩)
  go_loopw [3] (fun i wr => ∃ k : Nat, k ≤ n ∧ i = .int .i64 k ∧ Hid (∀ x, x < k → tk1 (jg ls x) = true) ∧ wr = w1) (fun i _ => n - (intOf i).toNat)
  case atStart => exact ⟨0, by omega, rfl, fun x hx => by omega, rfl⟩
  case round =>
    obtain ⟨k, hk, rfl, HK, rfl⟩ := hrel
    rename World => wr
    by_cases hlt : k < n
    · obtain ⟨b, off, rfl, hbw, hat⟩ := (h.below hb1).at_ (by omega)
      obtain ⟨hc0, hc1, hc2, hc3, hc4, hc5, hc6⟩ := hat.job (i := k) (by omega)
      have hlt' : (k : Int) < (n : Int) := by omega
      have hno : ∀ (P : Prop), tk1 (jg ls k) = false → tsB ls = false := fun _ h9 => tsB_no fun p => by have := p.one k (by omega); rw [h9] at this; cases this
      by_cases d1 : 200 < (jg ls k).at_
      · have E : Hid (tsB ls = false) := hno True (by unfold tk1; simp; omega)
        clear hat hno
        go_wp2
        go_ret
        exact ⟨by rw [E.out]; rfl, hb1⟩
      · by_cases d2 : 200 < (jg ls k).due
        · have E : Hid (tsB ls = false) := hno True (by unfold tk1; simp; omega)
          clear hat hno
          go_wp2
          go_ret
          exact ⟨by rw [E.out]; rfl, hb1⟩
        · by_cases d3 : 50 < (jg ls k).long
          · have E : Hid (tsB ls = false) := hno True (by unfold tk1; simp; omega)
            clear hat hno
            go_wp2
            go_ret
            exact ⟨by rw [E.out]; rfl, hb1⟩
          · have H1 : Hid (∀ x, x < k + 1 → tk1 (jg ls x) = true) := fun x hx => by
              by_cases e : x = k
              · subst e; unfold tk1; simp; omega
              · exact HK.out x (by omega)
            clear hat hno
            go_wp2
            go_roundw
            case rel => exact ⟨k + 1, by omega, by go_num, H1, by first | rfl | trivial⟩
            case measure => simp [intOf]; omega
    · have e : k = n := by omega
      subst e
      have E : Hid (tsB ls = true) := tsB_mk ⟨hjs, by omega, fun i hi => HK.out i (by omega)⟩
      go_wp2
      go_ret
      exact ⟨by rw [E.out]; rfl, hb1⟩

set_option maxHeartbeats 1000000 in
theorem l9Demand_any (a : Option Addr) (n cap : Nat) (ls : List Jb) (x y : Int) (w : World) (h : JobS w a n cap ls) (ho : TsOk ls) :
    Calls Try.prog 84 #[.slice a n cap, .int .i64 x, .int .i64 y] w fun e w' => e = .returned (.int .i64 (demV ls x y)) ∧ w' = w := by
  have hm := h.mx
  have hle := h.le
  have hlen := h.len
  have hn := ho.n
  unfold maxLen at hm
  go_enter Try.func84, Try.ntmps84
  go_wp2
  go_loop [7, 8] (fun s i => ∃ k : Nat, k ≤ n ∧ i = .int .i64 k ∧ s = .int .i64 (demK ls x y k)) (fun _ i => n - (intOf i).toNat)
  case atStart => exact ⟨0, by omega, rfl, rfl⟩
  case round =>
    obtain ⟨k, hk, rfl, rfl⟩ := hrel
    obtain ⟨b0, b1⟩ := demK_bd ho x y k (by omega)
    by_cases hlt : k < n
    · obtain ⟨b, off, rfl, hbw, hat⟩ := h.at_ (by omega)
      obtain ⟨hc0, hc1, hc2, hc3, hc4, hc5, hc6⟩ := hat.job (i := k) (by omega)
      have hlt' : (k : Int) < (n : Int) := by omega
      obtain ⟨t0, t1, t2, t3, t4, t5, _⟩ := ho.bd (i := k) (by omega)
      have ST := demK_succ ls x y k
      by_cases d1 : x ≤ (jg ls k).at_
      · by_cases d2 : (jg ls k).due ≤ y
        · rw [if_pos ⟨d1, d2⟩] at ST
          have HS : Hid _ := ST
          clear ST hat
          go_wp2
          go_round
          case rel => exact ⟨k + 1, by omega, by go_num, by rw [HS.out]⟩
          case measure => simp [intOf]; omega
        · rw [if_neg (fun h9 => d2 h9.2)] at ST
          have HS : Hid _ := ST
          clear ST hat
          go_wp2
          go_round
          case rel => exact ⟨k + 1, by omega, by go_num, by rw [HS.out, Int.add_zero]⟩
          case measure => simp [intOf]; omega
      · rw [if_neg (fun h9 => d1 h9.1)] at ST
        have HS : Hid _ := ST
        clear ST hat
        go_wp2
        go_round
        case rel => exact ⟨k + 1, by omega, by go_num, by rw [HS.out, Int.add_zero]⟩
        case measure => simp [intOf]; omega
    · have e : k = n := by omega
      subst e
      have HE : Hid (demK ls x y k = demV ls x y) := by unfold demV; rw [hlen]; rfl
      go_wp2
      go_ret
      exact ⟨by rw [HE.out]; rfl, rfl⟩

theorem specDemand_any (a : Option Addr) (n cap : Nat) (ls : List Jb) (x y : Int) (w : World) (h : JobS w a n cap ls) :
    Calls Try.prog 38 #[.slice a n cap, .int .i64 x, .int .i64 y] w fun e w' => e = .returned (.int .i64 (demF ls x y)) ∧ Below w.heap.size w w' := by
  rcases hq : tsB ls with _ | _
  · rw [demF_f hq]
    go_enter Try.func38, Try.ntmps38
    go_wp2_with (go_at_call 40; refine (specTasksOk_any _ _ _ _ _ h).mono ?_; rw [hq]; rintro e w1 ⟨rfl, hb1⟩)
    go_ret
    exact ⟨rfl, hb1⟩
  · rw [demF_t hq]
    go_enter Try.func38, Try.ntmps38
    go_wp2_with (first | (go_at_call 40; refine (specTasksOk_any _ _ _ _ _ h).mono ?_; rw [hq]; rintro e w1 ⟨rfl, hb1⟩) | (go_at_call 84; refine (l9Demand_any _ _ _ _ x y _ (h.below hb1) (tsB_t hq)).mono ?_; rintro e w2 ⟨rfl, hw2⟩; have hw2' := hw2.symm; clear hw2; subst hw2'))
    go_ret
    exact ⟨rfl, hb1⟩

end Go.Proofs.Ytmaojjjdepgaeaa
