/- JobsOk, of the model and of the program. -/
import Derived.Test.YtplcpiglciplkaaJobsOk
namespace Go.Proofs.Ytplcpiglciplkaa
open Go.RowKit Go.Sort

theorem js_no_ok {ls : List Jb} {k : Nat} (hk : k < ls.length) (h : jok (jg ls k) = false) : jsB ls = false := jsB_no fun p => by
  have := (p.ok k hk).1; rw [h] at this; cases this
theorem js_no_id {ls : List Jb} {k m : Nat} (hk : k < ls.length) (hm : m < k) (h : (jg ls m).id = (jg ls k).id) : jsB ls = false := jsB_no fun p => (p.ok k hk).2 m hm h

theorem ok_job (x : Jb) (w : World) :
    Calls Try.prog 100 #[.agg #[.int .i64 x.id, .int .i64 x.cores, .int .i64 x.long, .int .i64 x.due, .int .i64 x.wt, .int .i64 x.rank, .int .i64 x.at_]] w fun e w' => e = .returned (.bool (jok x)) ∧ ∃ q os', w' = grow (w.drewN q) os' := implJobOk_grow _ _ _ _ _ _ _ w

set_option maxHeartbeats 1000000 in
theorem specJobsOk_any (a : Option Addr) (n cap : Nat) (ls : List Jb) (w : World) (h : JobS w a n cap ls) :
    Calls Try.prog 57 #[.slice a n cap] w fun e w' => e = .returned (.bool (jsB ls)) ∧ Below w.heap.size w w' := by
  have hm := h.mx
  have hle := h.le
  have hlen := h.len
  unfold maxLen at hm
  by_cases c1 : 40 < n
  · rw [jsB_no fun p => by have := p.n; omega]
    go_enter Try.func57, Try.ntmps57
    go_wp2
    go_ret
    exact ⟨rfl, Below.refl _ _⟩
  · go_enter Try.func57, Try.ntmps57
    go_wp2
    go_loopw [3] (fun i wr => ∃ k : Nat, k ≤ n ∧ i = .int .i64 k ∧ jokTo ls k ∧ Below w.heap.size w wr) (fun i _ => n - (intOf i).toNat)
    case atStart => exact ⟨0, by omega, rfl, fun i hi => by omega, Below.refl _ _⟩
    case round =>
      obtain ⟨k, hk, rfl, hok, hw⟩ := hrel
      by_cases hlt : k < n
      · obtain ⟨b, off, rfl, hbw, hat⟩ := h.at_ (by omega)
        obtain ⟨hc0, hc1, hc2, hc3, hc4, hc5, hc6⟩ := (hat.below hw hbw).job (i := k) (by omega)
        have hlt' : (k : Int) < (n : Int) := by omega
        rcases hj : jok (jg ls k) with _ | _
        · have E := js_no_ok (by omega) hj
          unfold jok at hj
          go_wp2_with (go_at_call 89; refine (specJobOk_any _ _ _ _ _ _ _ _).mono ?_; rw [hj]; rintro e w1 ⟨rfl, hb1⟩)
          go_ret
          exact ⟨by rw [E]; rfl, hw.then hb1 hw.size⟩
        · have HJ : Hid (jok (jg ls k) = true) := hj
          unfold jok at hj
          go_wp2_with (go_at_call 89; refine (specJobOk_any _ _ _ _ _ _ _ _).mono ?_; rw [hj]; rintro e w1 ⟨rfl, hb1⟩)
          have hw1 := hw.then hb1 hw.size
          clear hj hc0 hc1 hc2 hc3 hc4 hc5 hc6
          go_loopw [4] (fun i wr => ∃ m : Nat, m ≤ k ∧ i = .int .i64 m ∧ (∀ x, x < m → (jg ls x).id ≠ (jg ls k).id) ∧ Below w.heap.size w wr) (fun i _ => k - (intOf i).toNat)
          case atStart => exact ⟨0, by omega, rfl, fun i hi => by omega, hw1⟩
          case round =>
            obtain ⟨m, hmk, rfl, hno, hwi⟩ := hrel
            by_cases hmt : m < k
            · have hm0 := (hat.below hwi hbw) m (by omega) 0 (by omega)
              have hk0 := (hat.below hwi hbw) k (by omega) 0 (by omega)
              simp only [jc, Nat.add_zero] at hm0 hk0
              have hmt' : (m : Int) < (k : Int) := by omega
              have hmn' : (m : Int) < (n : Int) := by omega
              by_cases hc : (jg ls m).id = (jg ls k).id
              · have E := js_no_id (by omega) hmt hc
                have hc' : ((jg ls m).id == (jg ls k).id) = true := by simpa using hc
                clear hc
                go_wp2
                go_quiet (fail)
                go_wp2
                go_ret
                exact ⟨by rw [E]; rfl, hwi.drewN _⟩
              · have hc' : ((jg ls m).id == (jg ls k).id) = false := by simpa using hc
                go_wp2
                go_quiet (fail)
                go_wp2
                go_roundw
                case rel => exact ⟨m + 1, by omega, by go_num, fun x hx => by (by_cases e : x = m; (subst e; exact hc); exact hno x (by omega)), hwi.drewN _⟩
                case measure => simp [intOf]; omega
            · have e : m = k := by omega
              subst e
              go_wp2
              go_roundw
              case rel => exact ⟨m + 1, by omega, by go_num, jokTo_succ hok HJ.out hno, hwi⟩
              case measure => simp [intOf]; omega
      · have e : k = n := by omega
        subst e
        go_wp2
        go_ret
        exact ⟨by rw [jsB_mk ⟨by omega, by rw [hlen]; exact hok⟩]; rfl, hw⟩

end Go.Proofs.Ytplcpiglciplkaa
