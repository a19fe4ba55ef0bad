/- Ends, Lateness, Weighted, Tardy, Waiting of the program. -/
import Derived.Test.YtaoimijeaacaiaaEnds
import Derived.Test.YtaoimijeaacaiaaLateness
import Derived.Test.YtaoimijeaacaiaaWeighted
import Derived.Test.YtaoimijeaacaiaaTardy
import Derived.Test.YtaoimijeaacaiaaWaiting
import Derived.Test.YtaoimijeaacaiaaSlMax
namespace Go.Proofs.Ytaoimijeaacaiaa
open Go.RowKit

theorem meas_ends (ls : List Jb) (n : Nat) : meas gEnds ls n = endsL ls n := rfl

theorem implEnds_yes (a : Option Addr) (n cap : Nat) (ls : List Jb) (w : World) (h : JobS w a n cap ls) (hq : jsB ls = true) :
    Calls Try.prog 36 #[.slice a n cap] w fun e w' => ∃ g c, e = .returned (.slice (some ⟨g, 0, none⟩) n c) ∧ w.heap.size ≤ g ∧ c ≤ maxLen ∧ n ≤ c ∧ IntB w' g n (endsL ls n) ∧ Below w.heap.size w w' := by
  go_enter Try.func36, Try.ntmps36
  go_wp2_with fail
  refine (measured_yes_Ends a n cap ls _ h hq).mono ?_
  rintro e w1 ⟨g, c, rfl, hg, hc, hnc, hI, hb1⟩
  go_wp2
  go_ret
  exact ⟨g, c, rfl, hg, hc, hnc, hI, hb1⟩

theorem implEnds_no (a : Option Addr) (n cap : Nat) (ls : List Jb) (w : World) (h : JobS w a n cap ls) (hq : jsB ls = false) :
    Calls Try.prog 36 #[.slice a n cap] w fun e w' => e = .returned (.slice none 0 0) ∧ Below w.heap.size w w' := by
  go_enter Try.func36, Try.ntmps36
  go_wp2_with fail
  refine (measured_no_Ends a n cap ls _ h hq).mono ?_
  rintro e w1 ⟨rfl, hb1⟩
  go_wp2
  go_ret
  exact ⟨rfl, hb1⟩

/-- the greatest of all that is told; 0 where nothing is -/
noncomputable def lateV (ls : List Jb) : Int := if jsB ls = true ∧ 0 < ls.length then maxTo (meas gLateness ls ls.length) (ls.length - 1) else 0

set_option maxRecDepth 4000 in
theorem implLateness_any (a : Option Addr) (n cap : Nat) (ls : List Jb) (w : World) (h : JobS w a n cap ls) :
    Calls Try.prog 39 #[.slice a n cap] w fun e w' => e = .returned (.int .i64 (lateV ls)) ∧ Below w.heap.size w w' := by
  have hlen := h.len
  unfold lateV
  rcases hq : jsB ls with _ | _
  · rw [if_neg (by simp)]
    go_enter Try.func39, Try.ntmps39
    go_wp2_with fail
    refine (measured_no_Lateness a n cap ls _ h hq).mono ?_
    rintro e w1 ⟨rfl, hb1⟩
    go_wp2
    go_ret
    exact ⟨rfl, hb1⟩
  · have hn := (jsB_t hq).n
    by_cases h0 : n = 0
    · rw [if_neg (by omega)]
      subst h0
      clear hn
      go_enter Try.func39, Try.ntmps39
      go_wp2_with fail
      refine (measured_yes_Lateness a 0 cap ls _ h hq).mono ?_
      rintro e w1 ⟨g, c, rfl, hg, hc, hnc, hI, hb1⟩
      go_wp2
      go_ret
      exact ⟨rfl, hb1⟩
    · rw [if_pos ⟨rfl, by omega⟩, hlen]
      have hd : ((n : Int) == 0) = false := by simpa using h0
      go_enter Try.func39, Try.ntmps39
      go_wp2_with fail
      refine (measured_yes_Lateness a n cap ls _ h hq).mono ?_
      rintro e w1 ⟨g, c, rfl, hg, hc, hnc, hI, hb1⟩
      go_wp2_with fail
      refine (slicesMax_any g n c _ w1 hI (by omega) hnc hc).mono ?_
      rintro e w2 ⟨rfl, rfl⟩
      go_wp2
      go_ret
      exact ⟨rfl, hb1⟩

/-- a sum of all that is told; -1 where they are not right -/
noncomputable def sumV (g : Jb → Int → Int) (ls : List Jb) : Int := if jsB ls = true then sumG g ls ls.length else -1

theorem implWeighted_any (a : Option Addr) (n cap : Nat) (ls : List Jb) (w : World) (h : JobS w a n cap ls) :
    Calls Try.prog 41 #[.slice a n cap] w fun e w' => e = .returned (.int .i64 (sumV gWeighted ls)) ∧ Below w.heap.size w w' := by
  have hlen := h.len
  unfold sumV
  rcases hq : jsB ls with _ | _
  · rw [if_neg (by simp)]
    go_enter Try.func41, Try.ntmps41
    go_wp2_with fail
    refine (summed_no_Weighted a n cap ls _ h hq).mono ?_
    rintro e w1 ⟨rfl, hb1⟩
    go_wp2
    go_ret
    exact ⟨rfl, hb1⟩
  · rw [if_pos rfl, hlen]
    go_enter Try.func41, Try.ntmps41
    go_wp2_with fail
    refine (summed_yes_Weighted a n cap ls _ h hq).mono ?_
    rintro e w1 ⟨rfl, hb1⟩
    go_wp2
    go_ret
    exact ⟨rfl, hb1⟩

theorem implTardy_any (a : Option Addr) (n cap : Nat) (ls : List Jb) (w : World) (h : JobS w a n cap ls) :
    Calls Try.prog 43 #[.slice a n cap] w fun e w' => e = .returned (.int .i64 (sumV gTardy ls)) ∧ Below w.heap.size w w' := by
  have hlen := h.len
  unfold sumV
  rcases hq : jsB ls with _ | _
  · rw [if_neg (by simp)]
    go_enter Try.func43, Try.ntmps43
    go_wp2_with fail
    refine (summed_no_Tardy a n cap ls _ h hq).mono ?_
    rintro e w1 ⟨rfl, hb1⟩
    go_wp2
    go_ret
    exact ⟨rfl, hb1⟩
  · rw [if_pos rfl, hlen]
    go_enter Try.func43, Try.ntmps43
    go_wp2_with fail
    refine (summed_yes_Tardy a n cap ls _ h hq).mono ?_
    rintro e w1 ⟨rfl, hb1⟩
    go_wp2
    go_ret
    exact ⟨rfl, hb1⟩

theorem implWaiting_any (a : Option Addr) (n cap : Nat) (ls : List Jb) (w : World) (h : JobS w a n cap ls) :
    Calls Try.prog 45 #[.slice a n cap] w fun e w' => e = .returned (.int .i64 (sumV gWaiting ls)) ∧ Below w.heap.size w w' := by
  have hlen := h.len
  unfold sumV
  rcases hq : jsB ls with _ | _
  · rw [if_neg (by simp)]
    go_enter Try.func45, Try.ntmps45
    go_wp2_with fail
    refine (summed_no_Waiting a n cap ls _ h hq).mono ?_
    rintro e w1 ⟨rfl, hb1⟩
    go_wp2
    go_ret
    exact ⟨rfl, hb1⟩
  · rw [if_pos rfl, hlen]
    go_enter Try.func45, Try.ntmps45
    go_wp2_with fail
    refine (summed_yes_Waiting a n cap ls _ h hq).mono ?_
    rintro e w1 ⟨rfl, hb1⟩
    go_wp2
    go_ret
    exact ⟨rfl, hb1⟩

end Go.Proofs.Ytaoimijeaacaiaa
