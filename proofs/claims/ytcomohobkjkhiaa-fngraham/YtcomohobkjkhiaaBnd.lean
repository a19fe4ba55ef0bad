/- Bound of the model and of the program. -/
import Derived.Test.YtcomohobkjkhiaaL6
namespace Go.Proofs.Ytcomohobkjkhiaa
open Go.RowKit Go.Sort

/-- the greatest of the first k, none less than nothing -/
def mxL (ls : List Jb) : Nat → Int
  | 0 => 0
  | k + 1 => max (mxL ls k) (jg ls k).long
/-- the sum divided by m, rounded up -/
def upV (s : Int) (m : Int) : Int := (s + m - 1).tdiv m
def bndV (ls : List Jb) (m : Int) : Int := max (mxL ls ls.length) (upV (sumTo ls ls.length) m)

theorem mxL_bd {ls : List Jb} {n : Nat} (h : jokTo ls n) : ∀ k, k ≤ n → 0 ≤ mxL ls k ∧ mxL ls k ≤ 10000
  | 0, _ => by simp [mxL]
  | k + 1, hk => by
    have h1 := mxL_bd h k (by omega)
    have h2 := jok_bd (h k (by omega)).1
    simp only [mxL]; omega

theorem upV_bd {s m : Int} (h0 : 0 ≤ s) (h1 : s ≤ 400000) (m0 : 1 ≤ m) (m1 : m ≤ 10) : 0 ≤ upV s m ∧ upV s m ≤ 400010 := by
  unfold upV
  have e : (s + m - 1).tdiv m = (s + m - 1) / m := Int.tdiv_eq_ediv_of_nonneg (by omega)
  rw [e]
  refine ⟨Int.ediv_nonneg (by omega) (by omega), ?_⟩
  have := Int.ediv_le_self m (a := s + m - 1) (by omega)
  omega

theorem implBound_no (a : Option Addr) (n cap : Nat) (ls : List Jb) (m : Int) (w : World) (h : JobS w a n cap ls) (hq : shB ls m = false) :
    Calls Try.prog 9 #[.slice a n cap, .int .i64 m] w fun e w' => e = .returned (.int .i64 (-1)) ∧ Below w.heap.size w w' := by
  go_enter Try.func9, Try.ntmps9
  go_wp2_with fail
  refine (shareOk_any a n cap ls m _ h).mono ?_
  rw [hq]
  rintro e w1 ⟨rfl, hb1⟩
  go_wp2
  go_ret
  exact ⟨rfl, hb1⟩

set_option maxRecDepth 8000 in
set_option maxHeartbeats 4000000 in
theorem implBound_yes (a : Option Addr) (n cap : Nat) (ls : List Jb) (m : Int) (w : World) (h : JobS w a n cap ls) (hq : shB ls m = true) :
    Calls Try.prog 9 #[.slice a n cap, .int .i64 m] w fun e w' => e = .returned (.int .i64 (bndV ls m)) ∧ Below w.heap.size w w' := by
  obtain ⟨hjs, hm1, hm2⟩ := shB_t hq
  have hlen := h.len
  have hn := hjs.n
  have hmx := h.mx
  have hle := h.le
  have ok := hjs.ok
  rw [hlen] at ok hn
  unfold maxLen at hmx
  go_enter Try.func9, Try.ntmps9
  go_wp2_with fail
  refine (shareOk_any a n cap ls m _ h).mono ?_
  rw [hq]
  rintro e w1 ⟨rfl, hb1⟩
  go_wp2
  go_loopw [5, 6, 8, 15] (fun s g _ i wr => ∃ k : Nat, k ≤ n ∧ i = .int .i64 k ∧ s = .int .i64 (sumTo ls k) ∧ g = .int .i64 (mxL ls k) ∧ Below w.heap.size w wr) (fun _ _ _ i _ => n - (intOf i).toNat)
  case atStart => exact ⟨0, by omega, rfl, rfl, rfl, hb1⟩
  case round =>
    obtain ⟨k, hk, rfl, rfl, rfl, hw⟩ := hrel
    by_cases hlt : k < n
    · obtain ⟨b, off, rfl, hbw, hat⟩ := h.at_ (by omega)
      obtain ⟨hc0, hc1, hc2, hc3, hc4, hc5, hc6⟩ := (hat.below hw hbw).job (i := k) (by omega)
      have hlt' : (k : Int) < (n : Int) := by omega
      have bd := sumTo_bd ok k (by omega)
      have jb := jok_bd (ok k hlt).1
      have HS : Hid (sumTo ls (k + 1) = sumTo ls k + (jg ls k).long) := rfl
      have HM : Hid (mxL ls (k + 1) = max (mxL ls k) (jg ls k).long) := rfl
      have HB : Hid (Below w.heap.size w (wr.alloc (.cells #[.int .i64 (jg ls k).id, .int .i64 (jg ls k).cores, .int .i64 (jg ls k).long, .int .i64 (jg ls k).due, .int .i64 (jg ls k).wt, .int .i64 (jg ls k).rank, .int .i64 (jg ls k).at_] 46))) := hw.then box_below hw.size
      go_wp2
      go_roundw
      case rel => exact ⟨k + 1, by omega, by go_num, by rw [HS.out], by rw [HM.out]; first | done | exact congrArg (Value.int .i64) (by split <;> omega), HB.out⟩
      case measure => simp [intOf]; omega
    · have e : k = n := by omega
      subst e
      have bd := sumTo_bd ok k (by omega)
      have bm := mxL_bd ok k (by omega)
      have hm0 : m ≠ 0 := by omega
      have HL : Hid (ls.length = k) := hlen
      have HE : Hid (bndV ls m = max (mxL ls k) (upV (sumTo ls k) m)) := by unfold bndV Hid; rw [hlen]
      obtain ⟨bu0, bu1⟩ := upV_bd (s := sumTo ls k) (m := m) (by omega) (by omega) hm1 hm2
      have hu : (sumTo ls k + m - 1).tdiv m = upV (sumTo ls k) m := rfl
      go_wp2
      all_goals
        go_ret
        exact ⟨by rw [HE.out]; first | rfl | exact ret_val (congrArg (Value.int .i64) (by omega)), hw⟩

theorem specBound_no (a : Option Addr) (n cap : Nat) (ls : List Jb) (m : Int) (w : World) (h : JobS w a n cap ls) (hq : shB ls m = false) :
    Calls Try.prog 16 #[.slice a n cap, .int .i64 m] w fun e w' => e = .returned (.int .i64 (-1)) ∧ Below w.heap.size w w' := by
  unfold shB at hq
  rcases hj : jsB ls with _ | _
  · go_enter Try.func16, Try.ntmps16
    go_wp2_with (go_at_call 32; refine (specJobsOk_any a n cap ls _ h).mono ?_; rw [hj]; rintro e w1 ⟨rfl, hb1⟩)
    go_ret
    exact ⟨rfl, hb1⟩
  · rw [hj, Bool.true_and] at hq
    go_enter Try.func16, Try.ntmps16
    go_wp2_with (first
      | (go_at_call 32; refine (specJobsOk_any a n cap ls _ h).mono ?_; rw [hj]; rintro e w1 ⟨rfl, hb1⟩)
      | (go_at_call 33; refine (l1In_any _ _ _ _).mono ?_; rw [hq]; rintro e w2 ⟨rfl, rfl⟩))
    go_ret
    exact ⟨rfl, hb1⟩

set_option maxRecDepth 8000 in
set_option maxHeartbeats 4000000 in
theorem specBound_yes (a : Option Addr) (n cap : Nat) (ls : List Jb) (m : Int) (w : World) (h : JobS w a n cap ls) (hq : shB ls m = true) :
    Calls Try.prog 16 #[.slice a n cap, .int .i64 m] w fun e w' => e = .returned (.int .i64 (bndV ls m)) ∧ Below w.heap.size w w' := by
  obtain ⟨hjs, hm1, hm2⟩ := shB_t hq
  have hjq := jsB_mk hjs
  have hlen := h.len
  have hn := hjs.n
  have hmx := h.mx
  have hle := h.le
  have ok := hjs.ok
  rw [hlen] at ok hn
  unfold maxLen at hmx
  have hin : inB m 1 10 = true := by unfold inB; simp; omega
  go_enter Try.func16, Try.ntmps16
  go_wp2_with (first
    | (go_at_call 32; refine (specJobsOk_any a n cap ls _ h).mono ?_; rw [hjq]; rintro e w0 ⟨rfl, hb1⟩)
    | (go_at_call 33; refine (l1In_any _ _ _ _).mono ?_; rw [hin]; rintro e w1 ⟨rfl, rfl⟩))
  go_loop [5, 6, 7] (fun s g i => ∃ k : Nat, k ≤ n ∧ i = .int .i64 k ∧ s = .int .i64 (sumTo ls k) ∧ g = .int .i64 (mxL ls k)) (fun _ _ i => n - (intOf i).toNat)
  case atStart => exact ⟨0, by omega, rfl, rfl, rfl⟩
  case round =>
    obtain ⟨k, hk, rfl, rfl, rfl⟩ := hrel
    by_cases hlt : k < n
    · obtain ⟨b, off, rfl, hbw, hat⟩ := (h.below hb1).at_ (by omega)
      obtain ⟨hc0, hc1, hc2, hc3, hc4, hc5, hc6⟩ := hat.job (i := k) (by omega)
      have hlt' : (k : Int) < (n : Int) := by omega
      have bd := sumTo_bd ok k (by omega)
      have jb := jok_bd (ok k hlt).1
      have HS : Hid (sumTo ls (k + 1) = sumTo ls k + (jg ls k).long) := rfl
      have HM : Hid (mxL ls (k + 1) = max (mxL ls k) (jg ls k).long) := rfl
      go_wp2_with (go_at_call 37; refine (l1Max_any _ _ _).mono ?_; rintro e w' ⟨rfl, rfl⟩)
      go_round
      case rel => exact ⟨k + 1, by omega, by go_num, by rw [HS.out], by rw [HM.out]⟩
      case measure => simp [intOf]; omega
    · have e : k = n := by omega
      subst e
      have bd := sumTo_bd ok k (by omega)
      have bm := mxL_bd ok k (by omega)
      have hm0 : m ≠ 0 := by omega
      have HE : Hid (bndV ls m = max (mxL ls k) (upV (sumTo ls k) m)) := by unfold bndV Hid; rw [hlen]
      obtain ⟨bu0, bu1⟩ := upV_bd (s := sumTo ls k) (m := m) (by omega) (by omega) hm1 hm2
      have hu : (sumTo ls k + m - 1).tdiv m = upV (sumTo ls k) m := rfl
      go_wp2_with (go_at_call 37; refine (l1Max_any _ _ _).mono ?_; rintro e w' ⟨rfl, rfl⟩)
      go_ret
      exact ⟨by rw [HE.out]; rfl, hb1⟩

theorem specBound_any (a : Option Addr) (n cap : Nat) (ls : List Jb) (m : Int) (w : World) (h : JobS w a n cap ls) :
    Calls Try.prog 16 #[.slice a n cap, .int .i64 m] w fun e w' => e = .returned (.int .i64 (if shB ls m = true then bndV ls m else -1)) ∧ Below w.heap.size w w' := by
  rcases hq : shB ls m with _ | _
  · rw [if_neg (by simp)]; exact specBound_no a n cap ls m w h hq
  · rw [if_pos rfl]; exact specBound_yes a n cap ls m w h hq

theorem implBound_any (a : Option Addr) (n cap : Nat) (ls : List Jb) (m : Int) (w : World) (h : JobS w a n cap ls) :
    Calls Try.prog 9 #[.slice a n cap, .int .i64 m] w fun e w' => e = .returned (.int .i64 (if shB ls m = true then bndV ls m else -1)) ∧ Below w.heap.size w w' := by
  rcases hq : shB ls m with _ | _
  · rw [if_neg (by simp)]; exact implBound_no a n cap ls m w h hq
  · rw [if_pos rfl]; exact implBound_yes a n cap ls m w h hq

end Go.Proofs.Ytcomohobkjkhiaa
