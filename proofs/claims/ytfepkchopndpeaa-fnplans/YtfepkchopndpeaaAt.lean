/- What is free at a time: the model goes through all levels, the program searches. -/
import Derived.Test.YtfepkchopndpeaaProfOk2
namespace Go.Proofs.Ytfepkchopndpeaa
open Go.RowKit

set_option maxHeartbeats 400000 in
theorem specAt_any (T t : Int) (a : Option Addr) (n cap : Nat) (ls : List Lev) (w : World) (h : LevS w a n cap ls) (h0 : 0 < n) :
    Calls Try.prog 76 #[.agg #[.int .i64 T, .slice a n cap], .int .i64 t] w fun e w' => e = .returned (.int .i64 (atI ls t)) ∧ Below w.heap.size w w' := by
  have hm := h.mx
  have hle := h.le
  unfold maxLen at hm
  have hlen := h.len
  obtain ⟨b, off, rfl, hbw, hat⟩ := h.at_ h0
  have w0 : Below w.heap.size w (w.alloc (.cells #[.int .i64 T, .slice (some ⟨b, off, none⟩) n cap] 26)) := box_below
  obtain ⟨hz0, hz1⟩ := cells_below (k := 0) hat w0 hbw (by omega)
  simp only [Nat.zero_mul, Nat.add_zero] at hz0 hz1
  go_enter Try.func76, Try.ntmps76
  go_wp2
  clear hz0 hz1
  go_loop [5, 6] (fun m i => ∃ k : Nat, k ≤ n ∧ i = .int .i64 k ∧ m = .int .i64 (fe ls (lvlTo ls t k))) (fun _ i => n - (intOf i).toNat)
  case atStart => exact ⟨0, by omega, rfl, rfl⟩
  case round =>
    obtain ⟨k, hk, rfl, rfl⟩ := hrel
    by_cases hlt : k < n
    · obtain ⟨x0, x1⟩ := cells_below (k := k) hat w0 hbw (by omega)
      by_cases hc : fr ls k ≤ t
      · have e1 : lvlTo ls t (k + 1) = k := by unfold lvlTo; rw [if_pos hc]
        have E : Hid (lvlTo ls t (k + 1) = k) := e1
        clear e1
        go_wp2
        go_round
        case rel => exact ⟨k + 1, by omega, by go_num, by rw [E.out]⟩
        case measure => simp [intOf]; omega
      · have e1 : lvlTo ls t (k + 1) = lvlTo ls t k := by rw [lvlTo, if_neg hc]
        have E : Hid (lvlTo ls t (k + 1) = lvlTo ls t k) := e1
        clear e1
        go_wp2
        go_round
        case rel => exact ⟨k + 1, by omega, by go_num, by rw [E.out]⟩
        case measure => simp [intOf]; omega
    · have e : k = n := by omega
      subst e
      go_wp2
      go_ret
      exact ⟨by unfold atI lvl; rw [hlen]; rfl, w0⟩

theorem above_any (bl bt : Nat) (t : Int) (a : Option Addr) (n cap i : Nat) (ls : List Lev) (w : World) (h : LevS w a n cap ls) (hi : i < n)
    (cl : w.cell? ⟨bl, 0, none⟩ = some (.slice a n cap)) (ct : w.cell? ⟨bt, 0, none⟩ = some (.int .i64 t)) :
    Calls Try.prog 89 #[.int .i64 i, .pointer (some ⟨bl, 0, none⟩), .pointer (some ⟨bt, 0, none⟩)] w fun e w' => e = .returned (.bool (decide (t < fr ls i))) ∧ ∃ q, w' = w.drewN q := by
  have hm := h.mx
  have hle := h.le
  unfold maxLen at hm
  have hlen := h.len
  obtain ⟨b, off, rfl, hbw, hat⟩ := h.at_ (by omega)
  obtain ⟨x0, x1⟩ := hat i (by omega)
  have i1 : (0 : Int) ≤ (i : Int) := by omega
  have i2 : (i : Int) < (n : Int) := by omega
  go_enter Try.func89, Try.ntmps89
  go_wp2
  go_quiet (fail)
  go_wp2
  go_ret
  exact ⟨rfl, _, rfl⟩

set_option maxHeartbeats 1000000 in
theorem search_any (bl bt : Nat) (T t : Int) (a : Option Addr) (n cap : Nat) (ls : List Lev) (w : World) (h : LevS w a n cap ls) (po : PO T ls)
    (cl : w.cell? ⟨bl, 0, none⟩ = some (.slice a n cap)) (ct : w.cell? ⟨bt, 0, none⟩ = some (.int .i64 t)) :
    Calls Try.prog 88 #[.int .i64 n, .func (.func 89) #[] #[.pointer (some ⟨bl, 0, none⟩), .pointer (some ⟨bt, 0, none⟩)]] w fun e w' =>
      ∃ m : Nat, e = .returned (.int .i64 m) ∧ m ≤ n ∧ (∀ k, k < m → fr ls k ≤ t) ∧ (∀ k, m ≤ k → k < n → t < fr ls k) ∧ Below w.heap.size w w' := by
  have hlen := h.len
  have hn : n ≤ 200 := by have := po.n2; omega
  go_enter Try.func88, Try.ntmps88
  go_wp2
  go_loopw [5, 6] (fun i j wr => ∃ p q : Nat, p ≤ q ∧ q ≤ n ∧ i = .int .i64 p ∧ j = .int .i64 q ∧ (∀ k, k < p → fr ls k ≤ t) ∧ (∀ k, q ≤ k → k < n → t < fr ls k) ∧ ∃ c, wr = w.drewN c) (fun i j _ => (intOf j).toNat - (intOf i).toNat)
  case atStart => exact ⟨0, n, by omega, by omega, rfl, rfl, fun k hk => by omega, fun k hk hk2 => by omega, 0, rfl⟩
  case round =>
    obtain ⟨p, q, hpq, hqn, rfl, rfl, hlo, hhi, c, rfl⟩ := hrel
    by_cases hlt : p < q
    · obtain ⟨m, hm⟩ : ∃ m : Nat, m = (p + q) / 2 := ⟨_, rfl⟩
      have hm1 : p ≤ m := by omega
      have hm2 : m < q := by omega
      have E : Hid (((p : Int) + (q : Int)) / 2 = (m : Int)) := by unfold Hid; omega
      clear hm
      have hd : Below w.heap.size w (w.drewN c) := (Below.refl _ _).drewN _
      by_cases hc : t < fr ls m
      · have D : Hid (decide (t < fr ls m) = true) := by unfold Hid; simpa using hc
        go_wp2_with fail
        rw [E.out]
        refine (above_any bl bt t a n cap m ls _ (h.below hd) (by omega) cl ct).mono ?_
        rw [D.out]
        rintro e w' ⟨rfl, c', rfl⟩
        go_wp2
        go_roundw
        case rel => exact ⟨p, m, by omega, by omega, rfl, rfl, hlo, fun k h1 h2 => by have := po.le h1 (by omega); omega, c + c', rfl⟩
        case measure => simp [intOf]; omega
      · have D : Hid (decide (t < fr ls m) = false) := by unfold Hid; simpa using hc
        go_wp2_with fail
        rw [E.out]
        refine (above_any bl bt t a n cap m ls _ (h.below hd) (by omega) cl ct).mono ?_
        rw [D.out]
        rintro e w' ⟨rfl, c', rfl⟩
        go_wp2
        go_roundw
        case rel => exact ⟨m + 1, q, by omega, by omega, by go_num, rfl, fun k h1 => by have := po.le (i := k) (j := m) (by omega) (by omega); omega, hhi, c + c', rfl⟩
        case measure => simp [intOf]; omega
    · have e : p = q := by omega
      subst e
      go_wp2
      go_ret
      exact ⟨p, rfl, hqn, hlo, hhi, (Below.refl _ _).drewN _⟩

theorem levelAt_any (T t : Int) (a : Option Addr) (n cap : Nat) (ls : List Lev) (w : World) (h : LevS w a n cap ls) (po : PO T ls) (ht : 0 ≤ t) :
    Calls Try.prog 87 #[.slice a n cap, .int .i64 t] w fun e w' => e = .returned (.int .i64 (lvl ls t)) ∧ Below w.heap.size w w' := by
  have hlen := h.len
  have hn : n ≤ 200 := by have := po.n2; omega
  have w0 : Below w.heap.size w ((w.alloc (.cells #[.slice a n cap] 24)).alloc (.cells #[.int .i64 t] 2)) := ((Below.refl _ _).alloc (by simp) _).alloc (by simp) _
  go_enter Try.func87, Try.ntmps87
  go_wp2_with fail
  refine (search_any _ _ T t a n cap ls _ (h.below w0) po (by simp) (by simp)).mono ?_
  rintro e w1 ⟨m, rfl, hm, hlo, hhi, hb⟩
  obtain ⟨l1, l2, l3⟩ := po.lvl_spec ht
  have em : m = lvl ls t + 1 := by
    rcases Nat.lt_trichotomy m (lvl ls t + 1) with h1 | h1 | h1
    · have := hhi (lvl ls t) (by omega) (by omega); omega
    · exact h1
    · have := l3 (lvl ls t + 1) (by omega) (by omega); have := hlo (lvl ls t + 1) h1; omega
  subst em
  go_wp2
  go_ret
  exact ⟨ret_int (by omega), w0.then hb (by simp; omega)⟩

theorem stretchOk_any (T x y : Int) (a : Option Addr) (n cap : Nat) (ls : List Lev) (w : World) (h : LevS w a n cap ls) :
    Calls Try.prog 52 #[.agg #[.int .i64 T, .slice a n cap], .int .i64 x, .int .i64 y] w fun e w' => e = .returned (.bool (poB T ls && (okB x && okB y))) ∧ Below w.heap.size w w' := by
  have w0 : Below w.heap.size w (w.alloc (.cells #[.int .i64 T, .slice a n cap] 26)) := box_below
  by_cases c1 : poB T ls = true
  · by_cases c2 : okB x = true
    · go_enter Try.func52, Try.ntmps52
      go_wp2_with (first | (go_at_call 32; refine (implProfileOk_any T a n cap ls _ (h.below w0)).mono ?_; rintro e w1 ⟨rfl, hb⟩) | (go_at_call 58; refine (implOk_any _ _).mono ?_; rintro e w' ⟨rfl, rfl⟩))
      go_ret
      exact ⟨by rw [c1, c2]; rfl, w0.then hb (by simp)⟩
    · simp only [Bool.not_eq_true] at c2
      go_enter Try.func52, Try.ntmps52
      go_wp2_with (first | (go_at_call 32; refine (implProfileOk_any T a n cap ls _ (h.below w0)).mono ?_; rintro e w1 ⟨rfl, hb⟩) | (go_at_call 58; refine (implOk_any _ _).mono ?_; rintro e w' ⟨rfl, rfl⟩))
      go_ret
      exact ⟨by rw [c1, c2]; rfl, w0.then hb (by simp)⟩
  · simp only [Bool.not_eq_true] at c1
    go_enter Try.func52, Try.ntmps52
    go_wp2_with (first | (go_at_call 32; refine (implProfileOk_any T a n cap ls _ (h.below w0)).mono ?_; rintro e w1 ⟨rfl, hb⟩))
    go_ret
    exact ⟨by rw [c1]; rfl, w0.then hb (by simp)⟩

end Go.Proofs.Ytfepkchopndpeaa
