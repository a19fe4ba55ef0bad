/- Optimum of the program and of the model. -/
import Derived.Test.YtbnocnadlleibaaBestS
namespace Go.Proofs.Ytbnocnadlleibaa
open Go.RowKit Go.Sort

/-- are these few enough jobs, for few enough machines -/
noncomputable def optB (ls : List Jb) (m : Int) : Bool := jsB ls && decide (ls.length ≤ 7) && inB m 1 4
noncomputable def optI (ls : List Jb) (m : Int) : Int := if optB ls m = true then optV (longs ls) m.toNat else -1
theorem optB_t {ls : List Jb} {m : Int} (h : optB ls m = true) : JsOk ls ∧ ls.length ≤ 7 ∧ 1 ≤ m ∧ m ≤ 4 := by
  unfold optB inB at h
  simp only [Bool.and_eq_true, decide_eq_true_eq] at h
  exact ⟨jsB_t h.1.1, h.1.2, h.2.1, h.2.2⟩
theorem optI_no {ls : List Jb} {m : Int} (h : ¬ (JsOk ls ∧ ls.length ≤ 7 ∧ 1 ≤ m ∧ m ≤ 4)) : optI ls m = -1 := by
  unfold optI; rw [if_neg (fun h1 => h (optB_t h1))]
theorem optI_yes {ls : List Jb} {m : Nat} (h : JsOk ls) (h1 : ls.length ≤ 7) (h2 : 1 ≤ m) (h3 : m ≤ 4) : optI ls m = bestV (longs ls) (List.replicate m 0) := by
  unfold optI
  rw [if_pos]
  · rfl
  · unfold optB inB
    rw [jsB_mk h]
    simp; omega
theorem opt_least {ls : List Jb} {m : Nat} (h : JsOk ls) (h1 : ls.length ≤ 7) (h2 : 1 ≤ m) (h3 : m ≤ 4) : leastV (longs ls) (List.replicate m 0) = optI ls m := by
  rw [optI_yes h h1 h2 h3]
  have hl := longs_len ls
  exact (least_best (longs ls) (List.replicate m 0) 0 (by simpa using h2) (LdOk.rep m) (Int.le_refl _) (by rw [hl]; omega) (fun p hp => by have := longs_bd h p hp; omega)).1

theorem below_of_but {w w1 w2 w' : World} {B : Nat} (h : Below w.heap.size w w1) (hb : But B w2 w') (hB : w1.heap.size ≤ B) (hx : Below w1.heap.size w1 w2) : Below w.heap.size w w' :=
  (h.then hx h.size).trans (hb.below (by have := h.size; omega) (by have := h.size; have := hx.size; omega))

set_option maxRecDepth 8000 in
set_option maxHeartbeats 4000000 in
theorem implOptimum_any (a : Option Addr) (n cap : Nat) (ls : List Jb) (m : Int) (w : World) (h : JobS w a n cap ls) :
    Calls Try.prog 12 #[.slice a n cap, .int .i64 m] w fun e w' => e = .returned (.int .i64 (optI ls m)) ∧ Below w.heap.size w w' := by
  have hlen := h.len
  have hmx := h.mx
  have hle := h.le
  unfold maxLen at hmx
  rcases hq : shB ls m with _ | _
  · rw [optI_no (fun hh => by have := shB_mk (jsB_mk hh.1) hh.2.2.1 (by omega : m ≤ 10); rw [hq] at this; cases this)]
    go_enter Try.func12, Try.ntmps12
    go_wp2_with (go_at_call 40; refine (shareOk_any a n cap ls m _ h).mono ?_; rw [hq]; rintro e w1 ⟨rfl, hb1⟩)
    go_ret
    exact ⟨rfl, hb1⟩
  · obtain ⟨hjs, hm1, hm2⟩ := shB_t hq
    by_cases hn7 : n ≤ 7
    · have hn7' : ¬ ((7 : Int) < (n : Int)) := by omega
      by_cases hm4 : m ≤ 4
      · have hm4' : ¬ (4 < m) := by omega
        obtain ⟨m, rfl⟩ : ∃ m' : Nat, m = m' := ⟨m.toNat, by omega⟩
        rw [← opt_least hjs (by omega) (by omega) (by omega)]
        have hmk := run_makeM m (by omega)
        have hl := longs_len ls
        have hpb : ∀ p ∈ longs ls, 1 ≤ p ∧ p ≤ 10000 := longs_bd hjs
        have HP : Hid _ := hpb
        have HLS : Hid (ls.length = n) := hlen
        clear hpb hl hlen
        go_enter Try.func12, Try.ntmps12
        go_wp2_with (first
          | (go_at_call 40; refine (shareOk_any a n cap ls m _ h).mono ?_; rw [hq]; rintro e w1 ⟨rfl, hb1⟩
             have bx1 : Below w1.heap.size w1 (w1.alloc (.cells (madeCells #[.int .i64 0] m) 2)) := box_below
             have C2 := leastSpan_any ls a n cap w1.heap.size m (List.replicate m 0) 0 _ ((h.below hb1).below bx1) (LdB.made w1 m) (by simp) (by omega) (by omega) (LdOk.rep m) (Int.le_refl _) (by rw [HLS.out]; omega) HP.out (fun h0 b off s e => by
               obtain ⟨b', off', e', hb', _⟩ := (h.below hb1).at_ h0
               rw [e] at e'; injection e' with e'; injection e' with e1 _ _; omega))
          | (go_at_call 41; refine C2.mono ?_; rintro e w2 ⟨rfl, _, B2⟩))
        go_ret
        exact ⟨rfl, below_of_but hb1 B2 (Nat.le_refl _) bx1⟩
      · have hm4' : 4 < m := by omega
        rw [optI_no (fun hh => by omega)]
        go_enter Try.func12, Try.ntmps12
        go_wp2_with (go_at_call 40; refine (shareOk_any a n cap ls m _ h).mono ?_; rw [hq]; rintro e w1 ⟨rfl, hb1⟩)
        go_ret
        exact ⟨rfl, hb1⟩
    · have hn7' : (7 : Int) < (n : Int) := by omega
      rw [optI_no (fun hh => by omega)]
      go_enter Try.func12, Try.ntmps12
      go_wp2_with (go_at_call 40; refine (shareOk_any a n cap ls m _ h).mono ?_; rw [hq]; rintro e w1 ⟨rfl, hb1⟩)
      go_ret
      exact ⟨rfl, hb1⟩

theorem specOptimum_no (a : Option Addr) (n cap : Nat) (ls : List Jb) (m : Int) (w : World) (h : JobS w a n cap ls) (hq : ¬ (JsOk ls ∧ ls.length ≤ 7 ∧ 1 ≤ m ∧ m ≤ 4)) :
    Calls Try.prog 17 #[.slice a n cap, .int .i64 m] w fun e w' => e = .returned (.int .i64 (-1)) ∧ Below w.heap.size w w' := by
  have hlen := h.len
  rcases hj : jsB ls with _ | _
  · go_enter Try.func17, Try.ntmps17
    go_wp2_with (go_at_call 47; refine (specJobsOk_any a n cap ls _ h).mono ?_; rw [hj]; rintro e w1 ⟨rfl, hb1⟩)
    go_ret
    exact ⟨rfl, hb1⟩
  · have hjs := jsB_t hj
    by_cases hn7 : n ≤ 7
    · have hn7' : ¬ ((7 : Int) < (n : Int)) := by omega
      have hin : inB m 1 4 = false := by unfold inB; simp; intro h1; have : ¬ (m ≤ 4) := fun h2 => hq ⟨hjs, by omega, h1, h2⟩; omega
      go_enter Try.func17, Try.ntmps17
      go_wp2_with (first
        | (go_at_call 47; refine (specJobsOk_any a n cap ls _ h).mono ?_; rw [hj]; rintro e w1 ⟨rfl, hb1⟩)
        | (go_at_call 48; refine (l1In_any _ _ _ _).mono ?_; rw [hin]; rintro e w2 ⟨rfl, rfl⟩))
      go_ret
      exact ⟨rfl, hb1⟩
    · have hn7' : (7 : Int) < (n : Int) := by omega
      go_enter Try.func17, Try.ntmps17
      go_wp2_with (go_at_call 47; refine (specJobsOk_any a n cap ls _ h).mono ?_; rw [hj]; rintro e w1 ⟨rfl, hb1⟩)
      go_ret
      exact ⟨rfl, hb1⟩

set_option maxRecDepth 8000 in
set_option maxHeartbeats 4000000 in
theorem specOptimum_any (a : Option Addr) (n cap : Nat) (ls : List Jb) (m : Int) (w : World) (h : JobS w a n cap ls) :
    Calls Try.prog 17 #[.slice a n cap, .int .i64 m] w fun e w' => e = .returned (.int .i64 (optI ls m)) ∧ Below w.heap.size w w' := by
  have hlen := h.len
  have hmx := h.mx
  have hle := h.le
  unfold maxLen at hmx
  by_cases hq : JsOk ls ∧ ls.length ≤ 7 ∧ 1 ≤ m ∧ m ≤ 4
  · obtain ⟨hjs, hn7, hm1, hm4⟩ := hq
    have hjq := jsB_mk hjs
    have hn7' : ¬ ((7 : Int) < (n : Int)) := by omega
    have hin : inB m 1 4 = true := by unfold inB; simp; omega
    obtain ⟨m, rfl⟩ : ∃ m' : Nat, m = m' := ⟨m.toNat, by omega⟩
    rw [optI_yes hjs hn7 (by omega) (by omega)]
    have hmk := run_makeM m (by omega)
    have hpb : ∀ p ∈ longs ls, 1 ≤ p ∧ p ≤ 10000 := longs_bd hjs
    have HP : Hid _ := hpb
    have HLS : Hid (ls.length = n) := hlen
    clear hpb hlen
    go_enter Try.func17, Try.ntmps17
    go_wp2_with (first
      | (go_at_call 47; refine (specJobsOk_any a n cap ls _ h).mono ?_; rw [hjq]; rintro e w0 ⟨rfl, hb1⟩)
      | (go_at_call 48; refine (l1In_any _ _ _ _).mono ?_; rw [hin]; rintro e w1 ⟨rfl, rfl⟩
         have bx1 : Below w1.heap.size w1 (w1.alloc (.cells (madeCells #[.int .i64 0] m) 2)) := box_below
         have C2 := l6Best_any ls a n cap w1.heap.size m (List.replicate m 0) 0 _ ((h.below hb1).below bx1) (LdB.made w1 m) (by simp) (by omega) (by omega) (LdOk.rep m) (Int.le_refl _) (by rw [HLS.out]; omega) HP.out (fun h0 b off s e => by
           obtain ⟨b', off', e', hb', _⟩ := (h.below hb1).at_ h0
           rw [e] at e'; injection e' with e'; injection e' with e1 _ _; omega))
      | (go_at_call 49; refine C2.mono ?_; rintro e w2 ⟨rfl, _, B2⟩))
    go_ret
    exact ⟨rfl, below_of_but hb1 B2 (Nat.le_refl _) bx1⟩
  · rw [optI_no hq]
    exact specOptimum_no a n cap ls m w h hq

end Go.Proofs.Ytbnocnadlleibaa
