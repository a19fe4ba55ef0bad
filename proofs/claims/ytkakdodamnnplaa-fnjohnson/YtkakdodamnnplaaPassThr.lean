/- Through and Idle, of the model and of the program; l7Ahead. -/
import Derived.Test.YtkakdodamnnplaaPassFew
import Derived.Deep.QuietTactic
namespace Go.Proofs.Ytkakdodamnnplaa
open Go.RowKit Go.Sort

theorem nnP_of {ls : List Pz} (h : PsOk ls) : nnP ls := fun x hx => by
  obtain ⟨i, hi, rfl⟩ := List.getElem_of_mem hx
  have := pok_bd (h.ok i hi).1
  rw [pzg_get hi] at this
  omega
theorem take_step {ls : List Pz} {k : Nat} (hk : k < ls.length) : ls.take (k + 1) = ls.take k ++ [pzg ls k] := by
  rw [List.take_succ_eq_append_getElem hk, ← pzg_get hk]
theorem sumA_step {ls : List Pz} {k : Nat} (hk : k < ls.length) : sumA (ls.take (k + 1)) = sumA (ls.take k) + (pzg ls k).a := by
  rw [take_step hk, sumA_app]; simp [sumA]
theorem sumB_step {ls : List Pz} {k : Nat} (hk : k < ls.length) : sumB (ls.take (k + 1)) = sumB (ls.take k) + (pzg ls k).b := by
  rw [take_step hk, sumB_app]; simp [sumB]
theorem thrV_step {ls : List Pz} {k : Nat} (hk : k < ls.length) : thrV (ls.take (k + 1)) = max (sumA (ls.take k) + (pzg ls k).a) (thrV (ls.take k)) + (pzg ls k).b := by
  rw [take_step hk, thrV_snoc]
theorem pz_bd {ls : List Pz} (h : PsOk ls) {k : Nat} (hk : k < ls.length) : 0 ≤ (pzg ls k).a ∧ (pzg ls k).a ≤ 10000 ∧ 0 ≤ (pzg ls k).b ∧ (pzg ls k).b ≤ 10000 := by
  have := pok_bd (h.ok k hk).1
  omega
theorem thr_bd {ls : List Pz} (h : PsOk ls) : ∀ {k : Nat}, k ≤ ls.length → 0 ≤ sumA (ls.take k) ∧ sumA (ls.take k) ≤ 10000 * k ∧ 0 ≤ sumB (ls.take k) ∧ sumB (ls.take k) ≤ 10000 * k ∧ 0 ≤ thrV (ls.take k) ∧ thrV (ls.take k) ≤ 20000 * k
  | 0, _ => by simp [sumA, sumB, thrV, thr]
  | k + 1, hk => by
    have ih := thr_bd h (k := k) (by omega)
    have hb := pz_bd h (k := k) (by omega)
    rw [sumA_step (by omega), sumB_step (by omega), thrV_step (by omega)]
    omega

/-- Through of a list, whatever it is -/
noncomputable def thrF (ls : List Pz) : Int := if psB ls then thrV ls else -1
theorem thrF_t {ls : List Pz} (h : psB ls = true) : thrF ls = thrV ls := by unfold thrF; rw [if_pos h]
theorem thrF_f {ls : List Pz} (h : psB ls = false) : thrF ls = -1 := by unfold thrF; rw [h]; simp
noncomputable def idlF (ls : List Pz) : Int := if psB ls then thrV ls - sumB ls else -1
theorem idlF_t {ls : List Pz} (h : psB ls = true) : idlF ls = thrV ls - sumB ls := by unfold idlF; rw [if_pos h]
theorem idlF_f {ls : List Pz} (h : psB ls = false) : idlF ls = -1 := by unfold idlF; rw [h]; simp

set_option maxHeartbeats 1000000 in
theorem l7Through_any (a : Option Addr) (n cap : Nat) (ls : List Pz) (w : World) (h : PassS w a n cap ls) (ho : PsOk ls) :
    Calls Try.prog 34 #[.slice a n cap] w fun e w' => e = .returned (.int .i64 (thrV ls)) ∧ Below w.heap.size w w' := by
  have hm := h.mx
  have hle := h.le
  have hlen := h.len
  have h40 := ho.n
  unfold maxLen at hm
  go_enter Try.func34, Try.ntmps34
  go_wp2
  go_loopw [3, 4, 5] (fun u v i wr => ∃ k : Nat, k ≤ n ∧ i = .int .i64 k ∧ u = .int .i64 (sumA (ls.take k)) ∧ v = .int .i64 (thrV (ls.take k)) ∧ Below w.heap.size w wr) (fun _ _ i _ => n - (intOf i).toNat)
  case atStart => exact ⟨0, by omega, rfl, by simp [sumA], by simp [thrV, thr], Below.refl _ _⟩
  case round =>
    obtain ⟨k, hk, rfl, rfl, rfl, hw⟩ := hrel
    rename World => wr
    obtain ⟨b0, b1, b2, b3, b4, b5⟩ := thr_bd ho (k := k) (by omega)
    by_cases hlt : k < n
    · obtain ⟨b, off, rfl, hbw, hat⟩ := h.at_ (by omega)
      obtain ⟨hc0, hc1, hc2⟩ := (hat.below hw hbw).row (i := k) (by omega)
      obtain ⟨d0, d1, d2, d3⟩ := pz_bd ho (k := k) (by omega)
      have hlt' : (k : Int) < (n : Int) := by omega
      have hmx : 0 ≤ max (sumA (ls.take k) + (pzg ls k).a) (thrV (ls.take k)) ∧ max (sumA (ls.take k) + (pzg ls k).a) (thrV (ls.take k)) ≤ 1000000 := by omega
      obtain ⟨m0, m1⟩ := hmx
      have SA := sumA_step (ls := ls) (k := k) (by omega)
      have ST := thrV_step (ls := ls) (k := k) (by omega)
      go_wp2
      go_quiet ((go_at_call 47; exact Calls.quiet_of_same (l1Max_any _ _ _)))
      go_wp2
      go_roundw
      case rel => exact ⟨k + 1, by omega, by go_num, by rw [SA], by rw [ST], hw.drewN _⟩
      case measure => simp [intOf]; omega
    · have e : k = n := by omega
      subst e
      go_wp2
      go_ret
      exact ⟨by rw [show ls.take k = ls from List.take_of_length_le (by omega)]; rfl, hw⟩

theorem specThrough_any (a : Option Addr) (n cap : Nat) (ls : List Pz) (w : World) (h : PassS w a n cap ls) :
    Calls Try.prog 15 #[.slice a n cap] w fun e w' => e = .returned (.int .i64 (thrF ls)) ∧ Below w.heap.size w w' := by
  rcases hq : psB ls with _ | _
  · rw [thrF_f hq]
    go_enter Try.func15, Try.ntmps15
    go_wp2_with (go_at_call 19; refine (specPassesOk_any _ _ _ _ _ h).mono ?_; rw [hq]; rintro e w1 ⟨rfl, hb1⟩)
    go_ret
    exact ⟨rfl, hb1⟩
  · rw [thrF_t hq]
    go_enter Try.func15, Try.ntmps15
    go_wp2_with (first | (go_at_call 19; refine (specPassesOk_any _ _ _ _ _ h).mono ?_; rw [hq]; rintro e w1 ⟨rfl, hb1⟩) | (go_at_call 34; refine (l7Through_any _ _ _ _ _ (h.below hb1) (psB_t hq)).mono ?_; rintro e w2 ⟨rfl, hb2⟩))
    go_ret
    exact ⟨rfl, hb1.then hb2 hb1.size⟩

theorem implPassesOk_any (a : Option Addr) (n cap : Nat) (ls : List Pz) (w : World) (h : PassS w a n cap ls) :
    Calls Try.prog 18 #[.slice a n cap] w fun e w' => e = .returned (.bool (psB ls)) ∧ Below w.heap.size w w' := by
  go_enter Try.func18, Try.ntmps18
  go_wp2_with (go_at_call 35; refine (fewUnlike_pass _ _ _ _ _ h).mono ?_; rintro e w1 ⟨rfl, hb1⟩)
  go_ret
  exact ⟨rfl, hb1⟩

set_option maxHeartbeats 1000000 in
theorem implThrough_any (a : Option Addr) (n cap : Nat) (ls : List Pz) (w : World) (h : PassS w a n cap ls) :
    Calls Try.prog 14 #[.slice a n cap] w fun e w' => e = .returned (.int .i64 (thrF ls)) ∧ Below w.heap.size w w' := by
  rcases hq : psB ls with _ | _
  · rw [thrF_f hq]
    go_enter Try.func14, Try.ntmps14
    go_wp2_with (go_at_call 18; refine (implPassesOk_any _ _ _ _ _ h).mono ?_; rw [hq]; rintro e w1 ⟨rfl, hb1⟩)
    go_ret
    exact ⟨rfl, hb1⟩
  · rw [thrF_t hq]
    have hm := h.mx
    have hle := h.le
    have hlen := h.len
    have ho := psB_t hq
    have h40 := ho.n
    unfold maxLen at hm
    go_enter Try.func14, Try.ntmps14
    go_wp2_with (go_at_call 18; refine (implPassesOk_any _ _ _ _ _ h).mono ?_; rw [hq]; rintro e w1 ⟨rfl, hb1⟩)
    have h1 := h.below hb1
    have z1 := hb1.size
    go_loopw [3, 4, 12] (fun u v i wr => ∃ k : Nat, k ≤ n ∧ i = .int .i64 k ∧ u = .int .i64 (sumA (ls.take k)) ∧ v = .int .i64 (thrV (ls.take k)) ∧ Below w1.heap.size w1 wr) (fun _ _ i _ => n - (intOf i).toNat)
    case atStart => exact ⟨0, by omega, rfl, by simp [sumA], by simp [thrV, thr], Below.refl _ _⟩
    case round =>
      obtain ⟨k, hk, rfl, rfl, rfl, hw⟩ := hrel
      rename World => wr
      obtain ⟨b0, b1, b2, b3, b4, b5⟩ := thr_bd ho (k := k) (by omega)
      by_cases hlt : k < n
      · obtain ⟨b, off, rfl, hbw, hat⟩ := h1.at_ (by omega)
        obtain ⟨hc0, hc1, hc2⟩ := (hat.below hw hbw).row (i := k) (by omega)
        obtain ⟨d0, d1, d2, d3⟩ := pz_bd ho (k := k) (by omega)
        have hlt' : (k : Int) < (n : Int) := by omega
        have hmx : 0 ≤ max (sumA (ls.take k) + (pzg ls k).a) (thrV (ls.take k)) ∧ max (sumA (ls.take k) + (pzg ls k).a) (thrV (ls.take k)) ≤ 1000000 := by omega
        obtain ⟨m0, m1⟩ := hmx
        have SA := sumA_step (ls := ls) (k := k) (by omega)
        have ST := thrV_step (ls := ls) (k := k) (by omega)
        go_wp2
        go_roundw
        case rel => exact ⟨k + 1, by omega, by go_num, by rw [SA], by rw [ST]; exact congrArg (Value.int .i64) (by split <;> omega), hw.alloc hw.size _⟩
        case measure => simp [intOf]; omega
      · have e : k = n := by omega
        subst e
        go_wp2
        go_ret
        exact ⟨by rw [show ls.take k = ls from List.take_of_length_le (by omega)]; rfl, hb1.then hw z1⟩

set_option maxHeartbeats 1000000 in
theorem specIdle_any (a : Option Addr) (n cap : Nat) (ls : List Pz) (w : World) (h : PassS w a n cap ls) :
    Calls Try.prog 17 #[.slice a n cap] w fun e w' => e = .returned (.int .i64 (idlF ls)) ∧ Below w.heap.size w w' := by
  rcases hq : psB ls with _ | _
  · rw [idlF_f hq]
    go_enter Try.func17, Try.ntmps17
    go_wp2_with (go_at_call 19; refine (specPassesOk_any _ _ _ _ _ h).mono ?_; rw [hq]; rintro e w1 ⟨rfl, hb1⟩)
    go_ret
    exact ⟨rfl, hb1⟩
  · rw [idlF_t hq]
    have hm := h.mx
    have hle := h.le
    have hlen := h.len
    have ho := psB_t hq
    have h40 := ho.n
    unfold maxLen at hm
    obtain ⟨t0, t1, t2, t3, t4, t5⟩ := thr_bd ho (k := ls.length) (Nat.le_refl _)
    rw [List.take_of_length_le (Nat.le_refl _)] at t0 t1 t2 t3 t4 t5
    go_enter Try.func17, Try.ntmps17
    go_wp2_with (first | (go_at_call 19; refine (specPassesOk_any _ _ _ _ _ h).mono ?_; rw [hq]; rintro e w1 ⟨rfl, hb1⟩) | (go_at_call 34; refine (l7Through_any _ _ _ _ _ (h.below hb1) (psB_t hq)).mono ?_; rintro e w2 ⟨rfl, hb2⟩))
    have hb := hb1.then hb2 hb1.size
    have h1 := h.below hb
    have z1 := hb.size
    go_loopw [3, 4] (fun u i wr => ∃ k : Nat, k ≤ n ∧ i = .int .i64 k ∧ u = .int .i64 (thrV ls - sumB (ls.take k)) ∧ Below w2.heap.size w2 wr) (fun _ i _ => n - (intOf i).toNat)
    case atStart => exact ⟨0, by omega, rfl, by simp [sumB], Below.refl _ _⟩
    case round =>
      obtain ⟨k, hk, rfl, rfl, hw⟩ := hrel
      rename World => wr
      obtain ⟨b0, b1, b2, b3, b4, b5⟩ := thr_bd ho (k := k) (by omega)
      by_cases hlt : k < n
      · obtain ⟨b, off, rfl, hbw, hat⟩ := h1.at_ (by omega)
        obtain ⟨hc0, hc1, hc2⟩ := (hat.below hw hbw).row (i := k) (by omega)
        obtain ⟨d0, d1, d2, d3⟩ := pz_bd ho (k := k) (by omega)
        have hlt' : (k : Int) < (n : Int) := by omega
        have SB := sumB_step (ls := ls) (k := k) (by omega)
        go_wp2
        go_roundw
        case rel => exact ⟨k + 1, by omega, by go_num, by rw [SB, Int.sub_sub], hw⟩
        case measure => simp [intOf]; omega
      · have e : k = n := by omega
        subst e
        go_wp2
        go_ret
        exact ⟨by rw [show ls.take k = ls from List.take_of_length_le (by omega)]; rfl, hb.then hw z1⟩

set_option maxHeartbeats 1000000 in
theorem implIdle_any (a : Option Addr) (n cap : Nat) (ls : List Pz) (w : World) (h : PassS w a n cap ls) :
    Calls Try.prog 16 #[.slice a n cap] w fun e w' => e = .returned (.int .i64 (idlF ls)) ∧ Below w.heap.size w w' := by
  rcases hq : psB ls with _ | _
  · rw [idlF_f hq]
    have ht := thrF_f hq
    go_enter Try.func16, Try.ntmps16
    go_wp2_with (go_at_call 14; refine (implThrough_any _ _ _ _ _ h).mono ?_; rw [ht]; rintro e w1 ⟨rfl, hb1⟩)
    go_ret
    exact ⟨rfl, hb1⟩
  · rw [idlF_t hq]
    have ht := thrF_t hq
    have hm := h.mx
    have hle := h.le
    have hlen := h.len
    have ho := psB_t hq
    have h40 := ho.n
    unfold maxLen at hm
    obtain ⟨t0, t1, t2, t3, t4, t5⟩ := thr_bd ho (k := ls.length) (Nat.le_refl _)
    rw [List.take_of_length_le (Nat.le_refl _)] at t0 t1 t2 t3 t4 t5
    have hne : (thrV ls == -1) = false := by rw [Bool.eq_false_iff]; intro h9; have := eq_of_beq h9; omega
    go_enter Try.func16, Try.ntmps16
    go_wp2_with (go_at_call 14; refine (implThrough_any _ _ _ _ _ h).mono ?_; rw [ht]; rintro e w1 ⟨rfl, hb1⟩)
    have h1 := h.below hb1
    have z1 := hb1.size
    go_loopw [3, 12] (fun u i wr => ∃ k : Nat, k ≤ n ∧ i = .int .i64 k ∧ u = .int .i64 (thrV ls - sumB (ls.take k)) ∧ Below w1.heap.size w1 wr) (fun _ i _ => n - (intOf i).toNat)
    case atStart => exact ⟨0, by omega, rfl, by simp [sumB], Below.refl _ _⟩
    case round =>
      obtain ⟨k, hk, rfl, rfl, hw⟩ := hrel
      rename World => wr
      obtain ⟨b0, b1, b2, b3, b4, b5⟩ := thr_bd ho (k := k) (by omega)
      by_cases hlt : k < n
      · obtain ⟨b, off, rfl, hbw, hat⟩ := h1.at_ (by omega)
        obtain ⟨hc0, hc1, hc2⟩ := (hat.below hw hbw).row (i := k) (by omega)
        obtain ⟨d0, d1, d2, d3⟩ := pz_bd ho (k := k) (by omega)
        have hlt' : (k : Int) < (n : Int) := by omega
        have SB := sumB_step (ls := ls) (k := k) (by omega)
        go_wp2
        go_roundw
        case rel => exact ⟨k + 1, by omega, by go_num, by rw [SB, Int.sub_sub], hw.alloc hw.size _⟩
        case measure => simp [intOf]; omega
      · have e : k = n := by omega
        subst e
        go_wp2
        go_ret
        exact ⟨by rw [show ls.take k = ls from List.take_of_length_le (by omega)]; rfl, hb1.then hw z1⟩

end Go.Proofs.Ytkakdodamnnplaa
