/- The model's helpers over loads: the first of the least, the most. -/
import Derived.Test.YtcomohobkjkhiaaInts
import Derived.Test.YtcomohobkjkhiaaL6
namespace Go.Proofs.Ytcomohobkjkhiaa
open Go.RowKit Go.Sort

theorem lk_succ (l : List Int) (n : Nat) : lk l (n + 1) = if zg l n < zg l (lk l n) then n else lk l n := by rw [zg_getD, zg_getD]; rfl
theorem mostN_succ (l : List Int) (n : Nat) : mostN l (n + 1) = max (mostN l n) (zg l n) := by rw [zg_getD]; rfl

set_option maxHeartbeats 1000000 in
theorem l6Least_any (B cap : Nat) (l : List Int) (w : World) (h : LdB w B l) (h0 : 0 < l.length) (hc : l.length ≤ cap) (hm : cap ≤ maxLen) :
    Calls Try.prog 35 #[.slice (some ⟨B, 0, none⟩) l.length cap] w fun e w' => e = .returned (.int .i64 (leastK l : Nat)) ∧ Below w.heap.size w w' := by
  obtain ⟨m, hl⟩ : ∃ m, l.length = m := ⟨_, rfl⟩
  have HL : Hid (l.length = m) := hl
  rw [hl] at h0 hc ⊢
  clear hl
  unfold maxLen at hm
  go_enter Try.func35, Try.ntmps35
  go_wp2
  go_loopw [3, 4] (fun q i wr => ∃ k : Nat, k ≤ m ∧ i = .int .i64 k ∧ q = .int .i64 (lk l k : Nat) ∧ Below w.heap.size w wr) (fun _ i _ => m - (intOf i).toNat)
  case atStart => exact ⟨0, by omega, rfl, rfl, Below.refl _ _⟩
  case round =>
    obtain ⟨k, hk, rfl, rfl, hw⟩ := hrel
    by_cases hlt : k < m
    · have hlt' : (k : Int) < (m : Int) := by omega
      have c0 := (h.below hw).cell (k := k) (by rw [HL.out]; exact hlt)
      have hq := lk_lt (l := l) (by rw [HL.out]; exact h0) k (by rw [HL.out]; omega)
      have c1 := (h.below hw).cell hq
      rw [HL.out] at hq
      have hq' : ((lk l k : Nat) : Int) < (m : Int) := by omega
      have hs := lk_succ l k
      generalize zg l k = x at c0 hs
      generalize zg l (lk l k) = y at c1 hs
      by_cases c : x < y
      · rw [if_pos c] at hs
        have HS : Hid (lk l (k + 1) = k) := hs
        clear hs
        generalize lk l k = q at *
        go_wp2
        go_quiet (fail)
        go_wp2
        go_roundw
        case rel => exact ⟨k + 1, by omega, by go_num, by rw [HS.out], hw.drewNI _⟩
        case measure => simp [intOf]; omega
      · rw [if_neg c] at hs
        have HS : Hid (lk l (k + 1) = lk l k) := hs
        clear hs
        generalize hg : lk l k = q at *
        have HG : Hid _ := hg
        clear hg
        go_wp2
        go_quiet (fail)
        go_wp2
        go_roundw
        case rel => exact ⟨k + 1, by omega, by go_num, by rw [HS.out], hw.drewNI _⟩
        case measure => simp [intOf]; omega
    · have e : k = m := by omega
      subst e
      go_wp2
      go_ret
      exact ⟨by unfold leastK; rw [HL.out]; rfl, hw⟩

set_option maxHeartbeats 1000000 in
theorem l6Most_any (B cap : Nat) (l : List Int) (w : World) (h : LdB w B l) (hc : l.length ≤ cap) (hm : cap ≤ maxLen) :
    Calls Try.prog 40 #[.slice (some ⟨B, 0, none⟩) l.length cap] w fun e w' => e = .returned (.int .i64 (mostV l)) ∧ w' = w := by
  obtain ⟨m, hl⟩ : ∃ m, l.length = m := ⟨_, rfl⟩
  have HL : Hid (l.length = m) := hl
  rw [hl] at hc ⊢
  clear hl
  unfold maxLen at hm
  go_enter Try.func40, Try.ntmps40
  go_wp2
  go_loop [3, 4] (fun q i => ∃ k : Nat, k ≤ m ∧ i = .int .i64 k ∧ q = .int .i64 (mostN l k)) (fun _ i => m - (intOf i).toNat)
  case atStart => exact ⟨0, by omega, rfl, rfl⟩
  case round =>
    obtain ⟨k, hk, rfl, rfl⟩ := hrel
    by_cases hlt : k < m
    · have hlt' : (k : Int) < (m : Int) := by omega
      have c0 := h.cell (k := k) (by rw [HL.out]; exact hlt)
      have HS : Hid (mostN l (k + 1) = max (mostN l k) (zg l k)) := mostN_succ l k
      go_wp2_with (go_at_call 37; refine (l1Max_any _ _ _).mono ?_; rintro e w' ⟨rfl, rfl⟩)
      go_round
      case rel => exact ⟨k + 1, by omega, by go_num, by rw [HS.out]⟩
      case measure => simp [intOf]; omega
    · have e : k = m := by omega
      subst e
      go_wp2
      go_ret
      exact ⟨by unfold mostV; rw [HL.out]; rfl, rfl⟩

/-- what the library's Max tells of loads is the most -/
theorem maxTo_most {l : List Int} {c : Int} (h : LdOk l c) : ∀ k, k < l.length → maxTo l k = mostN l (k + 1)
  | 0, hk => by
    have := h 0
    show zg l 0 = max (mostN l 0) (l.getD 0 0)
    rw [zg, ← List.getD_eq_getElem?_getD]
    show _ = max 0 _
    omega
  | k + 1, hk => by
    show max (maxTo l k) (zg l (k + 1)) = max (mostN l (k + 1)) (l.getD (k + 1) 0)
    rw [maxTo_most h k (by omega), zg, ← List.getD_eq_getElem?_getD]
theorem slMost_any (B cap : Nat) (l : List Int) (c : Int) (w : World) (h : LdB w B l) (hok : LdOk l c) (h0 : 0 < l.length) (hc : l.length ≤ cap) (hm : cap ≤ maxLen) :
    Calls Try.prog 39 #[.slice (some ⟨B, 0, none⟩) l.length cap] w fun e w' => e = .returned (.int .i64 (mostV l)) ∧ w' = w := by
  have := slicesMax_any B l.length cap l w h.toB h0 hc hm
  rw [maxTo_most hok _ (by omega), show l.length - 1 + 1 = l.length by omega] at this
  exact this

end Go.Proofs.Ytcomohobkjkhiaa
