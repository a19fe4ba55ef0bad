/- The program's chapter 11, fourth part: each number of a row. -/
import Derived.Test.YtkkbfblgnejonaaNodeI1
namespace Go.Proofs.Ytkkbfblgnejonaa
open Go.RowKit Go.Sort

theorem countOk_any (x : Int) (w : World) : Calls Try.prog 67 #[.int .i64 x] w fun e w' => e = .returned (.bool (inB x 0 1073741824)) ∧ w' = w := by
  go_enter Try.func67, Try.ntmps67
  go_wp2_with (go_at_call 47; refine (within_any _ _ _ _).mono ?_; rintro e w' ⟨rfl, rfl⟩)
  go_ret
  exact ⟨rfl, rfl⟩

theorem notNeg_any (x : Int) (w : World) : Calls Try.prog 58 #[.int .i64 x] w fun e w' => e = .returned (.bool (decide (0 ≤ x))) ∧ w' = w := by
  go_enter Try.func58, Try.ntmps58
  go_wp2
  go_ret
  exact ⟨rfl, rfl⟩

/-- is each of them so? -/
def cntTo (u : List Int) (k : Nat) : Prop := ∀ i, i < k → inB (zg u i) 0 1073741824 = true
noncomputable def cntB (u : List Int) (k : Nat) : Bool := @decide (cntTo u k) (Classical.propDecidable _)
theorem cntB_mk {u : List Int} {k : Nat} (h : cntTo u k) : cntB u k = true := @decide_eq_true _ (Classical.propDecidable _) h
theorem cntB_no {u : List Int} {k : Nat} (h : ¬ cntTo u k) : cntB u k = false := @decide_eq_false _ (Classical.propDecidable _) h
theorem cntB_t {u : List Int} {k : Nat} (h : cntB u k = true) : cntTo u k := @of_decide_eq_true _ (Classical.propDecidable _) h
theorem cntB_f {u : List Int} {k : Nat} (h : cntB u k = false) : ¬ cntTo u k := @of_decide_eq_false _ (Classical.propDecidable _) h

set_option maxHeartbeats 1000000 in
theorem cnt_any (a : Option Addr) (n cap : Nat) (u : List Int) (w : World) (h : IntS w a n cap u) :
    Calls Try.prog 57 #[.slice a n cap, .func (.func 67) #[] #[]] w fun e w' => e = .returned (.bool (cntB u n)) ∧ w' = w := by
  have hlen := h.len
  have hmx := h.mx
  have hle := h.le
  unfold maxLen at hmx
  obtain ⟨r, hr⟩ : ∃ r, r = cntB u n := ⟨_, rfl⟩
  have HR : Hid (r = cntB u n) := hr
  rw [← hr]
  clear hr
  go_enter Try.func57, Try.ntmps57
  go_wp2
  go_loopw [9] (fun i wr => ∃ k : Nat, k ≤ n ∧ i = .int .i64 k ∧ Hid (cntTo u k) ∧ wr = w) (fun i _ => n - (intOf i).toNat)
  case atStart => exact ⟨0, by omega, rfl, fun j hj => by omega, rfl⟩
  case round =>
    obtain ⟨k, hk, rfl, hok, rfl⟩ := hrel
    by_cases hlt : k < n
    · obtain ⟨b, off, rfl, hbw, hat⟩ := h.at_ (by omega)
      have hc := hat k hlt
      have hlt' : (k : Int) < (n : Int) := by omega
      clear hat
      rcases q : inB (zg u k) 0 1073741824 with _ | _
      · have E : Hid (r = false) := HR.out.trans (cntB_no fun q9 => by have := q9 k hlt; rw [q] at this; cases this)
        go_wp2_with (go_at_call 67; refine (countOk_any _ _).mono ?_; rw [q]; rintro e w' ⟨rfl, hq⟩; have hq' := hq.symm; clear hq; subst hq')
        go_ret
        exact ⟨by rw [E.out]; rfl, rfl⟩
      · have N : Hid (cntTo u (k + 1)) := fun j hj => by
          by_cases e : j = k
          · subst e; exact q
          · exact hok.out j (by omega)
        go_wp2_with (go_at_call 67; refine (countOk_any _ _).mono ?_; rw [q]; rintro e w' ⟨rfl, hq⟩; have hq' := hq.symm; clear hq; subst hq')
        go_roundw
        case rel => first | exact ⟨k + 1, by omega, by go_num, N, rfl⟩ | exact ⟨k + 1, by omega, by go_num, N, trivial⟩ | exact ⟨k + 1, by omega, by go_num, N⟩
        case measure => simp [intOf]; omega
    · obtain rfl : k = n := by omega
      have E : Hid (r = true) := HR.out.trans (cntB_mk hok.out)
      have hnn : ¬ (k : Int) < (k : Int) := by omega
      go_wp2
      go_ret
      exact ⟨by rw [E.out]; rfl, rfl⟩

/-- is each of them so? -/
def posTo (u : List Int) (k : Nat) : Prop := ∀ i, i < k → decide (0 ≤ (zg u i)) = true
noncomputable def posB (u : List Int) (k : Nat) : Bool := @decide (posTo u k) (Classical.propDecidable _)
theorem posB_mk {u : List Int} {k : Nat} (h : posTo u k) : posB u k = true := @decide_eq_true _ (Classical.propDecidable _) h
theorem posB_no {u : List Int} {k : Nat} (h : ¬ posTo u k) : posB u k = false := @decide_eq_false _ (Classical.propDecidable _) h
theorem posB_t {u : List Int} {k : Nat} (h : posB u k = true) : posTo u k := @of_decide_eq_true _ (Classical.propDecidable _) h
theorem posB_f {u : List Int} {k : Nat} (h : posB u k = false) : ¬ posTo u k := @of_decide_eq_false _ (Classical.propDecidable _) h

set_option maxHeartbeats 1000000 in
theorem pos_any (a : Option Addr) (n cap : Nat) (u : List Int) (w : World) (h : IntS w a n cap u) :
    Calls Try.prog 57 #[.slice a n cap, .func (.func 58) #[] #[]] w fun e w' => e = .returned (.bool (posB u n)) ∧ w' = w := by
  have hlen := h.len
  have hmx := h.mx
  have hle := h.le
  unfold maxLen at hmx
  obtain ⟨r, hr⟩ : ∃ r, r = posB u n := ⟨_, rfl⟩
  have HR : Hid (r = posB u n) := hr
  rw [← hr]
  clear hr
  go_enter Try.func57, Try.ntmps57
  go_wp2
  go_loopw [9] (fun i wr => ∃ k : Nat, k ≤ n ∧ i = .int .i64 k ∧ Hid (posTo u k) ∧ wr = w) (fun i _ => n - (intOf i).toNat)
  case atStart => exact ⟨0, by omega, rfl, fun j hj => by omega, rfl⟩
  case round =>
    obtain ⟨k, hk, rfl, hok, rfl⟩ := hrel
    by_cases hlt : k < n
    · obtain ⟨b, off, rfl, hbw, hat⟩ := h.at_ (by omega)
      have hc := hat k hlt
      have hlt' : (k : Int) < (n : Int) := by omega
      clear hat
      rcases q : decide (0 ≤ (zg u k)) with _ | _
      · have E : Hid (r = false) := HR.out.trans (posB_no fun q9 => by have := q9 k hlt; rw [q] at this; cases this)
        go_wp2_with (go_at_call 58; refine (notNeg_any _ _).mono ?_; rw [q]; rintro e w' ⟨rfl, hq⟩; have hq' := hq.symm; clear hq; subst hq')
        go_ret
        exact ⟨by rw [E.out]; rfl, rfl⟩
      · have N : Hid (posTo u (k + 1)) := fun j hj => by
          by_cases e : j = k
          · subst e; exact q
          · exact hok.out j (by omega)
        go_wp2_with (go_at_call 58; refine (notNeg_any _ _).mono ?_; rw [q]; rintro e w' ⟨rfl, hq⟩; have hq' := hq.symm; clear hq; subst hq')
        go_roundw
        case rel => first | exact ⟨k + 1, by omega, by go_num, N, rfl⟩ | exact ⟨k + 1, by omega, by go_num, N, trivial⟩ | exact ⟨k + 1, by omega, by go_num, N⟩
        case measure => simp [intOf]; omega
    · obtain rfl : k = n := by omega
      have E : Hid (r = true) := HR.out.trans (posB_mk hok.out)
      have hnn : ¬ (k : Int) < (k : Int) := by omega
      go_wp2
      go_ret
      exact ⟨by rw [E.out]; rfl, rfl⟩

theorem cntTo_use {u : List Int} {k : Nat} : cntTo u k ↔ useOk u k := ⟨fun h i hi => nin_t (h i hi), fun h i hi => nin_mk (h i hi)⟩

end Go.Proofs.Ytkkbfblgnejonaa
