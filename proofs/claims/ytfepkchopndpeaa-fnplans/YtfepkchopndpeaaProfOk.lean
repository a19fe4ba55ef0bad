/- ProfileOk, of the model and of the program: both tell whether a profile is right. -/
import Derived.Test.YtfepkchopndpeaaLevIn
import Derived.Test.YtfepkchopndpeaaTime
namespace Go.Proofs.Ytfepkchopndpeaa
open Go.RowKit

theorem inB_t {x lo hi : Int} (h : inB x lo hi = true) : lo ≤ x ∧ x ≤ hi := by unfold inB at h; simpa using h
theorem inB_f {x lo hi : Int} (h : inB x lo hi = false) : x < lo ∨ hi < x := by unfold inB at h; simp at h; omega
theorem inB_mk {x lo hi : Int} (h : lo ≤ x ∧ x ≤ hi) : inB x lo hi = true := by unfold inB; simpa using h
theorem inB_no {x lo hi : Int} (h : x < lo ∨ hi < x) : inB x lo hi = false := by unfold inB; simp; omega

theorem steps_any (f r f' r' : Int) (w : World) (b : Bool) (hb : b = (decide (f < f') && decide (r ≠ r'))) :
    Calls Try.prog 56 #[.agg #[.int .i64 f, .int .i64 r], .agg #[.int .i64 f', .int .i64 r']] w fun e w' => e = .returned (.bool b) ∧ Below w.heap.size w w' := by
  have hw : ∀ x y : Value, Below w.heap.size w ((w.alloc (.cells #[.int .i64 f, .int .i64 r] 65)).alloc (.cells #[.int .i64 f', .int .i64 r'] 65)) := fun _ _ => ((Below.refl _ _).alloc (by simp) _).alloc (by simp) _
  by_cases c1 : f < f'
  · by_cases c2 : r = r'
    · have e : b = false := by rw [hb]; simp [c2]
      subst e; subst c2; clear hb
      go_enter Try.func56, Try.ntmps56
      go_wp2
      go_ret
      exact ⟨rfl, hw .nilFunc .nilFunc⟩
    · have e : b = true := by rw [hb]; simp [c1, c2]
      have c2' : (r != r') = true := by simpa using c2
      subst e; clear hb
      go_enter Try.func56, Try.ntmps56
      go_wp2
      go_ret
      exact ⟨rfl, hw .nilFunc .nilFunc⟩
  · have e : b = false := by rw [hb]; simp [c1]
    subst e; clear hb
    go_enter Try.func56, Try.ntmps56
    go_wp2
    go_ret
    exact ⟨rfl, hw .nilFunc .nilFunc⟩

/-- what the first k levels must keep -/
def okTo (t : Int) (ls : List Lev) (k : Nat) : Prop := ∀ i, i < k → fr ls i < 1000000000 ∧ 0 ≤ fe ls i ∧ fe ls i ≤ t ∧ (0 < i → fr ls (i - 1) < fr ls i ∧ fe ls (i - 1) ≠ fe ls i)

theorem okTo_po {t : Int} {ls : List Lev} (h0 : 0 ≤ t ∧ t ≤ 1000) (h1 : 1 ≤ ls.length ∧ ls.length ≤ 200) (hz : fr ls 0 = 0) (h : okTo t ls ls.length) : PO t ls :=
  ⟨h0.1, h0.2, h1.1, h1.2, hz, fun i hi => ⟨(h i hi).1, (h i hi).2.1, (h i hi).2.2.1⟩, fun i hi => by
    have := (h (i + 1) hi).2.2.2 (by omega)
    simpa using this⟩

theorem okTo_succ {t : Int} {ls : List Lev} {k : Nat} (h : okTo t ls k) (g : fr ls k < 1000000000 ∧ 0 ≤ fe ls k ∧ fe ls k ≤ t ∧ (0 < k → fr ls (k - 1) < fr ls k ∧ fe ls (k - 1) ≠ fe ls k)) : okTo t ls (k + 1) := by
  intro i hi
  by_cases e : i = k
  · subst e; exact g
  · exact h i (by omega)

theorem po_okTo {t : Int} {ls : List Lev} (h : PO t ls) {k : Nat} (hk : k < ls.length) : 0 ≤ fr ls k ∧ fr ls k < 1000000000 ∧ 0 ≤ fe ls k ∧ fe ls k ≤ t ∧ (0 < k → fr ls (k - 1) < fr ls k ∧ fe ls (k - 1) ≠ fe ls k) :=
  ⟨h.pos hk, (h.el k hk).1, (h.el k hk).2.1, (h.el k hk).2.2, fun h0 => by have := h.st (k - 1) (by omega); rwa [Nat.sub_add_cancel h0] at this⟩

theorem cells_below {w wr : World} {b off k : Nat} {ls : List Lev} (hat : LevAt w b off ls) (hw : Below w.heap.size w wr) (hb : b < w.heap.size) (hk : k < ls.length) :
    wr.cell? ⟨b, off + k * 2, none⟩ = some (.int .i64 (fr ls k)) ∧ wr.cell? ⟨b, off + k * 2 + 1, none⟩ = some (.int .i64 (fe ls k)) := hat.below hw hb k hk

set_option maxHeartbeats 1000000 in
theorem specProfileOk_any (t : Int) (a : Option Addr) (n cap : Nat) (ls : List Lev) (w : World) (h : LevS w a n cap ls) :
    Calls Try.prog 36 #[.agg #[.int .i64 t, .slice a n cap]] w fun e w' => e = .returned (.bool (poB t ls)) ∧ Below w.heap.size w w' := by
  have hm := h.mx
  have hle := h.le
  unfold maxLen at hm
  have hlen := h.len
  by_cases c1 : inB t 0 1000 = true
  · by_cases c2 : 1 ≤ n
    · by_cases c3 : n ≤ 200
      · obtain ⟨b, off, rfl, hbw, hat⟩ := h.at_ c2
        have w0 : Below w.heap.size w (w.alloc (.cells #[.int .i64 t, .slice (some ⟨b, off, none⟩) n cap] 26)) := (Below.refl _ _).alloc (by simp) _
        obtain ⟨hz0, hz1⟩ := cells_below (k := 0) hat w0 hbw (by omega)
        simp only [Nat.zero_mul, Nat.add_zero] at hz0 hz1
        by_cases c4 : fr ls 0 = 0
        · have c4' : (fr ls 0 != 0) = false := by simpa using c4
          go_enter Try.func36, Try.ntmps36
          go_wp2_with (go_at_call 42; refine (l1In_any _ _ _ _).mono ?_; rintro e w' ⟨rfl, rfl⟩)
          go_loopw [3] (fun i wr => ∃ k : Nat, k ≤ n ∧ i = .int .i64 k ∧ okTo t ls k ∧ Below (w.alloc (.cells #[.int .i64 t, .slice (some ⟨b, off, none⟩) n cap] 26)).heap.size (w.alloc (.cells #[.int .i64 t, .slice (some ⟨b, off, none⟩) n cap] 26)) wr) (fun i _ => n - (intOf i).toNat)
          case atStart => exact ⟨0, by omega, rfl, fun i hi => by omega, Below.refl _ _⟩
          case round =>
            obtain ⟨k, hk, rfl, hok, hw⟩ := hrel
            obtain ⟨hc, hf⟩ := bcell hw
            have b0 := hc w.heap.size 0 (by simp)
            have b1 := hc w.heap.size 1 (by simp)
            simp at b0 b1
            have hwr := w0.then hw (by simp)
            have hz : w.heap.size < wr.heap.size := by have := hw.size; simp at this; omega
            have hbr : b < wr.heap.size := by omega
            by_cases hlt : k < n
            · obtain ⟨x0, x1⟩ := cells_below (k := k) hat hwr hbw (by omega)
              clear hc hf hz0 hz1
              by_cases d1 : inB (fr ls k) 0 999999999 = true
              · by_cases d2 : inB (fe ls k) 0 t = true
                · by_cases d0 : 0 < k
                  · obtain ⟨y0, y1⟩ := cells_below (k := k - 1) hat hwr hbw (by omega)
                    by_cases d3 : fr ls k ≤ fr ls (k - 1)
                    · go_wp2
                      go_quiet ((go_at_call 42; exact Calls.quiet_of_same (l1In_any _ _ _ _)))
                      go_wp2
                      go_ret
                      exact ⟨by rw [poB_no fun p => by have := (po_okTo p (k := k) (by omega)).2.2.2.2 d0; omega]; rfl, (hwr.alloc (by omega) _).drewN _⟩
                    · have d3' : decide (fr ls k ≤ fr ls (k - 1)) = false := by simpa using d3
                      by_cases d4 : fe ls k = fe ls (k - 1)
                      · have d4' : (fe ls k == fe ls (k - 1)) = true := by simpa using d4
                        clear d4
                        go_wp2
                        go_quiet ((go_at_call 42; exact Calls.quiet_of_same (l1In_any _ _ _ _)))
                        go_wp2
                        go_ret
                        exact ⟨by rw [poB_no fun p => by have := (po_okTo p (k := k) (by omega)).2.2.2.2 d0; have := beq_iff_eq.1 d4'; omega]; rfl, (hwr.alloc (by omega) _).drewN _⟩
                      · have d4' : (fe ls k == fe ls (k - 1)) = false := by simpa using d4
                        clear d4
                        go_wp2
                        go_quiet ((go_at_call 42; exact Calls.quiet_of_same (l1In_any _ _ _ _)))
                        go_wp2
                        go_roundw
                        case rel => exact ⟨k + 1, by omega, by go_num, okTo_succ hok (⟨by have := inB_t d1; omega, (inB_t d2).1, (inB_t d2).2, fun _ => ⟨by omega, fun e => by rw [e] at d4'; simp at d4'⟩⟩), (hw.alloc (by simp; omega) _).drewN _⟩
                        case measure => simp [intOf]; omega
                  · go_wp2
                    go_quiet ((go_at_call 42; exact Calls.quiet_of_same (l1In_any _ _ _ _)))
                    go_wp2
                    go_roundw
                    case rel => exact ⟨k + 1, by omega, by go_num, okTo_succ hok (⟨by have := inB_t d1; omega, (inB_t d2).1, (inB_t d2).2, fun h => by omega⟩), (hw.alloc (by simp; omega) _).drewN _⟩
                    case measure => simp [intOf]; omega
                · simp only [Bool.not_eq_true] at d2
                  go_wp2
                  go_quiet ((go_at_call 42; exact Calls.quiet_of_same (l1In_any _ _ _ _)))
                  go_wp2
                  go_ret
                  exact ⟨by rw [poB_no fun p => by have := po_okTo p (k := k) (by omega); have := inB_f d2; omega]; rfl, (hwr.alloc (by omega) _).drewN _⟩
              · simp only [Bool.not_eq_true] at d1
                go_wp2
                go_quiet ((go_at_call 42; exact Calls.quiet_of_same (l1In_any _ _ _ _)))
                go_wp2
                go_ret
                exact ⟨by rw [poB_no fun p => by have := po_okTo p (k := k) (by omega); have := inB_f d1; omega]; rfl, (hwr.alloc (by omega) _).drewN _⟩
            · have e : k = n := by omega
              subst e
              go_wp2
              go_ret
              exact ⟨by rw [poB_mk (okTo_po (inB_t c1) ⟨by omega, by omega⟩ c4 (by rw [hlen]; exact hok))]; rfl, hwr⟩
        · have e : poB t ls = false := poB_no fun p => c4 p.z
          rw [e]
          have c4' : (fr ls 0 != 0) = true := by simpa using c4
          clear e c4
          go_enter Try.func36, Try.ntmps36
          go_wp2_with (go_at_call 42; refine (l1In_any _ _ _ _).mono ?_; rintro e w' ⟨rfl, rfl⟩)
          go_ret
          exact ⟨rfl, w0⟩
      · have e : poB t ls = false := poB_no fun p => by have := p.n2; omega
        rw [e]
        clear e
        go_enter Try.func36, Try.ntmps36
        go_wp2_with (go_at_call 42; refine (l1In_any _ _ _ _).mono ?_; rintro e w' ⟨rfl, rfl⟩)
        go_ret
        exact ⟨rfl, (Below.refl _ _).alloc (by simp) _⟩
    · have e : poB t ls = false := poB_no fun p => by have := p.n1; omega
      rw [e]
      clear e
      go_enter Try.func36, Try.ntmps36
      go_wp2_with (go_at_call 42; refine (l1In_any _ _ _ _).mono ?_; rintro e w' ⟨rfl, rfl⟩)
      go_ret
      exact ⟨rfl, (Below.refl _ _).alloc (by simp) _⟩
  · have e : poB t ls = false := poB_no fun p => c1 (inB_mk ⟨p.t0, p.t1⟩)
    rw [e]
    clear e
    simp only [Bool.not_eq_true] at c1
    go_enter Try.func36, Try.ntmps36
    go_wp2_with (go_at_call 42; refine (l1In_any _ _ _ _).mono ?_; rintro e w' ⟨rfl, rfl⟩)
    go_ret
    exact ⟨rfl, (Below.refl _ _).alloc (by simp) _⟩

end Go.Proofs.Ytfepkchopndpeaa
