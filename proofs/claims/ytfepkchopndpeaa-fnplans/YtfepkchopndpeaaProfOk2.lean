/- ProfileOk, of the program. -/
import Derived.Test.YtfepkchopndpeaaProfOk
import Derived.Deep.RegionHeld3
namespace Go.Proofs.Ytfepkchopndpeaa
open Go.RowKit

set_option maxHeartbeats 1000000 in
theorem implProfileOk_any (t : Int) (a : Option Addr) (n cap : Nat) (ls : List Lev) (w : World) (h : LevS w a n cap ls) :
    Calls Try.prog 32 #[.agg #[.int .i64 t, .slice a n cap]] w fun e w' => e = .returned (.bool (poB t ls)) ∧ Below w.heap.size w w' := by
  have hm := h.mx
  have hle := h.le
  unfold maxLen at hm
  have hlen := h.len
  by_cases c1 : t < 0
  · go_enter Try.func32, Try.ntmps32
    go_wp2
    go_ret
    exact ⟨by rw [poB_no fun p => by have := p.t0; omega]; rfl, (Below.refl _ _).alloc (by simp) _⟩
  by_cases c1' : 1000 < t
  · go_enter Try.func32, Try.ntmps32
    go_wp2
    go_ret
    exact ⟨by rw [poB_no fun p => by have := p.t1; omega]; rfl, (Below.refl _ _).alloc (by simp) _⟩
  by_cases c2 : n < 1
  · go_enter Try.func32, Try.ntmps32
    go_wp2
    go_ret
    exact ⟨by rw [poB_no fun p => by have := p.n1; omega]; rfl, (Below.refl _ _).alloc (by simp) _⟩
  by_cases c3 : 200 < n
  · go_enter Try.func32, Try.ntmps32
    go_wp2
    go_ret
    exact ⟨by rw [poB_no fun p => by have := p.n2; omega]; rfl, (Below.refl _ _).alloc (by simp) _⟩
  obtain ⟨b, off, rfl, hbw, hat⟩ := h.at_ (by omega)
  have w0 : Below w.heap.size w (w.alloc (.cells #[.int .i64 t, .slice (some ⟨b, off, none⟩) n cap] 26)) := (Below.refl _ _).alloc (by simp) _
  go_enter Try.func32, Try.ntmps32
  go_wp2
  go_loopw [28] (fun i wr => ∃ k : Nat, k ≤ n ∧ i = .int .i64 k ∧ okTo t ls k ∧ Below (w.alloc (.cells #[.int .i64 t, .slice (some ⟨b, off, none⟩) n cap] 26)).heap.size (w.alloc (.cells #[.int .i64 t, .slice (some ⟨b, off, none⟩) n cap] 26)) wr) (fun i _ => n - (intOf i).toNat)
  case atStart => exact ⟨0, by omega, rfl, fun i hi => by omega, Below.refl _ _⟩
  case round =>
    obtain ⟨k, hk, rfl, hok, hw⟩ := hrel
    obtain ⟨hc, hf⟩ := bcell hw
    have b0 := hc w.heap.size 0 (by simp)
    have b1 := hc w.heap.size 1 (by simp)
    simp at b0 b1
    have hwr := w0.then hw (by simp)
    have hz : w.heap.size < wr.heap.size := by have := hw.size; simp at this; omega
    have hbr : b < wr.heap.size := by omega
    by_cases hlt : k < n
    · obtain ⟨x0, x1⟩ := cells_below (k := k) hat hwr hbw (by omega)
      clear hc hf
      by_cases d1 : 1000000000 ≤ fr ls k
      · go_wp2
        go_ret
        exact ⟨by rw [poB_no fun p => by have := po_okTo p (k := k) (by omega); omega]; rfl, hwr.alloc (by omega) _⟩
      by_cases d2 : fe ls k < 0
      · go_wp2
        go_ret
        exact ⟨by rw [poB_no fun p => by have := po_okTo p (k := k) (by omega); omega]; rfl, hwr.alloc (by omega) _⟩
      by_cases d3 : t < fe ls k
      · go_wp2
        go_ret
        exact ⟨by rw [poB_no fun p => by have := po_okTo p (k := k) (by omega); omega]; rfl, hwr.alloc (by omega) _⟩
      by_cases d0 : 0 < k
      · obtain ⟨j, rfl⟩ : ∃ j, k = j + 1 := ⟨k - 1, by omega⟩
        have hj : j < n := by omega
        have hj1 : (0 : Int) ≤ (j : Int) := by omega
        have hj2 : (j : Int) < (n : Int) := by omega
        obtain ⟨y0, y1⟩ := cells_below (k := j) hat hwr hbw (by omega)
        by_cases d4 : fr ls j < fr ls (j + 1) ∧ fe ls j ≠ fe ls (j + 1)
        · have HS : Hid (true = (decide (fr ls j < fr ls (j + 1)) && decide (fe ls j ≠ fe ls (j + 1)))) := by unfold Hid; simp [d4.1, d4.2]
          have HD : Hid (fr ls j < fr ls (j + 1) ∧ fe ls j ≠ fe ls (j + 1)) := d4
          clear d4
          go_wp2
          have hj3 : IntKind.i64.wrap (j : Int) = (j : Int) := by rw [IntKind.wrap_i64]; omega
          go_region_held3 (fun w' => w'.cell? ⟨w.heap.size, 1, none⟩ = some (.slice (some ⟨b, off, none⟩) n cap) ∧ w'.cell? ⟨b, off + j * 2, none⟩ = some (.int .i64 (fr ls j)) ∧ w'.cell? ⟨b, off + j * 2 + 1, none⟩ = some (.int .i64 (fe ls j)) ∧ w'.cell? ⟨wr.heap.size, 0, none⟩ = some (.int .i64 (fr ls (j + 1))) ∧ w'.cell? ⟨wr.heap.size, 1, none⟩ = some (.int .i64 (fe ls (j + 1)))) (first | go_keep | (refine ⟨?_, ?_, ?_, ?_, ?_⟩ <;> (rw [hb1.cell (by simp <;> omega)]; simp [*]))) (first | (go_at_call 56; refine (steps_any _ _ _ _ _ true HS.out).mono ?_; rintro e w1 ⟨rfl, hb1⟩))
          all_goals
            clear hj3
            go_wp2
            go_roundw
            case rel => exact ⟨j + 1 + 1, by omega, by go_num, okTo_succ hok ⟨by omega, by omega, by omega, fun _ => by simpa using HD.out⟩, by first | exact (hw.alloc (by simp; omega) _).then hb1 (by simp; omega) | exact (hw.alloc (by simp; omega) _).drew.then hb1 (by simp; omega) | exact (hw.alloc (by simp; omega) _).drew.drew.then hb1 (by simp; omega)⟩
            case measure => simp [intOf]; omega
        · have HS : Hid (false = (decide (fr ls j < fr ls (j + 1)) && decide (fe ls j ≠ fe ls (j + 1)))) := by
            unfold Hid; rw [← Bool.decide_and]; exact (decide_eq_false d4).symm
          have HD : Hid (¬ (fr ls j < fr ls (j + 1) ∧ fe ls j ≠ fe ls (j + 1))) := d4
          clear d4
          go_wp2
          have hj3 : IntKind.i64.wrap (j : Int) = (j : Int) := by rw [IntKind.wrap_i64]; omega
          go_region_held3 (fun w' => w'.cell? ⟨w.heap.size, 1, none⟩ = some (.slice (some ⟨b, off, none⟩) n cap) ∧ w'.cell? ⟨b, off + j * 2, none⟩ = some (.int .i64 (fr ls j)) ∧ w'.cell? ⟨b, off + j * 2 + 1, none⟩ = some (.int .i64 (fe ls j)) ∧ w'.cell? ⟨wr.heap.size, 0, none⟩ = some (.int .i64 (fr ls (j + 1))) ∧ w'.cell? ⟨wr.heap.size, 1, none⟩ = some (.int .i64 (fe ls (j + 1)))) (first | go_keep | (refine ⟨?_, ?_, ?_, ?_, ?_⟩ <;> (rw [hb1.cell (by simp <;> omega)]; simp [*]))) (first | (go_at_call 56; refine (steps_any _ _ _ _ _ false HS.out).mono ?_; rintro e w1 ⟨rfl, hb1⟩))
          all_goals
            clear hj3
            go_wp2
            go_ret
            exact ⟨by rw [poB_no fun p => HD.out (by simpa using (po_okTo p (k := j + 1) (by omega)).2.2.2.2 (by omega))]; rfl, by first | exact (hwr.alloc (by omega) _).then hb1 (by simp; omega) | exact (hwr.alloc (by omega) _).drew.then hb1 (by simp; omega) | exact (hwr.alloc (by omega) _).drew.drew.then hb1 (by simp; omega)⟩
      · go_wp2
        go_quiet (fail)
        go_wp2
        go_roundw
        case rel => exact ⟨k + 1, by omega, by go_num, okTo_succ hok ⟨by omega, by omega, by omega, fun _ => by omega⟩, (hw.alloc (by simp; omega) _).drewN _⟩
        case measure => simp [intOf]; omega
    · have e : k = n := by omega
      subst e
      clear hc hf
      obtain ⟨x0, x1⟩ := cells_below (k := 0) hat hwr hbw (by omega)
      simp only [Nat.zero_mul, Nat.add_zero] at x0 x1
      by_cases c4 : fr ls 0 = 0
      · have c4' : (fr ls 0 == 0) = true := by simpa using c4
        have HZ : Hid (fr ls 0 = 0) := c4
        clear c4
        go_wp2
        go_ret
        exact ⟨by rw [poB_mk (okTo_po ⟨by omega, by omega⟩ ⟨by omega, by omega⟩ HZ.out (by rw [hlen]; exact hok))]; rfl, hwr⟩
      · have c4' : (fr ls 0 == 0) = false := by simpa using c4
        go_wp2
        go_ret
        exact ⟨by rw [poB_no fun p => c4 p.z]; rfl, hwr⟩

end Go.Proofs.Ytfepkchopndpeaa
