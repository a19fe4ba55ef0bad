/- FreeAt, of the model and of the program. -/
import Derived.Test.YtdaedggmeoganaaAt
import Derived.Deep.RegionHeld3
namespace Go.Proofs.Ytdaedggmeoganaa
open Go.RowKit

/-- what FreeAt tells -/
noncomputable def freeI (T : Int) (ls : List Lev) (t : Int) : Int := if poB T ls = true then if okB t = true then atI ls t else -1 else -1
theorem freeI_tt {T : Int} {ls : List Lev} {t : Int} (h : poB T ls = true) (h' : okB t = true) : freeI T ls t = atI ls t := by unfold freeI; rw [if_pos h, if_pos h']
theorem freeI_tf {T : Int} {ls : List Lev} {t : Int} (h : poB T ls = true) (h' : okB t = false) : freeI T ls t = -1 := by unfold freeI; rw [if_pos h, if_neg (by rw [h']; simp)]
theorem freeI_f {T : Int} {ls : List Lev} {t : Int} (h : poB T ls = false) : freeI T ls t = -1 := by unfold freeI; rw [if_neg (by rw [h]; simp)]

theorem specFreeAt_any (T t : Int) (a : Option Addr) (n cap : Nat) (ls : List Lev) (w : World) (h : LevS w a n cap ls) :
    Calls Try.prog 16 #[.agg #[.int .i64 T, .slice a n cap], .int .i64 t] w fun e w' => e = .returned (.int .i64 (freeI T ls t)) ∧ Below w.heap.size w w' := by
  have w0 : Below w.heap.size w (w.alloc (.cells #[.int .i64 T, .slice a n cap] 26)) := box_below
  by_cases c1 : poB T ls = true
  · by_cases c2 : okB t = true
    · rw [freeI_tt c1 c2]
      go_enter Try.func16, Try.ntmps16
      go_wp2_with fail
      refine (specProfileOk_any T a n cap ls _ (h.below w0)).mono ?_
      rw [c1]
      rintro e w1 ⟨rfl, U1⟩
      obtain ⟨p0, p1, hz1⟩ := box_cells U1
      go_wp2_with (go_at_call 45; refine (specOk_any _ _).mono ?_; rintro e w' ⟨rfl, rfl⟩)
      refine (specAt_any T t a n cap ls _ (h.below (w0.then U1 (by simp))) (by have := (poB_t c1).n1; have := h.len; omega)).mono ?_
      rintro e w2 ⟨rfl, hb2⟩
      go_wp2
      go_ret
      exact ⟨rfl, (w0.then U1 (by simp)).then hb2 (w0.then U1 (by simp)).size⟩
    · simp only [Bool.not_eq_true] at c2
      rw [freeI_tf c1 c2]
      go_enter Try.func16, Try.ntmps16
      go_wp2_with fail
      refine (specProfileOk_any T a n cap ls _ (h.below w0)).mono ?_
      rw [c1]
      rintro e w1 ⟨rfl, U1⟩
      go_wp2_with (go_at_call 45; refine (specOk_any _ _).mono ?_; rintro e w' ⟨rfl, rfl⟩)
      go_ret
      exact ⟨rfl, w0.then U1 (by simp)⟩
  · simp only [Bool.not_eq_true] at c1
    rw [freeI_f c1]
    go_enter Try.func16, Try.ntmps16
    go_wp2_with fail
    refine (specProfileOk_any T a n cap ls _ (h.below w0)).mono ?_
    rw [c1]
    rintro e w1 ⟨rfl, U1⟩
    go_wp2
    go_ret
    exact ⟨rfl, w0.then U1 (by simp)⟩

theorem implFreeAt_any (T t : Int) (a : Option Addr) (n cap : Nat) (ls : List Lev) (w : World) (h : LevS w a n cap ls) :
    Calls Try.prog 15 #[.agg #[.int .i64 T, .slice a n cap], .int .i64 t] w fun e w' => e = .returned (.int .i64 (freeI T ls t)) ∧ Below w.heap.size w w' := by
  have w0 : Below w.heap.size w (w.alloc (.cells #[.int .i64 T, .slice a n cap] 26)) := box_below
  by_cases c : (poB T ls && (okB t && okB t)) = true
  · obtain ⟨c1, c2⟩ : poB T ls = true ∧ okB t = true := by simpa using c
    rw [freeI_tt c1 c2]
    have po := poB_t c1
    obtain ⟨t0, t1⟩ := okB_t c2
    obtain ⟨l1, _, _⟩ := po.lvl_spec t0
    have hlen := h.len
    have hn : n ≤ 200 := by have := po.n2; omega
    obtain ⟨b, off, rfl, hbw, hat⟩ := h.at_ (by have := po.n1; omega)
    go_enter Try.func15, Try.ntmps15
    go_wp2_with fail
    refine (stretchOk_any T t t _ n cap ls _ (h.below w0)).mono ?_
    rw [c]
    rintro e w1 ⟨rfl, U1⟩
    obtain ⟨p0, p1, hz1⟩ := box_cells U1
    have V1 := w0.then U1 (by simp)
    obtain ⟨x0, x1⟩ := cells_below (k := lvl ls t) hat V1 hbw l1
    have hS := h.below V1
    have i1 : (0 : Int) ≤ (lvl ls t : Int) := by omega
    have i2 : (lvl ls t : Int) < (n : Int) := by omega
    go_wp2
    go_region_held3 (fun w' => w'.cell? ⟨w.heap.size, 1, none⟩ = some (.slice (some ⟨b, off, none⟩) n cap) ∧ w'.cell? ⟨b, off + lvl ls t * 2 + 1, none⟩ = some (.int .i64 (fe ls (lvl ls t)))) (first | go_keep | exact KS2) (first | (go_at_call 49; refine (levelAt_any T t _ n cap ls _ ?_ po t0).mono ?_; (first | exact hS | exact hS.drew); rintro e w2 ⟨rfl, hb2⟩; have U2 := U1.drew.then hb2 U1.size; obtain ⟨s0, s1, _⟩ := box_cells U2; have y1 := (cells_below (k := lvl ls t) hat (w0.then U2 (by simp)) hbw l1).2; have KS2 := And.intro s1 y1))
    all_goals
      go_wp2
      go_ret
      exact ⟨rfl, w0.then U2 (by simp)⟩
  · simp only [Bool.not_eq_true] at c
    have e1 : freeI T ls t = -1 := by
      by_cases c1 : poB T ls = true
      · exact freeI_tf c1 (by simpa [c1] using c)
      · exact freeI_f (by simpa using c1)
    rw [e1]
    clear e1
    go_enter Try.func15, Try.ntmps15
    go_wp2_with fail
    refine (stretchOk_any T t t _ n cap ls _ (h.below w0)).mono ?_
    rw [c]
    rintro e w1 ⟨rfl, U1⟩
    go_wp2
    go_ret
    exact ⟨rfl, w0.then U1 (by simp)⟩

end Go.Proofs.Ytdaedggmeoganaa
