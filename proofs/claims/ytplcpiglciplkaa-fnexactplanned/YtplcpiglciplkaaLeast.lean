/- Least, of the model and of the program; the cut of the levels of a stretch. -/
import Derived.Test.YtplcpiglciplkaaFreeAt
import Derived.Test.YtplcpiglciplkaaLev2
namespace Go.Proofs.Ytplcpiglciplkaa
open Go.RowKit

theorem min_if (a b : Int) : (if b < a then b else a) = min a b := by split <;> omega

/-- a cut of a slice of levels -/
theorem LevS.cut {w : World} {b off n cap i m : Nat} {ls : List Lev} (h : LevS w (some ⟨b, off, none⟩) n cap ls) (hb : b < w.heap.size) (hat : LevAt w b off ls) (hi : i + m ≤ n) (hm : 0 < m) :
    LevS w (some ⟨b, off + i * 2, none⟩) m m ((ls.drop i).take m) := by
  have hl := h.len
  have hx := h.mx
  have hle := h.le
  refine ⟨by rw [List.length_take, List.length_drop]; omega, Nat.le_refl _, by omega, (fun e => by cases e), fun k hk => ?_, fun _ => ⟨b, _, rfl, hb, fun k hk => ?_⟩⟩
  · rw [fr_cut _ _ _ _ hk, fe_cut _ _ _ _ hk]; exact h.wf (i + k) (by omega)
  · have hk' : k < m := by rw [List.length_take, List.length_drop] at hk; omega
    rw [fr_cut _ _ _ _ hk', fe_cut _ _ _ _ hk']
    have e : off + i * 2 + k * 2 = off + (i + k) * 2 := by omega
    rw [e]
    exact hat (i + k) (by omega)

theorem LevS.none (w : World) : LevS w .none 0 0 [] := ⟨rfl, Nat.le_refl _, Nat.zero_le _, fun _ => rfl, fun i hi => by omega, fun hi => by omega⟩

theorem during_any (T x y : Int) (a : Option Addr) (n cap : Nat) (ls : List Lev) (w : World) (h : LevS w a n cap ls) (po : PO T ls) (hx : okB x = true) (hy : okB y = true) :
    Calls Try.prog 116 #[.slice a n cap, .int .i64 x, .int .i64 y] w fun e w' =>
      ∃ a' m, e = .returned (.slice a' m m) ∧ LevS w' a' m m (dur ls x y) ∧ Below w.heap.size w w' := by
  obtain ⟨x0, x1⟩ := okB_t hx
  obtain ⟨y0, y1⟩ := okB_t hy
  by_cases c : y ≤ x
  · go_enter Try.func116, Try.ntmps116
    go_wp2
    go_ret
    exact ⟨.none, 0, rfl, by rw [dur_nil c]; exact LevS.none _, Below.refl _ _⟩
  · have hlen := h.len
    have hn : n ≤ 200 := by have := po.n2; omega
    obtain ⟨l1, _, _⟩ := po.lvl_spec x0
    obtain ⟨l2, _, _⟩ := po.lvl_spec (t := y - 1) (by omega)
    have l3 := po.lvl_mono x0 (t := y - 1) (by omega)
    have hle := h.le
    obtain ⟨b, off, rfl, hbw, hat⟩ := h.at_ (by omega)
    go_enter Try.func116, Try.ntmps116
    go_wp2_with fail
    refine (levelAt_any T x _ n cap ls _ h po x0).mono ?_
    rintro e w1 ⟨rfl, hb1⟩
    go_wp2_with fail
    refine (levelAt_any T (y - 1) _ n cap ls _ (h.below hb1) po (by omega)).mono ?_
    rintro e w2 ⟨rfl, hb2⟩
    have V := hb1.then hb2 hb1.size
    have C := (h.below V).cut (i := lvl ls x) (m := lvl ls (y - 1) + 1 - lvl ls x) (by have := V.size; omega) (hat.below V hbw) (by omega) (by omega)
    rw [← dur_cut (by omega)] at C
    go_wp2
    go_ret
    exact ⟨_, _, rfl, C, V⟩

set_option maxHeartbeats 400000 in
theorem l2Least_any (T x y : Int) (a : Option Addr) (n cap : Nat) (ls : List Lev) (w : World) (h : LevS w a n cap ls) (po : PO T ls) (hx : okB x = true) (hy : okB y = true) :
    Calls Try.prog 93 #[.agg #[.int .i64 T, .slice a n cap], .int .i64 x, .int .i64 y] w fun e w' => e = .returned (.int .i64 (leastI T ls x y)) ∧ Below w.heap.size w w' := by
  obtain ⟨x0, x1⟩ := okB_t hx
  obtain ⟨y0, y1⟩ := okB_t hy
  have hlen := h.len
  have hn : n ≤ 200 := by have := po.n2; omega
  have h0 : 0 < n := by have := po.n1; omega
  obtain ⟨b, off, rfl, hbw, hat⟩ := h.at_ h0
  have w0 : Below w.heap.size w (w.alloc (.cells #[.int .i64 T, .slice (some ⟨b, off, none⟩) n cap] 26)) := box_below
  by_cases c : y ≤ x
  · go_enter Try.func93, Try.ntmps93
    go_wp2
    go_ret
    exact ⟨by unfold leastI; rw [if_pos c]; rfl, w0⟩
  · go_enter Try.func93, Try.ntmps93
    go_wp2_with fail
    refine (specAt_any T x _ n cap ls _ (h.below w0) h0).mono ?_
    rintro e w1 ⟨rfl, U1⟩
    obtain ⟨p0, p1, hz1⟩ := box_cells U1
    have V1 := w0.then U1 (by simp)
    go_wp2
    go_loop [7, 8] (fun m i => ∃ k : Nat, k ≤ n ∧ i = .int .i64 k ∧ m = .int .i64 (minIn ls x y (atI ls x) k)) (fun _ i => n - (intOf i).toNat)
    case atStart => exact ⟨0, by omega, rfl, rfl⟩
    case round =>
      obtain ⟨k, hk, rfl, rfl⟩ := hrel
      by_cases hlt : k < n
      · obtain ⟨q0, q1⟩ := cells_below (k := k) hat V1 hbw (by omega)
        by_cases hc : x ≤ fr ls k ∧ fr ls k ≤ y - 1
        · have E : Hid (minIn ls x y (atI ls x) (k + 1) = min (minIn ls x y (atI ls x) k) (fe ls k)) := by unfold Hid; rw [minIn, if_pos hc]
          have I : inB (fr ls k) x (y - 1) = true := inB_mk hc
          clear hc
          go_wp2_with (first | (go_at_call 62; refine (l1In_any _ _ _ _).mono ?_; rintro e w' ⟨rfl, rfl⟩) | (go_at_call 69; refine (l1Min_any _ _ _).mono ?_; rintro e w' ⟨rfl, rfl⟩))
          go_round
          case rel => exact ⟨k + 1, by omega, by go_num, by rw [E.out]⟩
          case measure => simp [intOf]; omega
        · have E : Hid (minIn ls x y (atI ls x) (k + 1) = minIn ls x y (atI ls x) k) := by unfold Hid; rw [minIn, if_neg hc]
          have I : inB (fr ls k) x (y - 1) = false := inB_no (by omega)
          clear hc
          go_wp2_with (first | (go_at_call 62; refine (l1In_any _ _ _ _).mono ?_; rintro e w' ⟨rfl, rfl⟩) | (go_at_call 69; refine (l1Min_any _ _ _).mono ?_; rintro e w' ⟨rfl, rfl⟩))
          go_round
          case rel => exact ⟨k + 1, by omega, by go_num, by rw [E.out]⟩
          case measure => simp [intOf]; omega
      · have e : k = n := by omega
        subst e
        go_wp2
        go_ret
        exact ⟨by unfold leastI; rw [if_neg (by omega), hlen]; rfl, V1⟩

/-- what Least tells -/
noncomputable def leastF (T : Int) (ls : List Lev) (x y : Int) : Int := if (poB T ls && (okB x && okB y)) = true then leastI T ls x y else -1
theorem leastF_t {T : Int} {ls : List Lev} {x y : Int} (h : (poB T ls && (okB x && okB y)) = true) : leastF T ls x y = leastI T ls x y := by unfold leastF; rw [if_pos h]
theorem leastF_f {T : Int} {ls : List Lev} {x y : Int} (h : (poB T ls && (okB x && okB y)) = false) : leastF T ls x y = -1 := by unfold leastF; rw [if_neg (by rw [h]; simp)]

end Go.Proofs.Ytplcpiglciplkaa
