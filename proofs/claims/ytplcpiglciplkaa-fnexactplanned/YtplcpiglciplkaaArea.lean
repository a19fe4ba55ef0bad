/- Area, of the model and of the program. -/
import Derived.Test.YtplcpiglciplkaaLev3
namespace Go.Proofs.Ytplcpiglciplkaa
open Go.RowKit

/-- what Area tells -/
noncomputable def areaF (T : Int) (ls : List Lev) (x y : Int) : Int := if (poB T ls && (okB x && okB y)) = true then areaIn ls x y ls.length else -1
theorem areaF_t {T : Int} {ls : List Lev} {x y : Int} (h : (poB T ls && (okB x && okB y)) = true) : areaF T ls x y = areaIn ls x y ls.length := by unfold areaF; rw [if_pos h]
theorem areaF_f {T : Int} {ls : List Lev} {x y : Int} (h : (poB T ls && (okB x && okB y)) = false) : areaF T ls x y = -1 := by unfold areaF; rw [if_neg (by rw [h]; simp)]

set_option maxHeartbeats 1000000 in
theorem specArea_any (T x y : Int) (a : Option Addr) (n cap : Nat) (ls : List Lev) (w : World) (h : LevS w a n cap ls) :
    Calls Try.prog 30 #[.agg #[.int .i64 T, .slice a n cap], .int .i64 x, .int .i64 y] w fun e w' => e = .returned (.int .i64 (areaF T ls x y)) ∧ Below w.heap.size w w' := by
  have w0 : Below w.heap.size w (w.alloc (.cells #[.int .i64 T, .slice a n cap] 26)) := box_below
  by_cases c1 : poB T ls = true
  · by_cases c2 : okB x = true
    · by_cases c3 : okB y = true
      · have po := poB_t c1
        obtain ⟨x0, x1⟩ := okB_t c2
        obtain ⟨y0, y1⟩ := okB_t c3
        have hlen := h.len
        have hn : n ≤ 200 := by have := po.n2; omega
        obtain ⟨b, off, rfl, hbw, hat⟩ := h.at_ (by have := po.n1; omega)
        rw [areaF_t (by rw [c1, c2, c3]; rfl)]
        go_enter Try.func30, Try.ntmps30
        go_wp2_with fail
        refine (specProfileOk_any T _ n cap ls _ (h.below w0)).mono ?_
        rw [c1]
        rintro e w1 ⟨rfl, U1⟩
        obtain ⟨z0, z1, hz1⟩ := box_cells U1
        have V1 := w0.then U1 (by simp)
        go_wp2_with (go_at_call 58; refine (specOk_any _ _).mono ?_; rintro e w' ⟨rfl, hq⟩; have hq' := hq.symm; clear hq; subst hq')
        go_loopw [7, 8] (fun s i wr => ∃ k : Nat, k ≤ n ∧ i = .int .i64 k ∧ s = .int .i64 (areaIn ls x y k) ∧ Below (w.alloc (.cells #[.int .i64 T, .slice (some ⟨b, off, none⟩) n cap] 26)).heap.size (w.alloc (.cells #[.int .i64 T, .slice (some ⟨b, off, none⟩) n cap] 26)) wr) (fun _ i _ => n - (intOf i).toNat)
        case atStart => exact ⟨0, by omega, rfl, rfl, U1⟩
        case round =>
          obtain ⟨k, hk, rfl, rfl, U⟩ := hrel
          obtain ⟨p0, p1, hz⟩ := box_cells U
          have V := w0.then U (by simp)
          by_cases hlt : k < n
          · obtain ⟨q0, q1⟩ := cells_below (k := k) hat V hbw (by omega)
            obtain ⟨r1, r2, r3, r4⟩ := area_bd po (x := x) (y := y) k (by omega)
            obtain ⟨e1, e2, e3⟩ := po.el k (by omega)
            have e4 := po.pos (i := k) (by omega)
            have e5 := nxt_bd po (i := k) (by omega)
            have t1 := po.t1
            by_cases hc : k + 1 < n
            · obtain ⟨g0, g1⟩ := cells_below (k := k + 1) hat V hbw (by omega)
              have E : Hid (areaIn ls x y (k + 1) = areaIn ls x y k + fe ls k * max 0 (min (fr ls (k + 1)) y - max (fr ls k) x)) := by
                unfold Hid; rw [areaIn, spanI, nxt_in (by omega)]
              rw [spanI, nxt_in (by omega)] at r3 r4
              rw [nxt_in (by omega)] at e5
              have i1 : (0 : Int) ≤ (k : Int) := by omega
              have i2 : (k : Int) < (n : Int) := by omega
              go_wp2
              go_quiet ((first | (go_at_call 69; exact Calls.quiet_of_same (l1Min_any _ _ _)) | (go_at_call 63; exact Calls.quiet_of_same (l1Max_any _ _ _))))
              go_wp2
              go_roundw
              case rel => exact ⟨k + 1, by omega, by go_num, by rw [E.out], U.drewN _⟩
              case measure => simp [intOf]; omega
            · have E : Hid (areaIn ls x y (k + 1) = areaIn ls x y k + fe ls k * max 0 (min 1000000000 y - max (fr ls k) x)) := by
                unfold Hid; rw [areaIn, spanI, nxt_out (by omega)]
              rw [spanI, nxt_out (by omega)] at r3 r4
              rw [nxt_out (by omega)] at e5
              have i1 : (0 : Int) ≤ (k : Int) := by omega
              have i2 : (k : Int) < (n : Int) := by omega
              go_wp2
              go_quiet ((first | (go_at_call 69; exact Calls.quiet_of_same (l1Min_any _ _ _)) | (go_at_call 63; exact Calls.quiet_of_same (l1Max_any _ _ _))))
              go_wp2
              go_roundw
              case rel => exact ⟨k + 1, by omega, by go_num, by rw [E.out], U.drewN _⟩
              case measure => simp [intOf]; omega
          · have e : k = n := by omega
            subst e
            go_wp2
            go_ret
            exact ⟨by rw [hlen]; rfl, V⟩
      · simp only [Bool.not_eq_true] at c3
        rw [areaF_f (by rw [c1, c2, c3]; rfl)]
        go_enter Try.func30, Try.ntmps30
        go_wp2_with fail
        refine (specProfileOk_any T a n cap ls _ (h.below w0)).mono ?_
        rw [c1]
        rintro e w1 ⟨rfl, U1⟩
        go_wp2_with (go_at_call 58; refine (specOk_any _ _).mono ?_; rintro e w' ⟨rfl, rfl⟩)
        go_ret
        exact ⟨rfl, w0.then U1 (by simp)⟩
    · simp only [Bool.not_eq_true] at c2
      rw [areaF_f (by rw [c1, c2]; rfl)]
      go_enter Try.func30, Try.ntmps30
      go_wp2_with fail
      refine (specProfileOk_any T a n cap ls _ (h.below w0)).mono ?_
      rw [c1]
      rintro e w1 ⟨rfl, U1⟩
      go_wp2_with (go_at_call 58; refine (specOk_any _ _).mono ?_; rintro e w' ⟨rfl, rfl⟩)
      go_ret
      exact ⟨rfl, w0.then U1 (by simp)⟩
  · simp only [Bool.not_eq_true] at c1
    rw [areaF_f (by rw [c1]; rfl)]
    go_enter Try.func30, Try.ntmps30
    go_wp2_with fail
    refine (specProfileOk_any T a n cap ls _ (h.below w0)).mono ?_
    rw [c1]
    rintro e w1 ⟨rfl, U1⟩
    go_wp2
    go_ret
    exact ⟨rfl, w0.then U1 (by simp)⟩

theorem areaTo_part {T : Int} {ls : List Lev} (po : PO T ls) {x y : Int} (hx : 0 ≤ x) (h : x < y) (hy : y ≤ 1000000000) : ∀ j, j ≤ lvl ls (y - 1) + 1 - lvl ls x → areaTo (cpd ls x y) y j = areaIn ls x y (lvl ls x + j) := by
  obtain ⟨a1, a2, a3⟩ := po.lvl_spec hx
  have m1 : ∀ k, k ≤ lvl ls x → areaIn ls x y k = 0 := by
    intro k
    induction k with
    | zero => intro _; rfl
    | succ k ih =>
      intro hk
      have := po.le (i := k + 1) (j := lvl ls x) hk a1
      have e : spanI ls x y k = 0 := by unfold spanI; rw [nxt_in (by omega)]; omega
      show areaIn ls x y k + fe ls k * spanI ls x y k = 0
      rw [ih (by omega), e]; simp
  intro j
  induction j with
  | zero => intro _; exact (m1 _ (Nat.le_refl _)).symm
  | succ j ih =>
    intro hj
    obtain ⟨e1, e2⟩ := po.cpd_part hx h hy (j := j) (by omega)
    show areaTo (cpd ls x y) y j + fe (cpd ls x y) j * (nxt (cpd ls x y) j y - fr (cpd ls x y) j) = areaIn ls x y (lvl ls x + j) + fe ls (lvl ls x + j) * spanI ls x y (lvl ls x + j)
    rw [ih (by omega), e1, e2]

/-- what keeps the program's sums from passing the end -/
theorem areaTo_bd {T : Int} {ls : List Lev} (po : PO T ls) {x y : Int} (hx : 0 ≤ x) (hy : y ≤ 1000000000) {j : Nat} (hj : j < (cpd ls x y).length) :
    0 ≤ areaTo (cpd ls x y) y j ∧ areaTo (cpd ls x y) y j ≤ 1000000000000 ∧ 0 ≤ fe (cpd ls x y) j * (nxt (cpd ls x y) j y - fr (cpd ls x y) j) ∧ fe (cpd ls x y) j * (nxt (cpd ls x y) j y - fr (cpd ls x y) j) ≤ 1000000000000 ∧
      0 ≤ fr (cpd ls x y) j ∧ fr (cpd ls x y) j ≤ 1000000000 ∧ 0 ≤ nxt (cpd ls x y) j y ∧ nxt (cpd ls x y) j y ≤ 1000000000 ∧ 0 ≤ fe (cpd ls x y) j ∧ fe (cpd ls x y) j ≤ 1000 := by
  by_cases hxy : y ≤ x
  · rw [cpd_len, dur_nil hxy] at hj; simp at hj
  · have h : x < y := by omega
    have hlen := po.dur_len hx h
    have hcl := cpd_len ls x y
    obtain ⟨a1, a2, a3⟩ := po.lvl_spec hx
    obtain ⟨b1, b2, b3⟩ := po.lvl_spec (t := y - 1) (by omega)
    have hj' : j < lvl ls (y - 1) + 1 - lvl ls x := by omega
    obtain ⟨e1, e2⟩ := po.cpd_part hx h hy hj'
    obtain ⟨r1, r2, r3, r4⟩ := area_bd po (x := x) (y := y) (lvl ls x + j) (by omega)
    have k1 := nxt_bd po (i := lvl ls x + j) (by omega)
    have k2 := po.el (lvl ls x + j) (by omega)
    have k3 := po.pos (i := lvl ls x + j) (by omega)
    have t1 := po.t1
    have hfr : 0 ≤ fr (cpd ls x y) j ∧ fr (cpd ls x y) j ≤ 1000000000 := by
      cases j with
      | zero => rw [cpd_fr0 (by omega)]; omega
      | succ j => rw [cpd_fr, dur_fr h hj']; omega
    have hsp : 0 ≤ spanI ls x y (lvl ls x + j) ∧ spanI ls x y (lvl ls x + j) ≤ nxt ls (lvl ls x + j) 1000000000 - fr ls (lvl ls x + j) := by unfold spanI; omega
    have hnx : nxt (cpd ls x y) j y ≤ 1000000000 := by
      by_cases hj1 : j + 1 < (cpd ls x y).length
      · rw [nxt_in hj1, cpd_fr, dur_fr h (by omega)]
        have := po.el (lvl ls x + (j + 1)) (by omega)
        omega
      · rw [nxt_out hj1]; exact hy
    rw [areaTo_part po hx h hy j (by omega)]
    rw [e1, ← e2]
    refine ⟨r1, by omega, r3, by omega, hfr.1, hfr.2, by omega, hnx, by omega, by omega⟩

end Go.Proofs.Ytplcpiglciplkaa
