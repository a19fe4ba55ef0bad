/- The program's CommandOk. -/
import Derived.Test.YtppnnnijdfbgpaaDoorShpI2
import Derived.Test.YtppnnnijdfbgpaaDoorCmdT
namespace Go.Proofs.YtppnnnijdfbgpaaDoor
open Go.RowKit

theorem lim_s {k j : Nat} {q : Nat → Int} (h : limB k q j) (hj : inB (q j) (loK k j) (hiK k j) = true) : limB k q (j + 1) := all_s h hj

theorem idx3_0 (a b c : Int) (W : World) : (Instr.index 43 (.agg #[.int .i64 a, .int .i64 b, .int .i64 c]) (.int .i64 0)).run Tryd.prog W = .ok (.int .i64 a) W := by kernel_rfl
theorem idx3_1 (a b c : Int) (W : World) : (Instr.index 43 (.agg #[.int .i64 a, .int .i64 b, .int .i64 c]) (.int .i64 1)).run Tryd.prog W = .ok (.int .i64 b) W := by kernel_rfl
theorem idx3_2 (a b c : Int) (W : World) : (Instr.index 43 (.agg #[.int .i64 a, .int .i64 b, .int .i64 c]) (.int .i64 2)).run Tryd.prog W = .ok (.int .i64 c) W := by kernel_rfl

set_option maxHeartbeats 4000000 in
theorem implCommandOk_any (k a b c : Int) (w : World) (hs : ShIs w) :
    Calls Tryd.prog 14 #[.agg #[.int .i64 k, .int .i64 a, .int .i64 b, .int .i64 c]] w fun e w' => e = .returned (.bool (cmB k a b c)) ∧ Below w.heap.size w w' := by
  obtain ⟨W0, hW0⟩ : ∃ W0, W0 = w.alloc (.cells #[.int .i64 k, .int .i64 a, .int .i64 b, .int .i64 c] 25) := ⟨_, rfl⟩
  have B0 : Below w.heap.size w W0 := by rw [hW0]; exact box_below
  have X0 : W0.heap[w.heap.size]? = some (.cells #[.int .i64 k, .int .i64 a, .int .i64 b, .int .i64 c] 25 (0, 0)) := by rw [hW0]; exact heap_alloc_new _ _
  have c0 : W0.cell? ⟨w.heap.size, 0, none⟩ = some (.int .i64 k) := by simp [World.cell?, X0]
  have c1 : W0.cell? ⟨w.heap.size, 1, none⟩ = some (.int .i64 a) := by simp [World.cell?, X0]
  have c2 : W0.cell? ⟨w.heap.size, 2, none⟩ = some (.int .i64 b) := by simp [World.cell?, X0]
  have c3 : W0.cell? ⟨w.heap.size, 3, none⟩ = some (.int .i64 c) := by simp [World.cell?, X0]
  have l0 := lt_of_block X0
  have HX : Hid (∀ W, Below W0.heap.size W0 W → W.cell? ⟨w.heap.size, 0, none⟩ = some (.int .i64 k)) := fun W hW => by
    rw [hW.cell (p := ⟨w.heap.size, 0, none⟩) l0]; exact c0
  have hp := hs.pos
  have HSH : Hid (∀ W, Below W0.heap.size W0 W → ShIs W) := fun W hW => (hs.keep B0 hp).keep hW (Nat.lt_of_lt_of_le hp B0.size)
  have HP : Hid (0 < w.heap.size) := hp
  clear X0 hs hp
  by_cases hk : 1 ≤ k ∧ k ≤ 7
  · obtain ⟨m, rfl⟩ : ∃ m : Nat, k = m := ⟨k.toNat, by omega⟩
    have hm1 : 1 ≤ m := by omega
    have hm7 : m ≤ 7 := by omega
    have hin : inB (m : Int) 1 7 = true := by unfold inB; simp; omega
    obtain ⟨r, hr⟩ : ∃ r, r = cmB (m : Int) a b c := ⟨_, rfl⟩
    have HR : Hid (r = true ↔ limB m (n3 a b c) 3) := by rw [hr]; exact lim_cm hm1 hm7 (q := n3 a b c)
    rw [← hr]
    clear hr hk
    have HL : Hid (∀ W, Below W0.heap.size W0 W → ∀ i, i < 3 → W.cell? ⟨0, 7 * m + 1 + 2 * i, none⟩ = some (.int .i64 (loK m i)) ∧ W.cell? ⟨0, 7 * m + 2 + 2 * i, none⟩ = some (.int .i64 (hiK m i))) := fun W hW i hi => by
      rw [(HSH.out W hW).cell, (HSH.out W hW).cell]
      exact shLim (by omega) hi
    go_enter Tryd.func14, Tryd.ntmps14
    go_upto_region 1 with fail
    rw [← hW0]
    clear hW0
    go_upto_region 4 with (first | (go_at_call 32; refine (within_any _ _ _ _).mono ?_; rintro e w' ⟨rfl, hq⟩; have hq' := hq.symm; clear hq; subst hq') | (go_at_call 19; refine (numbers_any _ _ _ _ _).mono ?_; rintro e w1 ⟨rfl, hb1⟩))
    clear c0 c1 c2 c3 hin
    obtain rfl | rfl | rfl | rfl | rfl | rfl | rfl : m = 1 ∨ m = 2 ∨ m = 3 ∨ m = 4 ∨ m = 5 ∨ m = 6 ∨ m = 7 := by omega
    all_goals
      go_loopw [3, 4, 5, 12] (fun _ _ _ iv wr => ∃ j : Nat, j ≤ 3 ∧ iv = .int .i64 j ∧ Hid (limB _ (n3 a b c) j) ∧ Below W0.heap.size W0 wr) (fun _ _ _ iv _ => 3 - (intOf iv).toNat)
      case atStart => exact ⟨0, by omega, rfl, fun i hi => by omega, hb1⟩
      case round =>
        obtain ⟨j, hj, rfl, HJ, hw⟩ := hrel
        rename World => wr
        have x0 := HX.out _ hw
        have i0 := idx3_0 a b c wr
        have i1 := idx3_1 a b c wr
        have i2 := idx3_2 a b c wr
        by_cases h3 : j = 3
        · subst h3
          have E : Hid (r = true) := HR.out.2 HJ.out
          go_wp2
          go_ret
          exact ⟨by rw [E.out]; rfl, B0.then hw B0.size⟩
        · obtain ⟨u0, u1⟩ := HL.out _ hw j (by omega)
          have hlim : Hid (inB (n3 a b c j) (loK _ j) (hiK _ j) = true → limB _ (n3 a b c) (j + 1)) := fun h => lim_s HJ.out h
          have hnot : Hid (inB (n3 a b c j) (loK _ j) (hiK _ j) = false → r = false) := fun h => by
            rcases hr : r with _ | _
            · rfl
            · have := HR.out.1 hr j (by omega)
              rw [h] at this; cases this
          obtain ⟨v, hv0⟩ : ∃ v, v = n3 a b c j := ⟨_, rfl⟩
          rw [← hv0] at hlim hnot
          clear HJ
          obtain rfl | rfl | rfl : j = 0 ∨ j = 1 ∨ j = 2 := by omega
          all_goals
            first | obtain rfl : v = a := hv0 | obtain rfl : v = b := hv0 | obtain rfl : v = c := hv0
            simp only [Nat.reduceMul, Nat.reduceAdd, Nat.mul_zero, Nat.add_zero] at u0 u1
            generalize loK _ _ = lo at u0 hlim hnot
            generalize hiK _ _ = hi at u1 hlim hnot
            obtain ⟨W1, hW1⟩ : ∃ W1, W1 = wr.alloc (.cells #[.int .i64 lo, .int .i64 hi] 38) := ⟨_, rfl⟩
            have hw1 : Below W0.heap.size W0 W1 := by rw [hW1]; exact hw.alloc hw.size _
            have y0 : W1.cell? ⟨wr.heap.size, 0, none⟩ = some (.int .i64 lo) := by rw [hW1]; simp
            have y1 : W1.cell? ⟨wr.heap.size, 1, none⟩ = some (.int .i64 hi) := by rw [hW1]; simp
            go_upto_region 7 with fail
            rw [← hW1]
            clear hW1 u0 u1 x0 i0 i1 i2
            rcases hv : inB v lo hi with _ | _
            · have E : Hid (r = false) := hnot.out hv
              go_wp2_with (go_at_call 32; refine (within_any _ _ _ _).mono ?_; rw [hv]; rintro e w' ⟨rfl, hq⟩; have hq' := hq.symm; clear hq; subst hq')
              go_ret
              exact ⟨by rw [E.out]; rfl, B0.then hw1 B0.size⟩
            · have HJ' := hlim.out hv
              go_wp2_with (go_at_call 32; refine (within_any _ _ _ _).mono ?_; rw [hv]; rintro e w' ⟨rfl, hq⟩; have hq' := hq.symm; clear hq; subst hq')
              go_roundw
              case rel => (repeat apply Exists.intro); exact ⟨⟨_, by omega, by go_num, HJ', hw1⟩, rfl⟩
              case measure => simp [intOf]
  · have e1 : cmB k a b c = false := by
      rcases h : cmB k a b c with _ | _
      · rfl
      · have := kind_of h; omega
    have hin : inB k 1 7 = false := by unfold inB; simp; omega
    rw [e1]
    clear e1 hk
    go_enter Tryd.func14, Tryd.ntmps14
    go_upto_region 1 with fail
    rw [← hW0]
    clear hW0
    go_wp2_with (go_at_call 32; refine (within_any _ _ _ _).mono ?_; rintro e w' ⟨rfl, hq⟩; have hq' := hq.symm; clear hq; subst hq')
    go_ret
    exact ⟨rfl, B0⟩

end Go.Proofs.YtppnnnijdfbgpaaDoor
