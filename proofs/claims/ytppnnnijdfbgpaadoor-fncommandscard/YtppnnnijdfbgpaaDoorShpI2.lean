/- The program's told, numbers, CommandOk, kindOf, commandOf. -/
import Derived.Test.YtppnnnijdfbgpaaDoorShpI
import Derived.Test.YtppnnnijdfbgpaaDoorCmdD
import Derived.Laws.ResultCell
namespace Go.Proofs.YtppnnnijdfbgpaaDoor
open Go.RowKit

theorem sizedA3 : (Tryd.prog.info? 43).map (·.size) = some 3 := by kernel_rfl
theorem hi_td {k j : Nat} (hk : k < 8) (hj : j < 3) (h : ∀ i, i < j → 0 < hiK k i) : (0 < hiK k j → j < tdK k) ∧ (¬ 0 < hiK k j → tdK k = j) := by
  obtain rfl | rfl | rfl | rfl | rfl | rfl | rfl | rfl : k = 0 ∨ k = 1 ∨ k = 2 ∨ k = 3 ∨ k = 4 ∨ k = 5 ∨ k = 6 ∨ k = 7 := by omega
  all_goals (obtain rfl | rfl | rfl : j = 0 ∨ j = 1 ∨ j = 2 := by omega)
  all_goals first | (exact ⟨by decide, by decide⟩) | (exact absurd (h 0 (by omega)) (by decide)) | (exact absurd (h 1 (by omega)) (by decide))
theorem td_three {k : Nat} (hk : k < 8) (h : ∀ i, i < 3 → 0 < hiK k i) : tdK k = 3 := by
  obtain rfl | rfl | rfl | rfl | rfl | rfl | rfl | rfl : k = 0 ∨ k = 1 ∨ k = 2 ∨ k = 3 ∨ k = 4 ∨ k = 5 ∨ k = 6 ∨ k = 7 := by omega
  all_goals first | rfl | (exact absurd (h 0 (by omega)) (by decide)) | (exact absurd (h 1 (by omega)) (by decide)) | (exact absurd (h 2 (by omega)) (by decide))

theorem all_s {p : Nat → Prop} {j : Nat} (h : ∀ i, i < j → p i) (hj : p j) : ∀ i, i < j + 1 → p i := fun i hi => by
  by_cases e : i = j
  · subst e; exact hj
  · exact h i (by omega)

set_option maxHeartbeats 1000000 in
theorem told_any (k : Nat) (hk : k < 8) (w : World) :
    Calls Tryd.prog 20 #[shV k] w fun e w' => e = .returned (.int .i64 (tdK k : Nat)) ∧ Below w.heap.size w w' := by
  rw [shV_is hk]
  generalize (ByteArray.mk (kW (k : Int)).toArray) = wd
  have HS : Hid (∀ j, j < 3 → (∀ i, i < j → 0 < hiK k i) → (0 < hiK k j → j < tdK k) ∧ (¬ 0 < hiK k j → tdK k = j)) := fun j hj h => hi_td hk hj h
  have HT : Hid ((∀ i, i < 3 → 0 < hiK k i) → tdK k = 3) := td_three hk
  obtain ⟨y0, hy0⟩ : ∃ y0, y0 = hiK k 0 := ⟨_, rfl⟩
  obtain ⟨y1, hy1⟩ : ∃ y1, y1 = hiK k 1 := ⟨_, rfl⟩
  obtain ⟨y2, hy2⟩ : ∃ y2, y2 = hiK k 2 := ⟨_, rfl⟩
  have HY : Hid (y0 = hiK k 0 ∧ y1 = hiK k 1 ∧ y2 = hiK k 2) := ⟨hy0, hy1, hy2⟩
  rw [← hy0, ← hy1, ← hy2]
  clear hy0 hy1 hy2
  generalize loK k 0 = x0
  generalize loK k 1 = x1
  generalize loK k 2 = x2
  obtain ⟨W0, hW0⟩ : ∃ W0, W0 = w.alloc (.cells #[.string wd, .int .i64 x0, .int .i64 y0, .int .i64 x1, .int .i64 y1, .int .i64 x2, .int .i64 y2] 41) := ⟨_, rfl⟩
  have B0 : Below w.heap.size w W0 := by rw [hW0]; exact box_below
  have X0 : W0.heap[w.heap.size]? = some (.cells #[.string wd, .int .i64 x0, .int .i64 y0, .int .i64 x1, .int .i64 y1, .int .i64 x2, .int .i64 y2] 41 (0, 0)) := by rw [hW0]; exact heap_alloc_new _ _
  have c2 : W0.cell? ⟨w.heap.size, 2, none⟩ = some (.int .i64 y0) := by simp [World.cell?, X0]
  have c4 : W0.cell? ⟨w.heap.size, 4, none⟩ = some (.int .i64 y1) := by simp [World.cell?, X0]
  have c6 : W0.cell? ⟨w.heap.size, 6, none⟩ = some (.int .i64 y2) := by simp [World.cell?, X0]
  clear X0
  go_enter Tryd.func20, Tryd.ntmps20
  go_upto_region 1 with fail
  rw [← hW0]
  clear hW0
  go_wp2
  go_loopw [3] (fun nv wr => ∃ j : Nat, j ≤ 3 ∧ nv = .int .i64 j ∧ Hid (∀ i, i < j → 0 < hiK k i) ∧ wr = W0) (fun nv _ => 3 - (intOf nv).toNat)
  case atStart => exact ⟨0, by omega, rfl, fun i hi => by omega, rfl⟩
  case round =>
    obtain ⟨j, hj, rfl, HJ, rfl⟩ := hrel
    obtain rfl | rfl | rfl | rfl : j = 0 ∨ j = 1 ∨ j = 2 ∨ j = 3 := by omega
    · by_cases hp : 0 < y0
      · go_wp2
        go_roundw
        case rel => exact ⟨1, by omega, by go_num, all_s HJ.out (by rw [← HY.out.1]; exact hp), trivial⟩
        case measure => simp [intOf]
      · have E : Hid (tdK k = 0) := (HS.out 0 (by omega) HJ.out).2 (by rw [← HY.out.1]; omega)
        go_wp2
        go_ret
        exact ⟨by rw [E.out]; rfl, B0⟩
    · by_cases hp : 0 < y1
      · go_wp2
        go_roundw
        case rel => exact ⟨2, by omega, by go_num, all_s HJ.out (by rw [← HY.out.2.1]; exact hp), trivial⟩
        case measure => simp [intOf]
      · have E : Hid (tdK k = 1) := (HS.out 1 (by omega) HJ.out).2 (by rw [← HY.out.2.1]; omega)
        go_wp2
        go_ret
        exact ⟨by rw [E.out]; rfl, B0⟩
    · by_cases hp : 0 < y2
      · go_wp2
        go_roundw
        case rel => exact ⟨3, by omega, by go_num, all_s HJ.out (by rw [← HY.out.2.2]; exact hp), trivial⟩
        case measure => simp [intOf]
      · have E : Hid (tdK k = 2) := (HS.out 2 (by omega) HJ.out).2 (by rw [← HY.out.2.2]; omega)
        go_wp2
        go_ret
        exact ⟨by rw [E.out]; rfl, B0⟩
    · have E : Hid (tdK k = 3) := HT.out HJ.out
      go_wp2
      go_ret
      exact ⟨by rw [E.out]; rfl, B0⟩

set_option maxHeartbeats 1000000 in
theorem numbers_any (k a b c : Int) (w : World) :
    Calls Tryd.prog 19 #[.agg #[.int .i64 k, .int .i64 a, .int .i64 b, .int .i64 c]] w fun e w' => e = .returned (.agg #[.int .i64 a, .int .i64 b, .int .i64 c]) ∧ Below w.heap.size w w' := by
  obtain ⟨W0, hW0⟩ : ∃ W0, W0 = (w.alloc (.cells #[.int .i64 k, .int .i64 a, .int .i64 b, .int .i64 c] 25)).alloc (.cells #[.int .i64 0, .int .i64 0, .int .i64 0] 43) := ⟨_, rfl⟩
  have B0 : Below w.heap.size w W0 := by rw [hW0]; exact box_below.alloc (by simp) _
  have X0 : W0.heap[w.heap.size]? = some (.cells #[.int .i64 k, .int .i64 a, .int .i64 b, .int .i64 c] 25 (0, 0)) := by rw [hW0]; exact (Below.heap_alloc _ _ _ (by simp)).trans (heap_alloc_new _ _)
  have X1 : W0.heap[w.heap.size + 1]? = some (.cells #[.int .i64 0, .int .i64 0, .int .i64 0] 43 (0, 0)) := by
    rw [hW0]
    have := heap_alloc_new (w.alloc (.cells #[.int .i64 k, .int .i64 a, .int .i64 b, .int .i64 c] 25)) (.cells #[.int .i64 0, .int .i64 0, .int .i64 0] 43)
    simpa using this
  have c1 : W0.cell? ⟨w.heap.size, 1, none⟩ = some (.int .i64 a) := by simp [World.cell?, X0]
  have c2 : W0.cell? ⟨w.heap.size, 2, none⟩ = some (.int .i64 b) := by simp [World.cell?, X0]
  have c3 : W0.cell? ⟨w.heap.size, 3, none⟩ = some (.int .i64 c) := by simp [World.cell?, X0]
  have d0 : W0.cell? ⟨w.heap.size + 1, 0, none⟩ = some (.int .i64 0) := by simp [World.cell?, X1]
  have d1 : W0.cell? ⟨w.heap.size + 1, 1, none⟩ = some (.int .i64 0) := by simp [World.cell?, X1]
  have d2 : W0.cell? ⟨w.heap.size + 1, 2, none⟩ = some (.int .i64 0) := by simp [World.cell?, X1]
  have f0 : W0.frozen? ⟨w.heap.size + 1, 0, none⟩ = false := free_of_blk 0 X1
  have f1 : W0.frozen? ⟨w.heap.size + 1, 1, none⟩ = false := free_of_blk 1 X1
  have f2 : W0.frozen? ⟨w.heap.size + 1, 2, none⟩ = false := free_of_blk 2 X1
  obtain ⟨W1, hW1⟩ : ∃ W1, W1 = ((W0.setCell ⟨w.heap.size + 1, 0, none⟩ (.int .i64 a)).setCell ⟨w.heap.size + 1, 1, none⟩ (.int .i64 b)).setCell ⟨w.heap.size + 1, 2, none⟩ (.int .i64 c) := ⟨_, rfl⟩
  have X2 : W1.heap[w.heap.size + 1]? = some (.cells #[.int .i64 a, .int .i64 b, .int .i64 c] 43 (0, 0)) := by
    rw [hW1]
    exact blk_set (j := 2) (blk_set (j := 1) (blk_set (j := 0) X1 (.int .i64 a)) (.int .i64 b)) (.int .i64 c)
  have B1 : Below w.heap.size w W1 := by
    rw [hW1]
    exact ((B0.setCell (by simp) _).setCell (by simp) _).setCell (by simp) _
  have HX : Hid (W1.heap[w.heap.size + 1]? = some (.cells #[.int .i64 a, .int .i64 b, .int .i64 c] 43 (0, 0))) := X2
  clear X0 X1 X2
  go_enter Tryd.func19, Tryd.ntmps19
  go_upto_region 1 with fail
  rw [← hW0]
  clear hW0
  go_wp2
  rw [← hW1]
  refine bodyPost_ret (results_cell_row rfl _ _ (w.heap.size + 1) _ _ _ _ rfl HX.out Tryd.underlying43 rfl sizedA3) rfl ?_
  exact ⟨rfl, B1⟩

end Go.Proofs.YtppnnnijdfbgpaaDoor
