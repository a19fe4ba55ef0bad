/- Lower where one of the two is not right. -/
import Derived.Test.YtdaedggmeoganaaLowImpl2
namespace Go.Proofs.Ytdaedggmeoganaa
open Go.RowKit

set_option maxHeartbeats 1000000 in
theorem specLower_no (Ta Tb : Int) (a b : Option Addr) (na ca nb cb : Nat) (la lb : List Lev) (w : World) (hA : LevS w a na ca la) (hB : LevS w b nb cb lb) (h : poB Ta la = false ∨ poB Tb lb = false) :
    Calls Try.prog 22 #[.agg #[.int .i64 Ta, .slice a na ca], .agg #[.int .i64 Tb, .slice b nb cb]] w fun e w' => e = .returned (.tuple #[.agg #[.int .i64 0, .slice none 0 0], .bool false]) ∧ Below w.heap.size w w' := by
  go_enter Try.func22, Try.ntmps22
  go_wp2_with fail
  obtain ⟨W, hW⟩ : ∃ W, W = ((w.alloc (.cells #[.int .i64 Ta, .slice a na ca] 26)).alloc (.cells #[.int .i64 Tb, .slice b nb cb] 26)).alloc (.cells #[.int .i64 0, .slice none 0 0] 26) := ⟨_, rfl⟩
  rw [← hW]
  have hbA : W.heap[w.heap.size]? = some (.cells #[.int .i64 Ta, .slice a na ca] 26 (0, 0)) := by rw [hW]; exact (Below.heap_alloc _ _ _ (by simp; omega)).trans ((Below.heap_alloc _ _ _ (by simp)).trans (heap_alloc_new _ _))
  have hbB : W.heap[w.heap.size + 1]? = some (.cells #[.int .i64 Tb, .slice b nb cb] 26 (0, 0)) := by rw [hW]; exact (Below.heap_alloc _ _ _ (by simp)).trans (new_at _ _ _ (by simp))
  have hbR : W.heap[w.heap.size + 1 + 1]? = some (.cells #[.int .i64 0, .slice none 0 0] 26 (0, 0)) := by rw [hW]; exact new_at _ _ _ (by simp)
  have BW : Below w.heap.size w W := by rw [hW]; exact (box_below.alloc (by simp) _).alloc (by simp; omega) _
  have hW2 : w.heap.size + 3 ≤ W.heap.size := by rw [hW]; simp
  clear hW
  refine (specProfileOk_any Ta _ na ca la _ (hA.below BW)).mono ?_
  rintro e w1 ⟨rfl, U1⟩
  rcases qa : poB Ta la with _ | _
  · have r1 := (U1.block _ (by omega)).trans hbR
    obtain ⟨g0, g1, f0, f1⟩ := boxed r1
    have BB : Below w.heap.size w w1 := BW.trans (U1.mono (by omega))
    go_wp2
    exact bodyPost_ret (v := .tuple #[.agg #[.int .i64 0, .slice none 0 0], .bool false]) (by simp [results, Try.results22, go_sem, g0, g1]) rfl ⟨rfl, (BB.setCell (by simp; omega) _).setCell (by simp; omega) _⟩
  · have qb : poB Tb lb = false := by rcases h with h | h; (rw [qa] at h; cases h); exact h
    have r0 := (U1.block _ (by omega)).trans hbB
    obtain ⟨b0, b1, _, _⟩ := boxed r0
    clear r0
    go_wp2_with fail
    refine (specProfileOk_any Tb _ nb cb lb _ (hB.below (BW.trans (U1.mono (by omega))))).mono ?_
    rintro e w2 ⟨rfl, U2⟩
    rw [qb]
    have V2 : Below W.heap.size W w2 := U1.trans (U2.mono U1.size)
    clear b0 b1 U1 U2
    have r1 := (V2.block _ (by omega)).trans hbR
    obtain ⟨g0, g1, f0, f1⟩ := boxed r1
    have BB : Below w.heap.size w w2 := BW.trans (V2.mono (by omega))
    go_wp2
    exact bodyPost_ret (v := .tuple #[.agg #[.int .i64 0, .slice none 0 0], .bool false]) (by simp [results, Try.results22, go_sem, g0, g1]) rfl ⟨rfl, (BB.setCell (by simp; omega) _).setCell (by simp; omega) _⟩

set_option maxHeartbeats 1000000 in
theorem implLower_no (Ta Tb : Int) (a b : Option Addr) (na ca nb cb : Nat) (la lb : List Lev) (w : World) (hA : LevS w a na ca la) (hB : LevS w b nb cb lb) (h : poB Ta la = false ∨ poB Tb lb = false) :
    Calls Try.prog 21 #[.agg #[.int .i64 Ta, .slice a na ca], .agg #[.int .i64 Tb, .slice b nb cb]] w fun e w' => e = .returned (.tuple #[.agg #[.int .i64 0, .slice none 0 0], .bool false]) ∧ Below w.heap.size w w' := by
  go_enter Try.func21, Try.ntmps21
  go_wp2_with fail
  obtain ⟨W, hW⟩ : ∃ W, W = ((w.alloc (.cells #[.int .i64 Ta, .slice a na ca] 26)).alloc (.cells #[.int .i64 Tb, .slice b nb cb] 26)).alloc (.cells #[.int .i64 0, .slice none 0 0] 26) := ⟨_, rfl⟩
  rw [← hW]
  have hbA : W.heap[w.heap.size]? = some (.cells #[.int .i64 Ta, .slice a na ca] 26 (0, 0)) := by rw [hW]; exact (Below.heap_alloc _ _ _ (by simp; omega)).trans ((Below.heap_alloc _ _ _ (by simp)).trans (heap_alloc_new _ _))
  have hbB : W.heap[w.heap.size + 1]? = some (.cells #[.int .i64 Tb, .slice b nb cb] 26 (0, 0)) := by rw [hW]; exact (Below.heap_alloc _ _ _ (by simp)).trans (new_at _ _ _ (by simp))
  have hbR : W.heap[w.heap.size + 1 + 1]? = some (.cells #[.int .i64 0, .slice none 0 0] 26 (0, 0)) := by rw [hW]; exact new_at _ _ _ (by simp)
  have BW : Below w.heap.size w W := by rw [hW]; exact (box_below.alloc (by simp) _).alloc (by simp; omega) _
  have hW2 : w.heap.size + 3 ≤ W.heap.size := by rw [hW]; simp
  clear hW
  refine (implProfileOk_any Ta _ na ca la _ (hA.below BW)).mono ?_
  rintro e w1 ⟨rfl, U1⟩
  rcases qa : poB Ta la with _ | _
  · have r1 := (U1.block _ (by omega)).trans hbR
    obtain ⟨g0, g1, f0, f1⟩ := boxed r1
    have BB : Below w.heap.size w w1 := BW.trans (U1.mono (by omega))
    go_wp2
    exact bodyPost_ret (v := .tuple #[.agg #[.int .i64 0, .slice none 0 0], .bool false]) (by simp [results, Try.results21, go_sem, g0, g1]) rfl ⟨rfl, (BB.setCell (by simp; omega) _).setCell (by simp; omega) _⟩
  · have qb : poB Tb lb = false := by rcases h with h | h; (rw [qa] at h; cases h); exact h
    have r0 := (U1.block _ (by omega)).trans hbB
    obtain ⟨b0, b1, _, _⟩ := boxed r0
    clear r0
    go_wp2_with fail
    refine (implProfileOk_any Tb _ nb cb lb _ (hB.below (BW.trans (U1.mono (by omega))))).mono ?_
    rintro e w2 ⟨rfl, U2⟩
    rw [qb]
    have V2 : Below W.heap.size W w2 := U1.trans (U2.mono U1.size)
    clear b0 b1 U1 U2
    have r1 := (V2.block _ (by omega)).trans hbR
    obtain ⟨g0, g1, f0, f1⟩ := boxed r1
    have BB : Below w.heap.size w w2 := BW.trans (V2.mono (by omega))
    go_wp2
    exact bodyPost_ret (v := .tuple #[.agg #[.int .i64 0, .slice none 0 0], .bool false]) (by simp [results, Try.results21, go_sem, g0, g1]) rfl ⟨rfl, (BB.setCell (by simp; omega) _).setCell (by simp; omega) _⟩

end Go.Proofs.Ytdaedggmeoganaa
