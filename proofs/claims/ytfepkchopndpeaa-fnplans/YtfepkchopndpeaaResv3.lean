/- Reserve of the model; profiles drawn. -/
import Derived.Test.YtfepkchopndpeaaResv2
import Derived.Test.YtfepkchopndpeaaDraw
namespace Go.Proofs.Ytfepkchopndpeaa
open Go.RowKit

/-- may it be reserved? -/
noncomputable def resB (T : Int) (ls : List Lev) (x y m : Int) : Bool := (poB T ls && (okB x && (okB y && inB m 0 1000))) && poB T (chgL ls x y (-m))

set_option maxRecDepth 8000 in
set_option maxHeartbeats 2000000 in
theorem specReserve_any (T x y m : Int) (a : Option Addr) (n cap : Nat) (ls : List Lev) (w : World) (h : LevS w a n cap ls) :
    Calls Try.prog 22 #[.agg #[.int .i64 T, .slice a n cap], .int .i64 x, .int .i64 y, .int .i64 m] w fun e w' => Below w.heap.size w w' ∧
      ((resB T ls x y m = true ∧ ∃ g c, e = .returned (.tuple #[.agg #[.int .i64 T, .slice (some ⟨g, 0, none⟩) (chgL ls x y (-m)).length c], .bool true]) ∧ w.heap.size ≤ g ∧ (chgL ls x y (-m)).length ≤ c ∧ c ≤ maxLen ∧ LevD w' g (chgL ls x y (-m)).length c (chgL ls x y (-m))) ∨
       (resB T ls x y m = false ∧ e = .returned (.tuple #[.agg #[.int .i64 0, .slice none 0 0], .bool false]))) := by
  have hbA : ∀ W, Below ((w.alloc (.cells #[.int .i64 T, .slice a n cap] 26)).alloc (.cells #[.int .i64 0, .slice none 0 0] 26)).heap.size ((w.alloc (.cells #[.int .i64 T, .slice a n cap] 26)).alloc (.cells #[.int .i64 0, .slice none 0 0] 26)) W → W.heap[w.heap.size]? = some (.cells #[.int .i64 T, .slice a n cap] 26 (0, 0)) ∧ W.heap[w.heap.size + 1]? = some (.cells #[.int .i64 0, .slice none 0 0] 26 (0, 0)) := fun W hW => ⟨(hW.block _ (by simp; omega)).trans ((Below.heap_alloc _ _ _ (by simp)).trans (heap_alloc_new _ _)), boxAt (by simp) hW⟩
  have BW : Below w.heap.size w ((w.alloc (.cells #[.int .i64 T, .slice a n cap] 26)).alloc (.cells #[.int .i64 0, .slice none 0 0] 26)) := box_below.alloc (by simp) _
  rcases q : (poB T ls && (okB x && (okB y && inB m 0 1000))) with _ | _
  · have e : resB T ls x y m = false := by unfold resB; rw [q]; rfl
    go_enter Try.func22, Try.ntmps22
    go_wp2_with fail
    refine (l2Told_any T x y m a n cap ls _ (h.below BW)).mono ?_
    rw [q]
    rintro e' w1 ⟨rfl, hb1⟩
    obtain ⟨bA, bR⟩ := hbA w1 hb1
    obtain ⟨r0, r1, f0, f1⟩ := boxed bR
    obtain ⟨q0, q1⟩ := set2 bR (.int .i64 0) (.slice none 0 0)
    obtain ⟨c0, c1, _, _⟩ := boxed q0
    have BF : Below w.heap.size w ((w1.setCell ⟨w.heap.size + 1, 0, none⟩ (.int .i64 0)).setCell ⟨w.heap.size + 1, 1, none⟩ (.slice none 0 0)) := ((BW.then hb1 BW.size).setCell (show w.heap.size ≤ w.heap.size + 1 by omega) _).setCell (show w.heap.size ≤ w.heap.size + 1 by omega) _
    have HC : Hid _ := And.intro c0 c1
    clear c0 c1 q0 q1 hbA bA bR
    go_wp2
    obtain ⟨c0, c1⟩ := HC.out
    generalize (w1.setCell ⟨w.heap.size + 1, 0, none⟩ (.int .i64 0)).setCell ⟨w.heap.size + 1, 1, none⟩ (.slice none 0 0) = WF at c0 c1 BF ⊢
    exact bodyPost_ret (v := .tuple #[.agg #[.int .i64 0, .slice none 0 0], .bool false]) (by simp [results, Try.results22, go_sem, c0, c1]) rfl ⟨BF, Or.inr ⟨e, rfl⟩⟩
  · have q' := q
    simp only [Bool.and_eq_true] at q'
    obtain ⟨p1, p2, p3, p4⟩ := q'
    have po := poB_t p1
    obtain ⟨m0, m1⟩ := inB_t p4
    have e : resB T ls x y m = poB T (chgL ls x y (-m)) := by unfold resB; rw [q]; rfl
    rw [e]
    go_enter Try.func22, Try.ntmps22
    go_wp2_with fail
    refine (l2Told_any T x y m a n cap ls _ (h.below BW)).mono ?_
    rw [q]
    rintro e' w1 ⟨rfl, hb1⟩
    obtain ⟨bA, bR⟩ := hbA w1 hb1
    obtain ⟨a0, a1, _, _⟩ := boxed bA
    go_wp2_with fail
    refine (l2Change_any T x y (-m) a n cap ls _ ((h.below BW).below hb1) po p2 p3 (by omega)).mono ?_
    rintro e' w2 ⟨hb2, hor⟩
    have z1 : w.heap.size + 2 ≤ w1.heap.size := by simpa using hb1.size
    have bR2 := (hb2.block _ (lt_of_block bR)).trans bR
    obtain ⟨r0, r1, f0, f1⟩ := boxed bR2
    clear a0 a1 hbA bA
    rcases hor with ⟨hpo, g, cc, rfl, hg, hgc, hgm, hlc⟩ | ⟨hpo, rfl⟩
    · obtain ⟨q0, q1⟩ := set2 bR2 (.int .i64 T) (.slice (some ⟨g, 0, none⟩) (chgL ls x y (-m)).length cc)
      obtain ⟨c0, c1, _, _⟩ := boxed q0
      have BF : Below w.heap.size w ((w2.setCell ⟨w.heap.size + 1, 0, none⟩ (.int .i64 T)).setCell ⟨w.heap.size + 1, 1, none⟩ (.slice (some ⟨g, 0, none⟩) (chgL ls x y (-m)).length cc)) := (((BW.then hb1 BW.size).then hb2 (by omega)).setCell (show w.heap.size ≤ w.heap.size + 1 by omega) _).setCell (show w.heap.size ≤ w.heap.size + 1 by omega) _
      have hlF := hlc.blk (q1 g (by omega))
      have HC : Hid _ := And.intro c0 c1
      clear c0 c1 q0 q1 bR2 bR
      go_wp2
      obtain ⟨c0, c1⟩ := HC.out
      generalize (w2.setCell ⟨w.heap.size + 1, 0, none⟩ (.int .i64 T)).setCell ⟨w.heap.size + 1, 1, none⟩ (.slice (some ⟨g, 0, none⟩) (chgL ls x y (-m)).length cc) = WF at c0 c1 BF hlF ⊢
      exact bodyPost_ret (v := .tuple #[.agg #[.int .i64 T, .slice (some ⟨g, 0, none⟩) (chgL ls x y (-m)).length cc], .bool true]) (by simp [results, Try.results22, go_sem, c0, c1]) rfl ⟨BF, Or.inl ⟨hpo, g, cc, rfl, by omega, hgc, hgm, hlF⟩⟩
    · obtain ⟨q0, q1⟩ := set2 bR2 (.int .i64 0) (.slice none 0 0)
      obtain ⟨c0, c1, _, _⟩ := boxed q0
      have BF : Below w.heap.size w ((w2.setCell ⟨w.heap.size + 1, 0, none⟩ (.int .i64 0)).setCell ⟨w.heap.size + 1, 1, none⟩ (.slice none 0 0)) := (((BW.then hb1 BW.size).then hb2 (by omega)).setCell (show w.heap.size ≤ w.heap.size + 1 by omega) _).setCell (show w.heap.size ≤ w.heap.size + 1 by omega) _
      have HC : Hid _ := And.intro c0 c1
      clear c0 c1 q0 q1 bR2 bR
      go_wp2
      obtain ⟨c0, c1⟩ := HC.out
      generalize (w2.setCell ⟨w.heap.size + 1, 0, none⟩ (.int .i64 0)).setCell ⟨w.heap.size + 1, 1, none⟩ (.slice none 0 0) = WF at c0 c1 BF ⊢
      exact bodyPost_ret (v := .tuple #[.agg #[.int .i64 0, .slice none 0 0], .bool false]) (by simp [results, Try.results22, go_sem, c0, c1]) rfl ⟨BF, Or.inr ⟨hpo, rfl⟩⟩

end Go.Proofs.Ytfepkchopndpeaa
