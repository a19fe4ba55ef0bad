/- Draws of commands: some command comes. -/
import Derived.Test.YtppnnnijdfbgpaaDoorCmdR
import Derived.Test.YtppnnnijdfbgpaaDoorDraw
namespace Go.Proofs.YtppnnnijdfbgpaaDoor
open Go.RowKit Go.Sort

theorem CurAt.set4 {w : World} {cb B : Nat} {a : Option Addr} {n cap : Nat} {zs : List Int} (h : CurAt w cb a n cap zs) (hB : cb < B) (v0 v1 v2 v3 : Value) : CurAt ((((w.setCell ⟨B, 0, none⟩ v0).setCell ⟨B, 1, none⟩ v1).setCell ⟨B, 2, none⟩ v2).setCell ⟨B, 3, none⟩ v3) cb a n cap zs :=
  (((h.setNew hB v0).setNew hB v1).setNew hB v2).setNew hB v3
theorem But.set4 {cb B : Nat} {w w' : World} (h : But cb w w') (hB : w.heap.size ≤ B) (v0 v1 v2 v3 : Value) : But cb w ((((w'.setCell ⟨B, 0, none⟩ v0).setCell ⟨B, 1, none⟩ v1).setCell ⟨B, 2, none⟩ v2).setCell ⟨B, 3, none⟩ v3) :=
  (((h.setNew hB v0).setNew hB v1).setNew hB v2).setNew hB v3

set_option maxRecDepth 8000 in
set_option maxHeartbeats 4000000 in
theorem l12Draw_any (cb : Nat) (a : Option Addr) (n cap : Nat) (zs : List Int) (w : World) (h : CurAt w cb a n cap zs) :
    Calls Tryd.prog 36 #[.pointer (some ⟨cb, 0, none⟩)] w fun e w' => ∃ k x y z : Int, e = .returned (.agg #[.int .i64 k, .int .i64 x, .int .i64 y, .int .i64 z]) ∧ CurAt w' cb a n cap zs ∧ But cb w w' := by
  have hcb := h.lt
  obtain ⟨W0, hW0⟩ : ∃ W0, W0 = w.alloc (.cells #[.int .i64 0, .int .i64 0, .int .i64 0, .int .i64 0] 25) := ⟨_, rfl⟩
  have c0 : CurAt W0 cb a n cap zs := by rw [hW0]; exact h.but box_below0 hcb
  have B0 : But cb w W0 := by rw [hW0]; exact But.of box_below0
  have r0 : W0.heap[w.heap.size]? = some (.cells #[.int .i64 0, .int .i64 0, .int .i64 0, .int .i64 0] 25 (0, 0)) := by rw [hW0]; exact heap_alloc_new _ _
  go_enter Tryd.func36, Tryd.ntmps36
  go_upto_region 1 with fail
  rw [← hW0]
  clear hW0
  go_wp2_with fail
  refine (l1Below_any cb a n cap zs 9 _ c0 (by omega) (by omega)).mono ?_
  rintro e w1 ⟨x, rfl, x0, x1, c1, b1⟩
  have B1 := B0.trans b1
  have r1 := (b1.block _ (lt_of_block r0) (by omega)).trans r0
  clear b1 c0 B0 r0
  have hx : x = 0 ∨ x = 1 ∨ x = 2 ∨ x = 3 ∨ x = 4 ∨ x = 5 ∨ x = 6 ∨ x = 7 ∨ x = 8 := by omega
  clear x0 x1
  rcases hx with rfl | rfl | rfl | rfl | rfl | rfl | rfl | rfl | rfl
  · go_wp2_with fail
    refine (l1Below_any cb a n cap zs 6 _ c1 (by omega) (by omega)).mono ?_
    rintro e w2 ⟨x2, rfl, x20, x21, c2, b2⟩
    have B2 := B1.trans b2
    have r2 := (b2.block _ (lt_of_block r1) (by omega)).trans r1
    clear b2 c1 B1 r1
    go_wp2_with fail
    refine (l1Below_any cb a n cap zs 8 _ c2 (by omega) (by omega)).mono ?_
    rintro e w3 ⟨x3, rfl, x30, x31, c3, b3⟩
    have B3 := B2.trans b3
    have r3 := (b3.block _ (lt_of_block r2) (by omega)).trans r2
    clear b3 c2 B2 r2
    go_wp2_with fail
    refine (l1Below_any cb a n cap zs 3 _ c3 (by omega) (by omega)).mono ?_
    rintro e w4 ⟨x4, rfl, x40, x41, c4, b4⟩
    have B4 := B3.trans b4
    have r4 := (b4.block _ (lt_of_block r3) (by omega)).trans r3
    clear b4 c3 B3 r3
    have HE : Hid _ := setAll4 r4 (.int .i64 (1)) (.int .i64 (1 + x2)) (.int .i64 (1 + x3)) (.int .i64 (x4))
    obtain ⟨⟨s0, s1, s2, s3⟩, f0, f1, f2, f3⟩ := boxed4 r4
    clear r4
    go_wp2_with fail
    refine bodyPost_ret (results_cell_row rfl _ _ w.heap.size _ _ _ _ rfl HE.out Tryd.underlying25 rfl sizedCmd) rfl ?_
    exact ⟨_, _, _, _, rfl, c4.set4 hcb _ _ _ _, B4.set4 (Nat.le_refl _) _ _ _ _⟩
  · go_wp2_with fail
    refine (l1Below_any cb a n cap zs 6 _ c1 (by omega) (by omega)).mono ?_
    rintro e w2 ⟨x2, rfl, x20, x21, c2, b2⟩
    have B2 := B1.trans b2
    have r2 := (b2.block _ (lt_of_block r1) (by omega)).trans r1
    clear b2 c1 B1 r1
    go_wp2_with fail
    refine (l1Below_any cb a n cap zs 8 _ c2 (by omega) (by omega)).mono ?_
    rintro e w3 ⟨x3, rfl, x30, x31, c3, b3⟩
    have B3 := B2.trans b3
    have r3 := (b3.block _ (lt_of_block r2) (by omega)).trans r2
    clear b3 c2 B2 r2
    go_wp2_with fail
    refine (l1Below_any cb a n cap zs 3 _ c3 (by omega) (by omega)).mono ?_
    rintro e w4 ⟨x4, rfl, x40, x41, c4, b4⟩
    have B4 := B3.trans b4
    have r4 := (b4.block _ (lt_of_block r3) (by omega)).trans r3
    clear b4 c3 B3 r3
    have HE : Hid _ := setAll4 r4 (.int .i64 (1)) (.int .i64 (1 + x2)) (.int .i64 (1 + x3)) (.int .i64 (x4))
    obtain ⟨⟨s0, s1, s2, s3⟩, f0, f1, f2, f3⟩ := boxed4 r4
    clear r4
    go_wp2_with fail
    refine bodyPost_ret (results_cell_row rfl _ _ w.heap.size _ _ _ _ rfl HE.out Tryd.underlying25 rfl sizedCmd) rfl ?_
    exact ⟨_, _, _, _, rfl, c4.set4 hcb _ _ _ _, B4.set4 (Nat.le_refl _) _ _ _ _⟩
  · go_wp2_with fail
    refine (l1Below_any cb a n cap zs 6 _ c1 (by omega) (by omega)).mono ?_
    rintro e w2 ⟨x2, rfl, x20, x21, c2, b2⟩
    have B2 := B1.trans b2
    have r2 := (b2.block _ (lt_of_block r1) (by omega)).trans r1
    clear b2 c1 B1 r1
    go_wp2_with fail
    refine (l1Below_any cb a n cap zs 8 _ c2 (by omega) (by omega)).mono ?_
    rintro e w3 ⟨x3, rfl, x30, x31, c3, b3⟩
    have B3 := B2.trans b3
    have r3 := (b3.block _ (lt_of_block r2) (by omega)).trans r2
    clear b3 c2 B2 r2
    go_wp2_with fail
    refine (l1Below_any cb a n cap zs 3 _ c3 (by omega) (by omega)).mono ?_
    rintro e w4 ⟨x4, rfl, x40, x41, c4, b4⟩
    have B4 := B3.trans b4
    have r4 := (b4.block _ (lt_of_block r3) (by omega)).trans r3
    clear b4 c3 B3 r3
    have HE : Hid _ := setAll4 r4 (.int .i64 (1)) (.int .i64 (1 + x2)) (.int .i64 (1 + x3)) (.int .i64 (x4))
    obtain ⟨⟨s0, s1, s2, s3⟩, f0, f1, f2, f3⟩ := boxed4 r4
    clear r4
    go_wp2_with fail
    refine bodyPost_ret (results_cell_row rfl _ _ w.heap.size _ _ _ _ rfl HE.out Tryd.underlying25 rfl sizedCmd) rfl ?_
    exact ⟨_, _, _, _, rfl, c4.set4 hcb _ _ _ _, B4.set4 (Nat.le_refl _) _ _ _ _⟩
  · go_wp2_with fail
    refine (l1Below_any cb a n cap zs 5 _ c1 (by omega) (by omega)).mono ?_
    rintro e w2 ⟨x2, rfl, x20, x21, c2, b2⟩
    have B2 := B1.trans b2
    have r2 := (b2.block _ (lt_of_block r1) (by omega)).trans r1
    clear b2 c1 B1 r1
    have HE : Hid _ := setAll4 r2 (.int .i64 (2)) (.int .i64 (1 + x2)) (.int .i64 (0)) (.int .i64 (0))
    obtain ⟨⟨s0, s1, s2, s3⟩, f0, f1, f2, f3⟩ := boxed4 r2
    clear r2
    go_wp2_with fail
    refine bodyPost_ret (results_cell_row rfl _ _ w.heap.size _ _ _ _ rfl HE.out Tryd.underlying25 rfl sizedCmd) rfl ?_
    exact ⟨_, _, _, _, rfl, c2.set4 hcb _ _ _ _, B2.set4 (Nat.le_refl _) _ _ _ _⟩
  · go_wp2_with fail
    refine (l1Below_any cb a n cap zs 25 _ c1 (by omega) (by omega)).mono ?_
    rintro e w2 ⟨x2, rfl, x20, x21, c2, b2⟩
    have B2 := B1.trans b2
    have r2 := (b2.block _ (lt_of_block r1) (by omega)).trans r1
    clear b2 c1 B1 r1
    have HE : Hid _ := setAll4 r2 (.int .i64 (3)) (.int .i64 (x2)) (.int .i64 (0)) (.int .i64 (0))
    obtain ⟨⟨s0, s1, s2, s3⟩, f0, f1, f2, f3⟩ := boxed4 r2
    clear r2
    go_wp2_with fail
    refine bodyPost_ret (results_cell_row rfl _ _ w.heap.size _ _ _ _ rfl HE.out Tryd.underlying25 rfl sizedCmd) rfl ?_
    exact ⟨_, _, _, _, rfl, c2.set4 hcb _ _ _ _, B2.set4 (Nat.le_refl _) _ _ _ _⟩
  · go_wp2_with fail
    refine (l1Below_any cb a n cap zs 25 _ c1 (by omega) (by omega)).mono ?_
    rintro e w2 ⟨x2, rfl, x20, x21, c2, b2⟩
    have B2 := B1.trans b2
    have r2 := (b2.block _ (lt_of_block r1) (by omega)).trans r1
    clear b2 c1 B1 r1
    have HE : Hid _ := setAll4 r2 (.int .i64 (3)) (.int .i64 (x2)) (.int .i64 (0)) (.int .i64 (0))
    obtain ⟨⟨s0, s1, s2, s3⟩, f0, f1, f2, f3⟩ := boxed4 r2
    clear r2
    go_wp2_with fail
    refine bodyPost_ret (results_cell_row rfl _ _ w.heap.size _ _ _ _ rfl HE.out Tryd.underlying25 rfl sizedCmd) rfl ?_
    exact ⟨_, _, _, _, rfl, c2.set4 hcb _ _ _ _, B2.set4 (Nat.le_refl _) _ _ _ _⟩
  · go_wp2_with fail
    refine (l1Below_any cb a n cap zs 3 _ c1 (by omega) (by omega)).mono ?_
    rintro e w2 ⟨x2, rfl, x20, x21, c2, b2⟩
    have B2 := B1.trans b2
    have r2 := (b2.block _ (lt_of_block r1) (by omega)).trans r1
    clear b2 c1 B1 r1
    go_wp2_with fail
    refine (l1Below_any cb a n cap zs 3 _ c2 (by omega) (by omega)).mono ?_
    rintro e w3 ⟨x3, rfl, x30, x31, c3, b3⟩
    have B3 := B2.trans b3
    have r3 := (b3.block _ (lt_of_block r2) (by omega)).trans r2
    clear b3 c2 B2 r2
    have HE : Hid _ := setAll4 r3 (.int .i64 (4 + x2)) (.int .i64 (x3)) (.int .i64 (0)) (.int .i64 (0))
    obtain ⟨⟨s0, s1, s2, s3⟩, f0, f1, f2, f3⟩ := boxed4 r3
    clear r3
    go_wp2_with fail
    refine bodyPost_ret (results_cell_row rfl _ _ w.heap.size _ _ _ _ rfl HE.out Tryd.underlying25 rfl sizedCmd) rfl ?_
    exact ⟨_, _, _, _, rfl, c3.set4 hcb _ _ _ _, B3.set4 (Nat.le_refl _) _ _ _ _⟩
  · go_wp2_with fail
    refine (l1Below_any cb a n cap zs 3 _ c1 (by omega) (by omega)).mono ?_
    rintro e w2 ⟨x2, rfl, x20, x21, c2, b2⟩
    have B2 := B1.trans b2
    have r2 := (b2.block _ (lt_of_block r1) (by omega)).trans r1
    clear b2 c1 B1 r1
    have HE : Hid _ := setAll4 r2 (.int .i64 (5)) (.int .i64 (x2)) (.int .i64 (0)) (.int .i64 (0))
    obtain ⟨⟨s0, s1, s2, s3⟩, f0, f1, f2, f3⟩ := boxed4 r2
    clear r2
    go_wp2_with fail
    refine bodyPost_ret (results_cell_row rfl _ _ w.heap.size _ _ _ _ rfl HE.out Tryd.underlying25 rfl sizedCmd) rfl ?_
    exact ⟨_, _, _, _, rfl, c2.set4 hcb _ _ _ _, B2.set4 (Nat.le_refl _) _ _ _ _⟩
  · go_wp2_with fail
    refine (l1Below_any cb a n cap zs 5 _ c1 (by omega) (by omega)).mono ?_
    rintro e w2 ⟨x2, rfl, x20, x21, c2, b2⟩
    have B2 := B1.trans b2
    have r2 := (b2.block _ (lt_of_block r1) (by omega)).trans r1
    clear b2 c1 B1 r1
    go_wp2_with fail
    refine (l1Below_any cb a n cap zs 6 _ c2 (by omega) (by omega)).mono ?_
    rintro e w3 ⟨x3, rfl, x30, x31, c3, b3⟩
    have B3 := B2.trans b3
    have r3 := (b3.block _ (lt_of_block r2) (by omega)).trans r2
    clear b3 c2 B2 r2
    have HE : Hid _ := setAll4 r3 (.int .i64 (7)) (.int .i64 (1 + x2)) (.int .i64 (1 + x3)) (.int .i64 (0))
    obtain ⟨⟨s0, s1, s2, s3⟩, f0, f1, f2, f3⟩ := boxed4 r3
    clear r3
    go_wp2_with fail
    refine bodyPost_ret (results_cell_row rfl _ _ w.heap.size _ _ _ _ rfl HE.out Tryd.underlying25 rfl sizedCmd) rfl ?_
    exact ⟨_, _, _, _, rfl, c3.set4 hcb _ _ _ _, B3.set4 (Nat.le_refl _) _ _ _ _⟩

def tabC0 : Array Value := #[.int .i64 0, .int .i64 8, .int .i64 (-1), .int .i64 4611686018427387904]
theorem tabC0_at : ∀ k, k < 4 → ∃ v : Int, tabC0[k]? = some (.int .i64 v)
  | 0, _ => ⟨_, rfl⟩
  | 1, _ => ⟨_, rfl⟩
  | 2, _ => ⟨_, rfl⟩
  | 3, _ => ⟨_, rfl⟩

def tabC1 : Array Value := #[.int .i64 (-1), .int .i64 0, .int .i64 7, .int .i64 8, .int .i64 1000000, .int .i64 1000001, .int .i64 1000000000, .int .i64 1000000001]
theorem tabC1_at : ∀ k, k < 8 → ∃ v : Int, tabC1[k]? = some (.int .i64 v)
  | 0, _ => ⟨_, rfl⟩
  | 1, _ => ⟨_, rfl⟩
  | 2, _ => ⟨_, rfl⟩
  | 3, _ => ⟨_, rfl⟩
  | 4, _ => ⟨_, rfl⟩
  | 5, _ => ⟨_, rfl⟩
  | 6, _ => ⟨_, rfl⟩
  | 7, _ => ⟨_, rfl⟩

def tabC2 : Array Value := #[.int .i64 (-1), .int .i64 0, .int .i64 1, .int .i64 10000, .int .i64 10001]
theorem tabC2_at : ∀ k, k < 5 → ∃ v : Int, tabC2[k]? = some (.int .i64 v)
  | 0, _ => ⟨_, rfl⟩
  | 1, _ => ⟨_, rfl⟩
  | 2, _ => ⟨_, rfl⟩
  | 3, _ => ⟨_, rfl⟩
  | 4, _ => ⟨_, rfl⟩

set_option maxRecDepth 8000 in
set_option maxHeartbeats 4000000 in
theorem l12DrawAny_any (cb : Nat) (a : Option Addr) (n cap : Nat) (zs : List Int) (w : World) (h : CurAt w cb a n cap zs) :
    Calls Tryd.prog 23 #[.pointer (some ⟨cb, 0, none⟩)] w fun e w' => ∃ k x y z : Int, e = .returned (.agg #[.int .i64 k, .int .i64 x, .int .i64 y, .int .i64 z]) ∧ CurAt w' cb a n cap zs ∧ But cb w w' := by
  have hcb := h.lt
  obtain ⟨W0, hW0⟩ : ∃ W0, W0 = w.alloc (.cells #[.int .i64 0, .int .i64 0, .int .i64 0, .int .i64 0] 25) := ⟨_, rfl⟩
  have c0 : CurAt W0 cb a n cap zs := by rw [hW0]; exact h.but box_below0 hcb
  have B0 : But cb w W0 := by rw [hW0]; exact But.of box_below0
  have r0 : W0.heap[w.heap.size]? = some (.cells #[.int .i64 0, .int .i64 0, .int .i64 0, .int .i64 0] 25 (0, 0)) := by rw [hW0]; exact heap_alloc_new _ _
  go_enter Tryd.func23, Tryd.ntmps23
  go_upto_region 1 with fail
  rw [← hW0]
  clear hW0
  go_upto_region 2 with (go_at_call 36; refine (l12Draw_any cb a n cap zs _ c0).mono ?_; rintro e w1 ⟨k, x, y, z, rfl, c1, b1⟩)
  have B1 := B0.trans b1
  have r1 := (b1.block _ (lt_of_block r0) (by omega)).trans r0
  have l1 := lt_of_block r1
  have hc1 := c1.lt
  clear b1 c0 B0 r0
  obtain ⟨W2, hW2⟩ : ∃ W2, W2 = w1.alloc (.cells #[.int .i64 k, .int .i64 x, .int .i64 y, .int .i64 z] 25) := ⟨_, rfl⟩
  have c2 : CurAt W2 cb a n cap zs := by rw [hW2]; exact c1.but box_below0 hc1
  have B2 : But cb w W2 := by rw [hW2]; exact B1.alloc _
  have r2 : W2.heap[w.heap.size]? = some (.cells #[.int .i64 0, .int .i64 0, .int .i64 0, .int .i64 0] 25 (0, 0)) := by rw [hW2]; exact ((box_below (w := w1)).block _ l1).trans r1
  have x2 : W2.heap[w1.heap.size]? = some (.cells #[.int .i64 k, .int .i64 x, .int .i64 y, .int .i64 z] 25 (0, 0)) := by rw [hW2]; exact heap_alloc_new _ _
  rw [← hW2]
  have zX : w.heap.size ≤ w1.heap.size := B1.size
  clear hW2 c1 B1 r1
  generalize w1.heap.size = X at x2 l1 hc1 zX ⊢
  go_upto_region 2 with fail
  go_wp2_with fail
  refine (l1Once_any cb a n cap zs 14 _ c2 (by omega) (by omega)).mono ?_
  rintro e w3 ⟨b, rfl, c3, b3⟩
  have B3 := B2.trans b3
  have r3 := (b3.block _ (lt_of_block r2) (by omega)).trans r2
  have x3 := (b3.block _ (lt_of_block x2) (by omega)).trans x2
  clear b3 c2 B2 r2 x2
  cases b with
  | false =>
    have HE : Hid _ := setAll4 r3 (.int .i64 k) (.int .i64 x) (.int .i64 y) (.int .i64 z)
    obtain ⟨⟨s0, s1, s2, s3⟩, f0, f1, f2, f3⟩ := boxed4 r3
    obtain ⟨⟨t0, t1, t2, t3⟩, _⟩ := boxed4 x3
    clear r3 x3
    go_wp2_with fail
    refine bodyPost_ret (results_cell_row rfl _ _ w.heap.size _ _ _ _ rfl HE.out Tryd.underlying25 rfl sizedCmd) rfl ?_
    exact ⟨_, _, _, _, rfl, c3.set4 hcb _ _ _ _, B3.set4 (Nat.le_refl _) _ _ _ _⟩
  | true =>
    go_wp2_with fail
    refine (l1Below_any cb a n cap zs 3 _ c3 (by omega) (by omega)).mono ?_
    rintro e w4 ⟨q, rfl, q0, q1, c4, b4⟩
    have B4 := B3.trans b4
    have r4 := (b4.block _ (lt_of_block r3) (by omega)).trans r3
    have x4 := (b4.block _ (lt_of_block x3) (by omega)).trans x3
    have hc4 := c4.lt
    clear b4 c3 B3 r3 x3
    have hq : q = 0 ∨ q = 1 ∨ q = 2 := by omega
    clear q0 q1
    rcases hq with rfl | rfl | rfl
    · obtain ⟨W5, hW5⟩ : ∃ W5, W5 = w4.alloc (.cells tabC0 2) := ⟨_, rfl⟩
      have c5 : CurAt (w4.alloc (.cells tabC0 2)) cb a n cap zs := c4.but box_below0 hc4
      have r5 : (w4.alloc (.cells tabC0 2)).heap[w.heap.size]? = some (.cells #[.int .i64 0, .int .i64 0, .int .i64 0, .int .i64 0] 25 (0, 0)) := ((box_below (w := w4)).block _ (lt_of_block r4)).trans r4
      have x5 : (w4.alloc (.cells tabC0 2)).heap[X]? = some (.cells #[.int .i64 k, .int .i64 x, .int .i64 y, .int .i64 z] 25 (0, 0)) := ((box_below (w := w4)).block _ (lt_of_block x4)).trans x4
      go_wp2_with fail
      refine (l1Below_any cb a n cap zs 4 _ c5 (by omega) (by omega)).mono ?_
      rintro e w6 ⟨p, rfl, p0, p1, c6, b6⟩
      obtain ⟨p', rfl⟩ := Int.eq_ofNat_of_zero_le p0
      have hp' : p' < 4 := by omega
      obtain ⟨v, hv⟩ := tabC0_at p' hp'
      have tv := row_at (L := tabC0) b6 hc4 hv
      have B6 := (B4.alloc (.cells tabC0 2)).trans b6
      have r6 := (b6.block _ (lt_of_block r5) (by omega)).trans r5
      have x6 := (b6.block _ (lt_of_block x5) (by omega)).trans x5
      clear hv b6 c5 r5 x5 c4 B4 r4 x4 hW5 W5
      have fX := (boxed4 x6).2
      have cX := (boxed4 x6).1
      obtain ⟨e0, e1, e2, e3⟩ := cX
      obtain ⟨f0', f1', f2', f3'⟩ := fX
      have x7 : (w6.setCell ⟨X, 0, none⟩ (.int .i64 v)).heap[X]? = some (.cells #[.int .i64 v, .int .i64 x, .int .i64 y, .int .i64 z] 25 (0, 0)) := blk_set (j := 0) x6 (.int .i64 v)
      have r7 : (w6.setCell ⟨X, 0, none⟩ (.int .i64 v)).heap[w.heap.size]? = some (.cells #[.int .i64 0, .int .i64 0, .int .i64 0, .int .i64 0] 25 (0, 0)) := (Below.heap_setCell w6 ⟨X, 0, none⟩ _ _ (show w.heap.size ≠ X by omega)).trans r6
      have c7 : CurAt (w6.setCell ⟨X, 0, none⟩ (.int .i64 v)) cb a n cap zs := c6.setNew hc1 _
      have B7 : But cb w (w6.setCell ⟨X, 0, none⟩ (.int .i64 v)) := B6.setNew zX _
      clear x6 r6
      have HE : Hid _ := setAll4 r7 (.int .i64 v) (.int .i64 x) (.int .i64 y) (.int .i64 z)
      obtain ⟨⟨s0, s1, s2, s3⟩, f0, f1, f2, f3⟩ := boxed4 r7
      obtain ⟨⟨t0, t1, t2, t3⟩, _⟩ := boxed4 x7
      clear r7 x7
      go_wp2_with fail
      refine bodyPost_ret (results_cell_row rfl _ _ w.heap.size _ _ _ _ rfl HE.out Tryd.underlying25 rfl sizedCmd) rfl ?_
      exact ⟨_, _, _, _, rfl, c7.set4 hcb _ _ _ _, B7.set4 (Nat.le_refl _) _ _ _ _⟩
    · obtain ⟨W5, hW5⟩ : ∃ W5, W5 = w4.alloc (.cells tabC1 2) := ⟨_, rfl⟩
      have c5 : CurAt (w4.alloc (.cells tabC1 2)) cb a n cap zs := c4.but box_below0 hc4
      have r5 : (w4.alloc (.cells tabC1 2)).heap[w.heap.size]? = some (.cells #[.int .i64 0, .int .i64 0, .int .i64 0, .int .i64 0] 25 (0, 0)) := ((box_below (w := w4)).block _ (lt_of_block r4)).trans r4
      have x5 : (w4.alloc (.cells tabC1 2)).heap[X]? = some (.cells #[.int .i64 k, .int .i64 x, .int .i64 y, .int .i64 z] 25 (0, 0)) := ((box_below (w := w4)).block _ (lt_of_block x4)).trans x4
      go_wp2_with fail
      refine (l1Below_any cb a n cap zs 8 _ c5 (by omega) (by omega)).mono ?_
      rintro e w6 ⟨p, rfl, p0, p1, c6, b6⟩
      obtain ⟨p', rfl⟩ := Int.eq_ofNat_of_zero_le p0
      have hp' : p' < 8 := by omega
      obtain ⟨v, hv⟩ := tabC1_at p' hp'
      have tv := row_at (L := tabC1) b6 hc4 hv
      have B6 := (B4.alloc (.cells tabC1 2)).trans b6
      have r6 := (b6.block _ (lt_of_block r5) (by omega)).trans r5
      have x6 := (b6.block _ (lt_of_block x5) (by omega)).trans x5
      clear hv b6 c5 r5 x5 c4 B4 r4 x4 hW5 W5
      have fX := (boxed4 x6).2
      have cX := (boxed4 x6).1
      obtain ⟨e0, e1, e2, e3⟩ := cX
      obtain ⟨f0', f1', f2', f3'⟩ := fX
      have x7 : (w6.setCell ⟨X, 1, none⟩ (.int .i64 v)).heap[X]? = some (.cells #[.int .i64 k, .int .i64 v, .int .i64 y, .int .i64 z] 25 (0, 0)) := blk_set (j := 1) x6 (.int .i64 v)
      have r7 : (w6.setCell ⟨X, 1, none⟩ (.int .i64 v)).heap[w.heap.size]? = some (.cells #[.int .i64 0, .int .i64 0, .int .i64 0, .int .i64 0] 25 (0, 0)) := (Below.heap_setCell w6 ⟨X, 1, none⟩ _ _ (show w.heap.size ≠ X by omega)).trans r6
      have c7 : CurAt (w6.setCell ⟨X, 1, none⟩ (.int .i64 v)) cb a n cap zs := c6.setNew hc1 _
      have B7 : But cb w (w6.setCell ⟨X, 1, none⟩ (.int .i64 v)) := B6.setNew zX _
      clear x6 r6
      have HE : Hid _ := setAll4 r7 (.int .i64 k) (.int .i64 v) (.int .i64 y) (.int .i64 z)
      obtain ⟨⟨s0, s1, s2, s3⟩, f0, f1, f2, f3⟩ := boxed4 r7
      obtain ⟨⟨t0, t1, t2, t3⟩, _⟩ := boxed4 x7
      clear r7 x7
      go_wp2_with fail
      refine bodyPost_ret (results_cell_row rfl _ _ w.heap.size _ _ _ _ rfl HE.out Tryd.underlying25 rfl sizedCmd) rfl ?_
      exact ⟨_, _, _, _, rfl, c7.set4 hcb _ _ _ _, B7.set4 (Nat.le_refl _) _ _ _ _⟩
    · obtain ⟨W5, hW5⟩ : ∃ W5, W5 = w4.alloc (.cells tabC2 2) := ⟨_, rfl⟩
      have c5 : CurAt (w4.alloc (.cells tabC2 2)) cb a n cap zs := c4.but box_below0 hc4
      have r5 : (w4.alloc (.cells tabC2 2)).heap[w.heap.size]? = some (.cells #[.int .i64 0, .int .i64 0, .int .i64 0, .int .i64 0] 25 (0, 0)) := ((box_below (w := w4)).block _ (lt_of_block r4)).trans r4
      have x5 : (w4.alloc (.cells tabC2 2)).heap[X]? = some (.cells #[.int .i64 k, .int .i64 x, .int .i64 y, .int .i64 z] 25 (0, 0)) := ((box_below (w := w4)).block _ (lt_of_block x4)).trans x4
      go_wp2_with fail
      refine (l1Below_any cb a n cap zs 5 _ c5 (by omega) (by omega)).mono ?_
      rintro e w6 ⟨p, rfl, p0, p1, c6, b6⟩
      obtain ⟨p', rfl⟩ := Int.eq_ofNat_of_zero_le p0
      have hp' : p' < 5 := by omega
      obtain ⟨v, hv⟩ := tabC2_at p' hp'
      have tv := row_at (L := tabC2) b6 hc4 hv
      have B6 := (B4.alloc (.cells tabC2 2)).trans b6
      have r6 := (b6.block _ (lt_of_block r5) (by omega)).trans r5
      have x6 := (b6.block _ (lt_of_block x5) (by omega)).trans x5
      clear hv b6 c5 r5 x5 c4 B4 r4 x4 hW5 W5
      have fX := (boxed4 x6).2
      have cX := (boxed4 x6).1
      obtain ⟨e0, e1, e2, e3⟩ := cX
      obtain ⟨f0', f1', f2', f3'⟩ := fX
      have x7 : (w6.setCell ⟨X, 2, none⟩ (.int .i64 v)).heap[X]? = some (.cells #[.int .i64 k, .int .i64 x, .int .i64 v, .int .i64 z] 25 (0, 0)) := blk_set (j := 2) x6 (.int .i64 v)
      have r7 : (w6.setCell ⟨X, 2, none⟩ (.int .i64 v)).heap[w.heap.size]? = some (.cells #[.int .i64 0, .int .i64 0, .int .i64 0, .int .i64 0] 25 (0, 0)) := (Below.heap_setCell w6 ⟨X, 2, none⟩ _ _ (show w.heap.size ≠ X by omega)).trans r6
      have c7 : CurAt (w6.setCell ⟨X, 2, none⟩ (.int .i64 v)) cb a n cap zs := c6.setNew hc1 _
      have B7 : But cb w (w6.setCell ⟨X, 2, none⟩ (.int .i64 v)) := B6.setNew zX _
      clear x6 r6
      have HE : Hid _ := setAll4 r7 (.int .i64 k) (.int .i64 x) (.int .i64 v) (.int .i64 z)
      obtain ⟨⟨s0, s1, s2, s3⟩, f0, f1, f2, f3⟩ := boxed4 r7
      obtain ⟨⟨t0, t1, t2, t3⟩, _⟩ := boxed4 x7
      clear r7 x7
      go_wp2_with fail
      refine bodyPost_ret (results_cell_row rfl _ _ w.heap.size _ _ _ _ rfl HE.out Tryd.underlying25 rfl sizedCmd) rfl ?_
      exact ⟨_, _, _, _, rfl, c7.set4 hcb _ _ _ _, B7.set4 (Nat.le_refl _) _ _ _ _⟩

end Go.Proofs.YtppnnnijdfbgpaaDoor
