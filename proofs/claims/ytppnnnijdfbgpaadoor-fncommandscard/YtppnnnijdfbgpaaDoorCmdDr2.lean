/- Draws of commands, the faces. -/
import Derived.Test.YtppnnnijdfbgpaaDoorCmdDr
import Derived.Test.YtppnnnijdfbgpaaDoorBend
namespace Go.Proofs.YtppnnnijdfbgpaaDoor
open Go.RowKit Go.Sort

theorem drawCommandOk_any (a : Option Addr) (n cap : Nat) (zs : List Int) (w : World) (h : IsBytes w a n cap zs) (hn : n ≤ 4096) :
    Calls Tryd.prog 18 #[.slice a n cap] w fun e w' => ∃ k x y z : Int, e = .returned (.agg #[.int .i64 k, .int .i64 x, .int .i64 y, .int .i64 z]) ∧ Below w.heap.size w w' := by
  obtain ⟨W0, hW0⟩ : ∃ W0, W0 = w.alloc (.cells #[.int .i64 0, .int .i64 0, .int .i64 0, .int .i64 0] 25) := ⟨_, rfl⟩
  have B0 : Below w.heap.size w W0 := by rw [hW0]; exact box_below
  have r0 : W0.heap[w.heap.size]? = some (.cells #[.int .i64 0, .int .i64 0, .int .i64 0, .int .i64 0] 25 (0, 0)) := by rw [hW0]; exact heap_alloc_new _ _
  have l0 := lt_of_block r0
  go_enter Tryd.func18, Tryd.ntmps18
  go_upto_region 1 with fail
  rw [← hW0]
  clear hW0
  go_wp2_with fail
  refine (l1New_any a n cap zs _ (h.below B0) hn).mono ?_
  rintro e w1 ⟨cb, rfl, hcb, c1, U1⟩
  have B1 := B0.then U1 B0.size
  have r1 := (U1.block _ l0).trans r0
  clear r0 U1 B0
  go_wp2_with fail
  refine (l12DrawAny_any cb a n cap zs _ c1).mono ?_
  rintro e w2 ⟨k, x, y, z, rfl, c2, b2⟩
  have r2 := (b2.block _ (lt_of_block r1) (by omega)).trans r1
  have B2 := B1.trans (b2.below (B := w.heap.size) (by omega) B1.size)
  clear r1 b2 B1 c1 c2
  have HE : Hid _ := setAll4 r2 (.int .i64 k) (.int .i64 x) (.int .i64 y) (.int .i64 z)
  obtain ⟨⟨s0, s1, s2, s3⟩, f0, f1, f2, f3⟩ := boxed4 r2
  clear r2
  go_wp2_with fail
  refine bodyPost_ret (results_cell_row rfl _ _ w.heap.size _ _ _ _ rfl HE.out Tryd.underlying25 rfl sizedCmd) rfl ?_
  exact ⟨_, _, _, _, rfl, below4 B2 (Nat.le_refl _) _ _ _ _⟩

theorem drawShowCommand_any (a : Option Addr) (n cap : Nat) (zs : List Int) (w : World) (h : IsBytes w a n cap zs) (hn : n ≤ 4096) :
    Calls Tryd.prog 8 #[.slice a n cap] w fun e w' => ∃ k x y z : Int, e = .returned (.agg #[.int .i64 k, .int .i64 x, .int .i64 y, .int .i64 z]) ∧ Below w.heap.size w w' := by
  obtain ⟨W0, hW0⟩ : ∃ W0, W0 = w.alloc (.cells #[.int .i64 0, .int .i64 0, .int .i64 0, .int .i64 0] 25) := ⟨_, rfl⟩
  have B0 : Below w.heap.size w W0 := by rw [hW0]; exact box_below
  have r0 : W0.heap[w.heap.size]? = some (.cells #[.int .i64 0, .int .i64 0, .int .i64 0, .int .i64 0] 25 (0, 0)) := by rw [hW0]; exact heap_alloc_new _ _
  have l0 := lt_of_block r0
  go_enter Tryd.func8, Tryd.ntmps8
  go_upto_region 1 with fail
  rw [← hW0]
  clear hW0
  go_wp2_with fail
  refine (drawCommandOk_any a n cap zs _ (h.below B0) hn).mono ?_
  rintro e w1 ⟨k, x, y, z, rfl, U1⟩
  have B1 := B0.then U1 B0.size
  have r1 := (U1.block _ l0).trans r0
  clear r0 U1 B0
  have HE : Hid _ := setAll4 r1 (.int .i64 k) (.int .i64 x) (.int .i64 y) (.int .i64 z)
  obtain ⟨⟨s0, s1, s2, s3⟩, f0, f1, f2, f3⟩ := boxed4 r1
  clear r1
  go_wp2_with fail
  refine bodyPost_ret (results_cell_row rfl _ _ w.heap.size _ _ _ _ rfl HE.out Tryd.underlying25 rfl sizedCmd) rfl ?_
  exact ⟨_, _, _, _, rfl, below4 B1 (Nat.le_refl _) _ _ _ _⟩

theorem sh_len (k a b c : Int) : (if cmB k a b c = true then cmSh k a b c else []).length ≤ 39 := by
  split
  · rename_i h
    have := cmTo_len h (kC k) (Nat.le_refl _)
    have h3 := kC_le k
    rw [cmTo_all] at this
    omega
  · exact Nat.zero_le _

theorem drawReadCommand_any (a : Option Addr) (n cap : Nat) (zs : List Int) (w : World) (h : IsBytes w a n cap zs) (hn : n ≤ 4096) :
    Calls Tryd.prog 10 #[.slice a n cap] w fun e w' => ∃ l : List UInt8, e = .returned (.string ⟨l.toArray⟩) ∧ l.length ≤ 41 ∧ Below w.heap.size w w' := by
  go_enter Tryd.func10, Tryd.ntmps10
  go_wp2_with fail
  refine (l1New_any a n cap zs _ h hn).mono ?_
  rintro e w1 ⟨cb, rfl, hcb, c1, U1⟩
  go_wp2_with fail
  refine (l12DrawAny_any cb a n cap zs _ c1).mono ?_
  rintro e w2 ⟨k, x, y, z, rfl, c2, b2⟩
  have U2 := U1.trans (b2.below (B := w.heap.size) (by omega) U1.size)
  clear c1 U1 b2
  have CS := fun W => specShowCommand_any k x y z W
  have hsl := sh_len k x y z
  generalize (if cmB k x y z = true then cmSh k x y z else []) = l at CS hsl
  go_wp2_with fail
  refine (CS _).mono ?_
  rintro e w3 ⟨rfl, hb3⟩
  have c3 := c2.but hb3 c2.lt
  have U3 := U2.then hb3 U2.size
  clear c2 hb3 U2 CS
  go_wp2_with fail
  refine (l1Once_any cb a n cap zs 2 _ c3 (by omega) (by omega)).mono ?_
  rintro e w4 ⟨b, rfl, c4, b4⟩
  have U4 := U3.trans (b4.below (B := w.heap.size) (by omega) U3.size)
  clear c3 b4 U3
  cases b with
  | false =>
    go_wp2_with fail
    go_ret
    exact ⟨l, rfl, by omega, U4⟩
  | true =>
    go_wp2_with fail
    refine (l1Bend_any cb a n cap zs l [48, 49, 32, 100, 117, 112] (by omega) (by simp) (by simp) _ c4).mono ?_
    rintro e w5 ⟨l', rfl, hl', c5, b5⟩
    have U5 := U4.trans (b5.below (B := w.heap.size) (by omega) U4.size)
    go_wp2_with fail
    go_ret
    exact ⟨l', rfl, by omega, U5⟩

end Go.Proofs.YtppnnnijdfbgpaaDoor
