/- For every input that can be read, where the listed tables hold what their initialisers lay (the card ties that to the program's text), the law FnCommands returns true, and what it was handed reads as before. The frame is the kit's worked card over a table; the walk is ours. -/
import Derived.OpenVars
import Derived.ChangeVars
import Derived.Lib.LaidU8
import Derived.Test.YtppnnnijdfbgpaaDoorCards
import Derived.Test.YtppnnnijdfbgpaaDoorTie
import Derived.WalkKit
import Derived.ProofKit
import Derived.OpenShut
import Derived.Deep.DeepHandedRow
import Derived.Lib.LaidTab
import Derived.Stop.LaidErr
import Derived.ChangeOld
import Derived.Below
import Derived.Test.YtppnnnijdfbgpaaDoorCmdDr2
import Derived.Test.YtppnnnijdfbgpaaDoorCmdI
import Derived.Test.YtppnnnijdfbgpaaDoorBytesOpen
import Derived.Deep.Cut
import Derived.Deep.CutRange
import Derived.Lib.SmallJoins
namespace Go.Proofs.YtppnnnijdfbgpaaDoor.fnCommands
open Go.ChangeShapes Go.WideShapes Go.ChangeAt Go.RowKit
set_option linter.unusedVariables false

theorem own : ownKnob Tryd.prog.godebug = none := by kernel_rfl
theorem laidOut : laidOutB Tryd.prog = true := by kernel_rfl
theorem g0 : Tryd.prog.globalNamed "math/bits.deBruijn32tab" = some 2 := by kernel_rfl
theorem gt0 : (Tryd.prog.globals[2]?).map (·.type) = some 87 := by kernel_rfl
theorem cells87 : Tryd.prog.cellsOf 87 = 32 := by kernel_rfl
theorem cells5 : Tryd.prog.cellsOf 5 = 1 := by kernel_rfl
def zs0 : List Int := [0, 1, 28, 2, 29, 14, 24, 3, 30, 22, 20, 15, 25, 17, 4, 8, 31, 27, 13, 23, 21, 19, 16, 7, 26, 12, 18, 6, 11, 5, 10, 9]
theorem table0 {W : World} (h : laidMet Tryd.prog Rows.fnCommandsRow.laid W) : Lib.TabIs Tryd.prog W "math/bits.deBruijn32tab" .u8 zs0 :=
  Lib.tabIs_of_head g0 gt0 Tryd.underlying87 Tryd.underlying5 cells5 cells87 h
theorem g1 : Tryd.prog.globalNamed "math/bits.deBruijn64tab" = some 3 := by kernel_rfl
theorem gt1 : (Tryd.prog.globals[3]?).map (·.type) = some 88 := by kernel_rfl
theorem cells88 : Tryd.prog.cellsOf 88 = 64 := by kernel_rfl
def zs1 : List Int := [0, 1, 56, 2, 57, 49, 28, 3, 61, 58, 42, 50, 38, 29, 17, 4, 62, 47, 59, 36, 45, 43, 51, 22, 53, 39, 33, 30, 24, 18, 12, 5, 63, 55, 48, 27, 60, 41, 37, 16, 46, 35, 44, 21, 52, 32, 23, 11, 54, 26, 40, 15, 34, 20, 31, 10, 25, 14, 19, 9, 13, 8, 7, 6]
theorem table1 {W : World} (h : laidMet Tryd.prog Rows.fnCommandsRow.laid W) : Lib.TabIs Tryd.prog W "math/bits.deBruijn64tab" .u8 zs1 :=
  Lib.tabIs_of_head g1 gt1 Tryd.underlying88 Tryd.underlying5 cells5 cells88 (laidMet.tail h)
theorem g2 : Tryd.prog.globalNamed "internal/strconv.uint64pow10" = some 1 := by kernel_rfl
theorem gt2 : (Tryd.prog.globals[1]?).map (·.type) = some 80 := by kernel_rfl
theorem cells80 : Tryd.prog.cellsOf 80 = 20 := by kernel_rfl
theorem cells71 : Tryd.prog.cellsOf 71 = 1 := by kernel_rfl
def zs2 : List Int := [1, 10, 100, 1000, 10000, 100000, 1000000, 10000000, 100000000, 1000000000, 10000000000, 100000000000, 1000000000000, 10000000000000, 100000000000000, 1000000000000000, 10000000000000000, 100000000000000000, 1000000000000000000, 10000000000000000000]
theorem table2 {W : World} (h : laidMet Tryd.prog Rows.fnCommandsRow.laid W) : Lib.TabIs Tryd.prog W "internal/strconv.uint64pow10" .u64 zs2 :=
  Lib.tabIs_of_head g2 gt2 Tryd.underlying80 Tryd.underlying71 cells71 cells80 (laidMet.tail (laidMet.tail h))
theorem table3 {W : World} (h : laidMet Tryd.prog Rows.fnCommandsRow.laid W) : ShIs W := shIs_of rfl (Lib.laidMet.reads h (.tail _ (.tail _ (.tail _ (.head _)))))

set_option maxRecDepth 100000 in
set_option maxHeartbeats 4000000 in
theorem walk (a0 : Option Addr) (n0 cap0 : Nat) (z0 : List Int) (w : World) (w0 : IsBytes w a0 n0 cap0 z0) (tab0 : Lib.TabIs Tryd.prog w "math/bits.deBruijn32tab" .u8 zs0) (tab1 : Lib.TabIs Tryd.prog w "math/bits.deBruijn64tab" .u8 zs1) (tab2 : Lib.TabIs Tryd.prog w "internal/strconv.uint64pow10" .u64 zs2) (tab3 : ShIs w) :
    Calls Tryd.prog 3 #[.slice a0 n0 cap0] w fun e w' => e = .returned (.bool true) ∧ Below w.heap.size w w' := by
  have htab : ShT w := ⟨tab3, tab2⟩
  have HT : Hid (∀ W, Below w.heap.size w W → ShT W) := fun W hb => htab.keep hb
  clear tab0 tab1 tab2 tab3 htab
  have hmx := w0.mx
  have hle := w0.le
  by_cases hn : n0 ≤ 4096
  · go_enter Tryd.func3, Tryd.ntmps3
    go_wp2_with fail
    refine (big_any a0 n0 cap0 _ false (by simpa using hn)).mono ?_
    rintro e w' ⟨rfl, hq⟩; have hq' := hq.symm; clear hq; subst hq'
    go_wp2_with fail
    refine (drawShowCommand_any a0 n0 cap0 z0 _ w0 hn).mono ?_
    rintro e w1 ⟨k, a, b, c, rfl, V1⟩
    obtain ⟨W2, hW2⟩ : ∃ W2, W2 = w1.alloc (.cells #[.int .i64 k, .int .i64 a, .int .i64 b, .int .i64 c] 25) := ⟨_, rfl⟩
    have V2 : Below w.heap.size w W2 := by rw [hW2]; exact V1.alloc V1.size _
    have y2 : W2.heap[w1.heap.size]? = some (.cells #[.int .i64 k, .int .i64 a, .int .i64 b, .int .i64 c] 25 (0, 0)) := by rw [hW2]; exact heap_alloc_new _ _
    have l2 := lt_of_block y2
    go_upto_region 4 with fail
    rw [← hW2]
    clear hW2 V1
    generalize w1.heap.size = X at y2 l2 ⊢
    have HX : Hid (∀ W, Below W2.heap.size W2 W → W.cell? ⟨X, 0, none⟩ = some (.int .i64 k) ∧ W.cell? ⟨X, 1, none⟩ = some (.int .i64 a) ∧ W.cell? ⟨X, 2, none⟩ = some (.int .i64 b) ∧ W.cell? ⟨X, 3, none⟩ = some (.int .i64 c)) := fun W hW => (boxed4 ((hW.block _ l2).trans y2)).1
    have HSE : Hid ((cmB k a b c = true ∧ ∃ x t, cmSh k a b c = x :: t) ∨ cmB k a b c = false) := by
      rcases h : cmB k a b c with _ | _
      · exact Or.inr rfl
      · refine Or.inl ⟨rfl, ?_⟩
        cases e : cmSh k a b c with
        | nil => exact absurd e (cmSh_ne _ _ _ _)
        | cons x t => exact ⟨x, t, rfl⟩
    have CI := fun W h => showCommand_t k a b c W h
    have CS := fun W => specShowCommand_any k a b c W
    have CO := fun W h => cmdOk_t k a b c W h
    have HRS : Hid (∀ k' a' b' c' is', cmB k a b c = true → IsRd (cmSh k a b c) k' a' b' c' is' → k' = k ∧ a' = a ∧ b' = b ∧ c' = c ∧ is' = true) := fun k' a' b' c' is' h r => r.uniq (Or.inl ⟨rfl, h, rfl⟩)
    have HSL : Hid ((cmSh k a b c).length ≤ 2000000 ∨ cmB k a b c = false) := by
      rcases h : cmB k a b c with _ | _
      · exact Or.inr rfl
      · have := sh_len k a b c
        rw [if_pos h] at this
        exact Or.inl (by omega)
    rcases hcb : cmB k a b c with _ | _
    · rw [hcb] at CI CS CO
      rw [if_neg (by simp)] at CI CS
      clear HSE HRS HSL
      obtain ⟨d0, d1, d2, d3⟩ := HX.out W2 (Below.refl _ _)
      go_wp2_with fail
      refine (CI _ (HT.out _ V2)).mono ?_
      rintro e w3 ⟨rfl, hb3⟩
      have V3 := V2.then hb3 V2.size
      clear CI d0 d1 d2 d3
      go_wp2_with fail
      refine (drawReadCommand_any a0 n0 cap0 z0 _ (w0.below V3) hn).mono ?_
      rintro e w4 ⟨lt, rfl, hlt, hb4⟩
      have U4 := hb3.then hb4 hb3.size
      have V4 := V2.then U4 V2.size
      clear hb3 V3 hb4
      have CR := fun W h => readCommand_t lt (by omega) W h
      have CT := fun W => specReadCommand_any lt (by omega) W
      have hlz := size_list lt
      have htl := toList_list lt
      have HSH : Hid (∀ k2 a2 b2 c2, IsRd lt k2 a2 b2 c2 true → ∀ W h, Calls Tryd.prog 9 #[.agg #[.int .i64 k2, .int .i64 a2, .int .i64 b2, .int .i64 c2]] W fun e w' => e = .returned (.string ⟨lt.toArray⟩) ∧ Below W.heap.size W w') := fun k2 a2 b2 c2 hr W h => by
        rcases hr with ⟨_, h1, h2⟩ | ⟨h1, _⟩
        · have := showCommand_t k2 a2 b2 c2 W h
          rw [if_pos h1, h2] at this
          exact this
        · cases h1
      generalize (⟨lt.toArray⟩ : ByteArray) = bs at hlz htl CR CT HSH ⊢
      go_wp2_with fail
      refine (CR _ (HT.out _ V4)).mono ?_
      rintro e w5 ⟨k2, a2, b2, c2, is2, rfl, R2, hb5⟩
      have HR2 : Hid (IsRd lt k2 a2 b2 c2 is2) := R2
      have U5 := U4.then hb5 U4.size
      clear R2 CR hb5 U4
      obtain ⟨W6, hW6⟩ : ∃ W6, W6 = w5.alloc (.cells #[.int .i64 k2, .int .i64 a2, .int .i64 b2, .int .i64 c2] 25) := ⟨_, rfl⟩
      have U6 : Below W2.heap.size W2 W6 := by rw [hW6]; exact U5.alloc U5.size _
      have y6 : W6.heap[w5.heap.size]? = some (.cells #[.int .i64 k2, .int .i64 a2, .int .i64 b2, .int .i64 c2] 25 (0, 0)) := by rw [hW6]; exact heap_alloc_new _ _
      have l6 := lt_of_block y6
      go_upto_region 7 with fail
      rw [← hW6]
      clear hW6
      generalize w5.heap.size = Y at y6 l6 ⊢
      have HY : Hid (∀ W, Below W6.heap.size W6 W → W.cell? ⟨Y, 0, none⟩ = some (.int .i64 k2) ∧ W.cell? ⟨Y, 1, none⟩ = some (.int .i64 a2) ∧ W.cell? ⟨Y, 2, none⟩ = some (.int .i64 b2) ∧ W.cell? ⟨Y, 3, none⟩ = some (.int .i64 c2)) := fun W hW => (boxed4 ((hW.block _ l6).trans y6)).1
      go_wp2_with fail
      refine (CT _).mono ?_
      rintro e w7 ⟨k3, a3, b3, c3, is3, rfl, R3, hb7⟩
      obtain ⟨rfl, rfl, rfl, rfl, rfl⟩ := R3.uniq HR2.out
      clear R3 CT U5
      obtain ⟨W8, hW8⟩ : ∃ W8, W8 = w7.alloc (.cells #[.int .i64 k3, .int .i64 a3, .int .i64 b3, .int .i64 c3] 25) := ⟨_, rfl⟩
      have U8 : Below W6.heap.size W6 W8 := by rw [hW8]; exact hb7.alloc hb7.size _
      have y8 : W8.heap[w7.heap.size]? = some (.cells #[.int .i64 k3, .int .i64 a3, .int .i64 b3, .int .i64 c3] 25 (0, 0)) := by rw [hW8]; exact heap_alloc_new _ _
      have hb7s := hb7.size
      go_upto_region 8 with fail
      rw [← hW8]
      clear hW8 y6 hb7
      generalize w7.heap.size = Z at y8 ⊢
      obtain ⟨e0, e1, e2, e3⟩ := HY.out _ U8
      obtain ⟨⟨f0, f1, f2, f3⟩, _⟩ := boxed4 y8
      obtain ⟨d0, d1, d2, d3⟩ := HX.out _ (U6.then U8 U6.size)
      have V8 := V2.then (U6.then U8 U6.size) V2.size
      clear y8
      have is_same : (is3 != is3) = false := by simp
      go_upto_region 14 with (first | (go_at_call 13; refine (CS _).mono ?_; rintro e w9 ⟨rfl, hb9⟩; have U9 := U8.then hb9 U8.size; obtain ⟨d0, d1, d2, d3⟩ := HX.out _ (U6.then U9 U6.size)) | (go_at_call 14; refine (CO _ (HT.out _ (V2.then (U6.then U9 U6.size) V2.size))).mono ?_; rintro e w10 ⟨rfl, hb10⟩; have U10 := U9.then hb10 U9.size) | fail)
      have V10 := V2.then (U6.then U10 U6.size) V2.size
      clear e0 e1 e2 e3 f0 f1 f2 f3
      obtain ⟨e0, e1, e2, e3⟩ := HY.out _ U10
      cases is3 with
      | false =>
        have HZ : Hid (k3 = 0 ∧ a3 = 0 ∧ b3 = 0 ∧ c3 = 0) := by
          rcases HR2.out with ⟨h1, _⟩ | ⟨_, h1, h2, h3, h4, _⟩
          · cases h1
          · exact ⟨h1, h2, h3, h4⟩
        obtain ⟨rfl, rfl, rfl, rfl⟩ := HZ.out
        go_wp2_with fail
        go_ret
        exact ⟨rfl, V10⟩
      | true =>
        have CH := fun W h => HSH.out _ _ _ _ HR2.out W h
        go_wp2_with (go_at_call 9; refine (CH _ (HT.out _ V10)).mono ?_; rintro e w13 ⟨rfl, hb13⟩; have V13 := (V10).then hb13 (V10).size)
        go_ret
        exact ⟨rfl, V13⟩
    · have hne : ∃ x t, cmSh k a b c = x :: t := by
        rcases HSE.out with ⟨_, h⟩ | h
        · exact h
        · rw [hcb] at h; cases h
      have hsl : (cmSh k a b c).length ≤ 2000000 := by
        rcases HSL.out with h | h
        · exact h
        · rw [hcb] at h; cases h
      rw [hcb] at CI CS CO
      rw [if_pos rfl] at CI CS
      have CRS := fun W h => readCommand_t (cmSh k a b c) hsl W h
      have HRS2 : Hid (∀ k' a' b' c' is', IsRd (cmSh k a b c) k' a' b' c' is' → k' = k ∧ a' = a ∧ b' = b ∧ c' = c ∧ is' = true) := fun k' a' b' c' is' r => HRS.out _ _ _ _ _ hcb r
      obtain ⟨x, t, hxt⟩ := hne
      rw [hxt] at CI CS CRS HRS2
      clear HSE HRS HSL hsl hxt
      obtain ⟨d0, d1, d2, d3⟩ := HX.out W2 (Below.refl _ _)
      go_wp2_with fail
      refine (CI _ (HT.out _ V2)).mono ?_
      rintro e w3 ⟨rfl, hb3⟩
      have V3 := V2.then hb3 V2.size
      clear CI d0 d1 d2 d3
      go_wp2_with fail
      refine (drawReadCommand_any a0 n0 cap0 z0 _ (w0.below V3) hn).mono ?_
      rintro e w4 ⟨lt, rfl, hlt, hb4⟩
      have U4 := hb3.then hb4 hb3.size
      have V4 := V2.then U4 V2.size
      clear hb3 V3 hb4
      have CR := fun W h => readCommand_t lt (by omega) W h
      have CT := fun W => specReadCommand_any lt (by omega) W
      have hlz := size_list lt
      have htl := toList_list lt
      have HSH : Hid (∀ k2 a2 b2 c2, IsRd lt k2 a2 b2 c2 true → ∀ W h, Calls Tryd.prog 9 #[.agg #[.int .i64 k2, .int .i64 a2, .int .i64 b2, .int .i64 c2]] W fun e w' => e = .returned (.string ⟨lt.toArray⟩) ∧ Below W.heap.size W w') := fun k2 a2 b2 c2 hr W h => by
        rcases hr with ⟨_, h1, h2⟩ | ⟨h1, _⟩
        · have := showCommand_t k2 a2 b2 c2 W h
          rw [if_pos h1, h2] at this
          exact this
        · cases h1
      generalize (⟨lt.toArray⟩ : ByteArray) = bs at hlz htl CR CT HSH ⊢
      go_wp2_with fail
      refine (CR _ (HT.out _ V4)).mono ?_
      rintro e w5 ⟨k2, a2, b2, c2, is2, rfl, R2, hb5⟩
      have HR2 : Hid (IsRd lt k2 a2 b2 c2 is2) := R2
      have U5 := U4.then hb5 U4.size
      clear R2 CR hb5 U4
      obtain ⟨W6, hW6⟩ : ∃ W6, W6 = w5.alloc (.cells #[.int .i64 k2, .int .i64 a2, .int .i64 b2, .int .i64 c2] 25) := ⟨_, rfl⟩
      have U6 : Below W2.heap.size W2 W6 := by rw [hW6]; exact U5.alloc U5.size _
      have y6 : W6.heap[w5.heap.size]? = some (.cells #[.int .i64 k2, .int .i64 a2, .int .i64 b2, .int .i64 c2] 25 (0, 0)) := by rw [hW6]; exact heap_alloc_new _ _
      have l6 := lt_of_block y6
      go_upto_region 7 with fail
      rw [← hW6]
      clear hW6
      generalize w5.heap.size = Y at y6 l6 ⊢
      have HY : Hid (∀ W, Below W6.heap.size W6 W → W.cell? ⟨Y, 0, none⟩ = some (.int .i64 k2) ∧ W.cell? ⟨Y, 1, none⟩ = some (.int .i64 a2) ∧ W.cell? ⟨Y, 2, none⟩ = some (.int .i64 b2) ∧ W.cell? ⟨Y, 3, none⟩ = some (.int .i64 c2)) := fun W hW => (boxed4 ((hW.block _ l6).trans y6)).1
      go_wp2_with fail
      refine (CT _).mono ?_
      rintro e w7 ⟨k3, a3, b3, c3, is3, rfl, R3, hb7⟩
      obtain ⟨rfl, rfl, rfl, rfl, rfl⟩ := R3.uniq HR2.out
      clear R3 CT U5
      obtain ⟨W8, hW8⟩ : ∃ W8, W8 = w7.alloc (.cells #[.int .i64 k3, .int .i64 a3, .int .i64 b3, .int .i64 c3] 25) := ⟨_, rfl⟩
      have U8 : Below W6.heap.size W6 W8 := by rw [hW8]; exact hb7.alloc hb7.size _
      have y8 : W8.heap[w7.heap.size]? = some (.cells #[.int .i64 k3, .int .i64 a3, .int .i64 b3, .int .i64 c3] 25 (0, 0)) := by rw [hW8]; exact heap_alloc_new _ _
      have hb7s := hb7.size
      go_upto_region 8 with fail
      rw [← hW8]
      clear hW8 y6 hb7
      generalize w7.heap.size = Z at y8 ⊢
      obtain ⟨e0, e1, e2, e3⟩ := HY.out _ U8
      obtain ⟨⟨f0, f1, f2, f3⟩, _⟩ := boxed4 y8
      obtain ⟨d0, d1, d2, d3⟩ := HX.out _ (U6.then U8 U6.size)
      have V8 := V2.then (U6.then U8 U6.size) V2.size
      clear y8
      have is_same : (is3 != is3) = false := by simp
      go_upto_region 11 with (first | (go_at_call 13; refine (CS _).mono ?_; rintro e w9 ⟨rfl, hb9⟩; have U9 := U8.then hb9 U8.size; obtain ⟨d0, d1, d2, d3⟩ := HX.out _ (U6.then U9 U6.size)) | (go_at_call 14; refine (CO _ (HT.out _ (V2.then (U6.then U9 U6.size) V2.size))).mono ?_; rintro e w10 ⟨rfl, hb10⟩; have U10 := U9.then hb10 U9.size) | fail)
      have V10 := V2.then (U6.then U10 U6.size) V2.size
      go_wp2_with fail
      refine (CRS _ (HT.out _ V10)).mono ?_
      rintro e w11 ⟨k4, a4, b4, c4, is4, rfl, R4, hb11⟩
      obtain ⟨rfl, rfl, rfl, rfl, rfl⟩ := HRS2.out _ _ _ _ _ R4
      have U11 := U10.then hb11 U10.size
      clear R4
      obtain ⟨W12, hW12⟩ : ∃ W12, W12 = w11.alloc (.cells #[.int .i64 k4, .int .i64 a4, .int .i64 b4, .int .i64 c4] 25) := ⟨_, rfl⟩
      have U12 : Below W6.heap.size W6 W12 := by rw [hW12]; exact U11.alloc U11.size _
      have y12 : W12.heap[w11.heap.size]? = some (.cells #[.int .i64 k4, .int .i64 a4, .int .i64 b4, .int .i64 c4] 25 (0, 0)) := by rw [hW12]; exact heap_alloc_new _ _
      go_upto_region 12 with fail
      rw [← hW12]
      clear hW12 d0 d1 d2 d3 e0 e1 e2 e3 f0 f1 f2 f3
      obtain ⟨d0, d1, d2, d3⟩ := HX.out _ (U6.then U12 U6.size)
      obtain ⟨e0, e1, e2, e3⟩ := HY.out _ U12
      obtain ⟨⟨f0, f1, f2, f3⟩, _⟩ := boxed4 y12
      clear y12
      have V12 := V2.then (U6.then U12 U6.size) V2.size
      go_upto_region 14 with fail
      cases is3 with
      | false =>
        have HZ : Hid (k3 = 0 ∧ a3 = 0 ∧ b3 = 0 ∧ c3 = 0) := by
          rcases HR2.out with ⟨h1, _⟩ | ⟨_, h1, h2, h3, h4, _⟩
          · cases h1
          · exact ⟨h1, h2, h3, h4⟩
        obtain ⟨rfl, rfl, rfl, rfl⟩ := HZ.out
        go_wp2_with fail
        go_ret
        exact ⟨rfl, V12⟩
      | true =>
        have CH := fun W h => HSH.out _ _ _ _ HR2.out W h
        go_wp2_with (go_at_call 9; refine (CH _ (HT.out _ V12)).mono ?_; rintro e w13 ⟨rfl, hb13⟩; have V13 := (V12).then hb13 (V12).size)
        go_ret
        exact ⟨rfl, V13⟩
  · have hn' : 4096 < n0 := by omega
    go_enter Tryd.func3, Tryd.ntmps3
    go_wp2_with fail
    refine (big_any a0 n0 cap0 _ true (by simpa using hn')).mono ?_
    rintro e w' ⟨rfl, hq⟩; have hq' := hq.symm; clear hq; subst hq'
    go_wp2_with fail
    go_ret
    exact ⟨rfl, Below.refl _ _⟩

/-- What the walk gives, for every argument and every world that holds the tables. -/
theorem contract (H : Type) (enc : TypeId × Value → H) (W : World) (base : Nat) (args : Array Value) (ds gs : List (DataW H)) (before : List MemPlace)
    (hval : ∀ (j : Nat) t v, Tryd.f3.params[j]? = some t → args[j]? = some v → Value.okWide Tryd.prog W .any base t v)
    (hW : DataW.Whole enc Tryd.prog Tryd.f3.params.toList Rows.fnCommandsSpec.vars false W args.toList ds gs before) (hL : laidMet Tryd.prog Rows.fnCommandsRow.laid W) :
    Calls Tryd.prog 3 args W fun e W' => ∃ v, e = .returned v ∧ Rows.fnCommandsSpec.post enc Tryd.prog Tryd.f3 false true false false W args v W' := by
  have hW' := hW
  obtain ⟨p, q, hA0, hV, rfl, hfz, hnd⟩ := hW
  have hA : DataW.TrodAll enc Tryd.prog W 0 (fun _ => true) true Tryd.f3.params.toList args.toList ds p := hA0
  rw [Tryd.params3] at hA hval
  obtain ⟨v0, vs0, d0, ds0, p0, q0, hargs, rfl, rfl, h0, r0⟩ := trodAll_cons hA
  obtain ⟨rfl, rfl, rfl⟩ := trodAll_nil r0
  obtain rfl : args = #[v0] := by cases args; simp_all
  have hV2 := hV
  obtain ⟨gv, gt9, gcs, gfu, dg, pg, rfl, _, _, _, _, _⟩ := trodVars_one hV
  have k0 := h0
  have lt0 : ∀ x ∈ p0, x.block < W.heap.size := by obtain ⟨m, hm⟩ := k0; exact DataW.trod_lt m _ _ _ hm
  obtain ⟨a0, n0, cap0, z0, rfl, w0⟩ := open_bytes (hval 0 22 v0 rfl rfl) h0
  clear hA0
  refine (walk a0 n0 cap0 z0 W w0 (table0 hL) (table1 hL) (table2 hL) (table3 hL)).mono fun e W' ⟨he, hg⟩ => ?_
  subst he
  exact ⟨_, rfl, _, _, _, [], _, _, hW', trodAll_mk1 (shut_bool Tryd.underlying4 _), (trodAll_cons_mk (Below.trod laidOut (by kernel_rfl) (of_decide_eq_true (by kernel_rfl)) k0 hg lt0) trodAll_mk0), Below.trodVars laidOut hg (by kernel_rfl) hV2, hg.frame _, fun h => by cases h⟩

/-- A world for the witness: the settled one, the tables holding what their initialisers lay. -/
def laidHeap (h : Array Obj) : Array Obj :=
  (((h.modify 2 fun | .cells _ t frozen => .cells (zs0.map (Value.int .u8)).toArray t frozen | x => x).modify 3 fun | .cells _ t frozen => .cells (zs1.map (Value.int .u8)).toArray t frozen | x => x).modify 1 fun | .cells _ t frozen => .cells (zs2.map (Value.int .u64)).toArray t frozen | x => x).modify 0 fun | .cells _ t frozen => .cells shL.toArray t frozen | x => x
noncomputable def laidWorld (os : Os) : World :=
  { World.holding Tryd.prog os ⟨#[], #[], []⟩ with heap := laidHeap (World.holding Tryd.prog os ⟨#[], #[], []⟩).heap }
theorem laid_met (os : Os) : laidMet Tryd.prog Rows.fnCommandsRow.laid ((laidWorld os).forCall (fun _ _ => 0) ⟨#[], #[.slice none 0 0], []⟩).memory :=
  laidMet_of_run' 8 (by kernel_rfl) (by kernel_rfl)
theorem reads0 (os : Os) {H : Type} (enc : TypeId × Value → H) : (DataW.whole enc Tryd.prog ((laidWorld os).forCall (fun _ _ => 0) ⟨#[], #[.slice none 0 0], []⟩).memory Tryd.f3.params.toList Rows.fnCommandsSpec.vars false (#[.slice none 0 0] : Array Value).toList 8).map (fun x => (x.1, x.2.1)) = some ([.nil], [Rows.laid_loop_example_g00255_impl_shapes]) := by kernel_rfl
theorem reads (os : Os) {H : Type} (enc : TypeId × Value → H) : ∃ places, DataW.whole enc Tryd.prog ((laidWorld os).forCall (fun _ _ => 0) ⟨#[], #[.slice none 0 0], []⟩).memory Tryd.f3.params.toList Rows.fnCommandsSpec.vars false (#[.slice none 0 0] : Array Value).toList 8 = some ([.nil], [Rows.laid_loop_example_g00255_impl_shapes], places) := by
  obtain ⟨⟨a, b, c⟩, h1, h2⟩ := Option.map_eq_some_iff.1 (reads0 os enc)
  simp only [Prod.mk.injEq] at h2
  obtain ⟨rfl, rfl⟩ := h2
  exact ⟨c, h1⟩

set_option maxRecDepth 100000 in
theorem lifted (os : Os) (started : os.Started) (H : Type) (enc : TypeId × Value → H) (F : Stop.Interp) :
    ReturnsInHanded {} Tryd.checked os 3 .any ((OpenSpec.ofChange Rows.fnCommandsSpec).preRow enc Tryd.prog Tryd.f3 Rows.fnCommandsRow.domain false Rows.fnCommandsRow.laid) (((OpenSpec.ofChange Rows.fnCommandsSpec).at F).post enc Tryd.prog Tryd.f3 false true false false) := by
  obtain ⟨places, hx⟩ := reads os enc
  refine returnsInHanded_of_row (C := Tryd.checked) (s := (OpenSpec.ofChange Rows.fnCommandsSpec)) own started (by kernel_rfl) Tryd.func3
    (witness_row_at (enc := enc) (C := Tryd.checked) false (laidWorld os) #[.slice none 0 0] rfl (by kernel_rfl) (by kernel_rfl) (by kernel_rfl)
      (OpenSpec.preRow_of_cond 8 hx (by kernel_rfl) (fun k hk => by cases hk) (by kernel_rfl) (laid_met os))) ?_
  intro W base args ds gs before hval hW _ _ _ hL _ _
  exact contract H enc W base args ds gs before hval hW hL

theorem said : Rows.FnCommandsSaid :=
  OpenClaim.holds_of_cond 3 Tryd.f3 rfl rfl rfl rfl rfl rfl rfl ⟨rfl, rfl, rfl, rfl, rfl⟩ rfl rfl rfl rfl rfl (by kernel_rfl) Tryd.func3 (by kernel_rfl)
    (of_decide_eq_true (by kernel_rfl)) (by unfold Func.isWrapper; first | (rw [if_pos (by decide +kernel)]; kernel_rfl) | (rw [if_neg (by decide +kernel)]; exact ⟨rfl, rfl⟩))
    (fun os started H enc _ F => by rw [OpenClaim.pre_eq_preRow]; exact lifted os started H enc F)

theorem plain (f : FuncId) (fn : Func) (hf : Tryd.pinned.checked.prog.funcNamed "loop.example/g00255/laws.FnCommands" = some f) (hfn : Tryd.pinned.checked.prog.funcs[f]? = some fn) :
    false = Tryd.pinned.checked.prog.looks [] ∧ ∀ (j : Nat) t, fn.params[j]? = some t → Tryd.pinned.checked.prog.wantsStandIn t = false := by
  obtain rfl : f = 3 := Option.some.inj ((show Tryd.prog.funcNamed "loop.example/g00255/laws.FnCommands" = some 3 by kernel_rfl).symm.trans hf) |>.symm
  obtain rfl : fn = Tryd.f3 := (Option.some.inj (Tryd.func3.symm.trans hfn)).symm
  refine ⟨by kernel_rfl, fun j t ht => ?_⟩
  rw [Tryd.params3] at ht
  obtain rfl : t = 22 := by simpa using Array.mem_of_getElem? ht
  exact (show Tryd.prog.wantsStandIn 22 = false by kernel_rfl)

/-- the given statement -/
theorem card : Rows.FnCommandsCardSaid :=
  Claim7.holds_tied_plain_at .later [] _ _ _ _ said (fun _ h => by cases h) (by kernel_rfl) (fun _ h => by cases h) fnCommands_row_tie rfl ⟨rfl, rfl⟩ (by kernel_rfl) rfl plain (by kernel_rfl)
#print axioms card
end Go.Proofs.YtppnnnijdfbgpaaDoor.fnCommands
