/- For every input that can be read, where the listed tables hold what their initialisers lay (the card ties that to the program's text), the law FnTimes returns true, and what it was handed reads as before. The frame is the kit's worked card over a table; the walk is ours. -/
import Derived.Test.YtebbjmdfjmnbbaaDoorCards
import Derived.Test.YtebbjmdfjmnbbaaDoorTie
import Derived.WalkKit
import Derived.ProofKit
import Derived.OpenShut
import Derived.Deep.DeepHandedRow
import Derived.Lib.LaidTab
import Derived.Stop.LaidErr
import Derived.ChangeOld
import Derived.Below
import Derived.Test.YtebbjmdfjmnbbaaDoorTimesDraw
import Derived.Test.YtebbjmdfjmnbbaaDoorBytesOpen
import Derived.Lib.SmallJoins
namespace Go.Proofs.YtebbjmdfjmnbbaaDoor.fnTimes
open Go.ChangeShapes Go.WideShapes Go.ChangeAt Go.RowKit
set_option linter.unusedVariables false

theorem own : ownKnob Tryd.prog.godebug = none := by kernel_rfl
theorem laidOut : laidOutB Tryd.prog = true := by kernel_rfl
theorem g0 : Tryd.prog.globalNamed "math/bits.deBruijn32tab" = some 1 := by kernel_rfl
theorem gt0 : (Tryd.prog.globals[1]?).map (·.type) = some 64 := by kernel_rfl
theorem cells64 : Tryd.prog.cellsOf 64 = 32 := by kernel_rfl
theorem cells5 : Tryd.prog.cellsOf 5 = 1 := by kernel_rfl
def zs0 : List Int := [0, 1, 28, 2, 29, 14, 24, 3, 30, 22, 20, 15, 25, 17, 4, 8, 31, 27, 13, 23, 21, 19, 16, 7, 26, 12, 18, 6, 11, 5, 10, 9]
theorem table0 {W : World} (h : laidMet Tryd.prog Rows.fnTimesRow.laid W) : Lib.TabIs Tryd.prog W "math/bits.deBruijn32tab" .u8 zs0 :=
  Lib.tabIs_of_head g0 gt0 Tryd.underlying64 Tryd.underlying5 cells5 cells64 h
theorem g1 : Tryd.prog.globalNamed "math/bits.deBruijn64tab" = some 2 := by kernel_rfl
theorem gt1 : (Tryd.prog.globals[2]?).map (·.type) = some 65 := by kernel_rfl
theorem cells65 : Tryd.prog.cellsOf 65 = 64 := by kernel_rfl
def zs1 : List Int := [0, 1, 56, 2, 57, 49, 28, 3, 61, 58, 42, 50, 38, 29, 17, 4, 62, 47, 59, 36, 45, 43, 51, 22, 53, 39, 33, 30, 24, 18, 12, 5, 63, 55, 48, 27, 60, 41, 37, 16, 46, 35, 44, 21, 52, 32, 23, 11, 54, 26, 40, 15, 34, 20, 31, 10, 25, 14, 19, 9, 13, 8, 7, 6]
theorem table1 {W : World} (h : laidMet Tryd.prog Rows.fnTimesRow.laid W) : Lib.TabIs Tryd.prog W "math/bits.deBruijn64tab" .u8 zs1 :=
  Lib.tabIs_of_head g1 gt1 Tryd.underlying65 Tryd.underlying5 cells5 cells65 (laidMet.tail h)
theorem g2 : Tryd.prog.globalNamed "internal/strconv.uint64pow10" = some 0 := by kernel_rfl
theorem gt2 : (Tryd.prog.globals[0]?).map (·.type) = some 58 := by kernel_rfl
theorem cells58 : Tryd.prog.cellsOf 58 = 20 := by kernel_rfl
theorem cells50 : Tryd.prog.cellsOf 50 = 1 := by kernel_rfl
def zs2 : List Int := [1, 10, 100, 1000, 10000, 100000, 1000000, 10000000, 100000000, 1000000000, 10000000000, 100000000000, 1000000000000, 10000000000000, 100000000000000, 1000000000000000, 10000000000000000, 100000000000000000, 1000000000000000000, 10000000000000000000]
theorem table2 {W : World} (h : laidMet Tryd.prog Rows.fnTimesRow.laid W) : Lib.TabIs Tryd.prog W "internal/strconv.uint64pow10" .u64 zs2 :=
  Lib.tabIs_of_head g2 gt2 Tryd.underlying58 Tryd.underlying50 cells50 cells58 (laidMet.tail (laidMet.tail h))

set_option maxRecDepth 100000 in
set_option maxHeartbeats 2000000 in
theorem walk (a0 : Option Addr) (n0 cap0 : Nat) (z0 : List Int) (w : World) (w0 : IsBytes w a0 n0 cap0 z0) (tab0 : Lib.TabIs Tryd.prog w "math/bits.deBruijn32tab" .u8 zs0) (tab1 : Lib.TabIs Tryd.prog w "math/bits.deBruijn64tab" .u8 zs1) (tab2 : Lib.TabIs Tryd.prog w "internal/strconv.uint64pow10" .u64 zs2) :
    Calls Tryd.prog 3 #[.slice a0 n0 cap0] w fun e w' => e = .returned (.bool true) ∧ Below w.heap.size w w' := by
  have htab : Lib.TabIs Tryd.prog w "internal/strconv.uint64pow10" .u64 Lib.pow10Tab := tab2
  have HT : Hid (Lib.TabIs Tryd.prog w "internal/strconv.uint64pow10" .u64 Lib.pow10Tab) := htab
  clear tab0 tab1 tab2 htab
  have hmx := w0.mx
  have hle := w0.le
  by_cases hn : n0 ≤ 4096
  · go_enter Tryd.func3, Tryd.ntmps3
    go_wp2_with fail
    refine (big_any a0 n0 cap0 _ false (by simpa using hn)).mono ?_
    rintro e w' ⟨rfl, hq⟩; have hq' := hq.symm; clear hq; subst hq'
    go_wp2_with fail
    refine (drawLater_any a0 n0 cap0 z0 _ w0 hn).mono ?_
    rintro e w1 ⟨a, b, rfl, ba, bb, hb1⟩
    go_wp2_with (first | (go_at_call 6; refine (implLater_any _ _ _).mono ?_; rintro e w' ⟨rfl, hq⟩; have hq' := hq.symm; clear hq; subst hq') | (go_at_call 7; refine (implUntil_any _ _ _).mono ?_; rintro e w' ⟨rfl, hq⟩; have hq' := hq.symm; clear hq; subst hq') | (go_at_call 9; refine (implOverlap_any _ _ _ _ _).mono ?_; rintro e w' ⟨rfl, hq⟩; have hq' := hq.symm; clear hq; subst hq') | (go_at_call 11; refine (specLater_any _ _ _).mono ?_; rintro e w' ⟨rfl, hq⟩; have hq' := hq.symm; clear hq; subst hq') | (go_at_call 12; refine (specUntil_any _ _ _).mono ?_; rintro e w' ⟨rfl, hq⟩; have hq' := hq.symm; clear hq; subst hq') | (go_at_call 13; refine (specOverlap_any _ _ _ _ _).mono ?_; rintro e w' ⟨rfl, hq⟩; have hq' := hq.symm; clear hq; subst hq') | (go_at_call 16; refine (implOk_any _ _).mono ?_; rintro e w' ⟨rfl, hq⟩; have hq' := hq.symm; clear hq; subst hq') | (go_at_call 17; refine (specOk_any _ _).mono ?_; rintro e w' ⟨rfl, hq⟩; have hq' := hq.symm; clear hq; subst hq'))
    refine (drawOverlap_any a0 n0 cap0 z0 _ (w0.below hb1) hn).mono ?_
    rintro e w2 ⟨x, y, z, v, rfl, bx, by_, bz, bv, hb2⟩
    have V2 := hb1.trans (hb2.mono hb1.size)
    go_wp2_with (first | (go_at_call 6; refine (implLater_any _ _ _).mono ?_; rintro e w' ⟨rfl, hq⟩; have hq' := hq.symm; clear hq; subst hq') | (go_at_call 7; refine (implUntil_any _ _ _).mono ?_; rintro e w' ⟨rfl, hq⟩; have hq' := hq.symm; clear hq; subst hq') | (go_at_call 9; refine (implOverlap_any _ _ _ _ _).mono ?_; rintro e w' ⟨rfl, hq⟩; have hq' := hq.symm; clear hq; subst hq') | (go_at_call 11; refine (specLater_any _ _ _).mono ?_; rintro e w' ⟨rfl, hq⟩; have hq' := hq.symm; clear hq; subst hq') | (go_at_call 12; refine (specUntil_any _ _ _).mono ?_; rintro e w' ⟨rfl, hq⟩; have hq' := hq.symm; clear hq; subst hq') | (go_at_call 13; refine (specOverlap_any _ _ _ _ _).mono ?_; rintro e w' ⟨rfl, hq⟩; have hq' := hq.symm; clear hq; subst hq') | (go_at_call 16; refine (implOk_any _ _).mono ?_; rintro e w' ⟨rfl, hq⟩; have hq' := hq.symm; clear hq; subst hq') | (go_at_call 17; refine (specOk_any _ _).mono ?_; rintro e w' ⟨rfl, hq⟩; have hq' := hq.symm; clear hq; subst hq'))
    refine (drawShowTime_any a0 n0 cap0 z0 _ (w0.below V2) hn).mono ?_
    rintro e w3 ⟨t, rfl, bt, hb3⟩
    have V3 := V2.trans (hb3.mono V2.size)
    have H3 : Hid (Lib.TabIs Tryd.prog w3 "internal/strconv.uint64pow10" .u64 Lib.pow10Tab) := Joins.tab_stays (by kernel_rfl : Tryd.prog.globalNamed "internal/strconv.uint64pow10" = some 0) HT.out V3 (Nat.le_refl _)
    go_wp2_with (first | (go_at_call 6; refine (implLater_any _ _ _).mono ?_; rintro e w' ⟨rfl, hq⟩; have hq' := hq.symm; clear hq; subst hq') | (go_at_call 7; refine (implUntil_any _ _ _).mono ?_; rintro e w' ⟨rfl, hq⟩; have hq' := hq.symm; clear hq; subst hq') | (go_at_call 9; refine (implOverlap_any _ _ _ _ _).mono ?_; rintro e w' ⟨rfl, hq⟩; have hq' := hq.symm; clear hq; subst hq') | (go_at_call 11; refine (specLater_any _ _ _).mono ?_; rintro e w' ⟨rfl, hq⟩; have hq' := hq.symm; clear hq; subst hq') | (go_at_call 12; refine (specUntil_any _ _ _).mono ?_; rintro e w' ⟨rfl, hq⟩; have hq' := hq.symm; clear hq; subst hq') | (go_at_call 13; refine (specOverlap_any _ _ _ _ _).mono ?_; rintro e w' ⟨rfl, hq⟩; have hq' := hq.symm; clear hq; subst hq') | (go_at_call 16; refine (implOk_any _ _).mono ?_; rintro e w' ⟨rfl, hq⟩; have hq' := hq.symm; clear hq; subst hq') | (go_at_call 17; refine (specOk_any _ _).mono ?_; rintro e w' ⟨rfl, hq⟩; have hq' := hq.symm; clear hq; subst hq'))
    refine (implShow_any _ _ H3.out).mono ?_
    rintro e w4 ⟨rfl, hb4⟩
    have V4 := V3.trans (hb4.mono V3.size)
    go_wp2_with (first | (go_at_call 6; refine (implLater_any _ _ _).mono ?_; rintro e w' ⟨rfl, hq⟩; have hq' := hq.symm; clear hq; subst hq') | (go_at_call 7; refine (implUntil_any _ _ _).mono ?_; rintro e w' ⟨rfl, hq⟩; have hq' := hq.symm; clear hq; subst hq') | (go_at_call 9; refine (implOverlap_any _ _ _ _ _).mono ?_; rintro e w' ⟨rfl, hq⟩; have hq' := hq.symm; clear hq; subst hq') | (go_at_call 11; refine (specLater_any _ _ _).mono ?_; rintro e w' ⟨rfl, hq⟩; have hq' := hq.symm; clear hq; subst hq') | (go_at_call 12; refine (specUntil_any _ _ _).mono ?_; rintro e w' ⟨rfl, hq⟩; have hq' := hq.symm; clear hq; subst hq') | (go_at_call 13; refine (specOverlap_any _ _ _ _ _).mono ?_; rintro e w' ⟨rfl, hq⟩; have hq' := hq.symm; clear hq; subst hq') | (go_at_call 16; refine (implOk_any _ _).mono ?_; rintro e w' ⟨rfl, hq⟩; have hq' := hq.symm; clear hq; subst hq') | (go_at_call 17; refine (specOk_any _ _).mono ?_; rintro e w' ⟨rfl, hq⟩; have hq' := hq.symm; clear hq; subst hq'))
    refine (specShow_any _ _).mono ?_
    rintro e w5 ⟨rfl, hb5⟩
    have V5 := V4.trans (hb5.mono V4.size)
    have H5 : Hid (Lib.TabIs Tryd.prog w5 "internal/strconv.uint64pow10" .u64 Lib.pow10Tab) := Joins.tab_stays (by kernel_rfl : Tryd.prog.globalNamed "internal/strconv.uint64pow10" = some 0) HT.out V5 (Nat.le_refl _)
    go_wp2_with (first | (go_at_call 6; refine (implLater_any _ _ _).mono ?_; rintro e w' ⟨rfl, hq⟩; have hq' := hq.symm; clear hq; subst hq') | (go_at_call 7; refine (implUntil_any _ _ _).mono ?_; rintro e w' ⟨rfl, hq⟩; have hq' := hq.symm; clear hq; subst hq') | (go_at_call 9; refine (implOverlap_any _ _ _ _ _).mono ?_; rintro e w' ⟨rfl, hq⟩; have hq' := hq.symm; clear hq; subst hq') | (go_at_call 11; refine (specLater_any _ _ _).mono ?_; rintro e w' ⟨rfl, hq⟩; have hq' := hq.symm; clear hq; subst hq') | (go_at_call 12; refine (specUntil_any _ _ _).mono ?_; rintro e w' ⟨rfl, hq⟩; have hq' := hq.symm; clear hq; subst hq') | (go_at_call 13; refine (specOverlap_any _ _ _ _ _).mono ?_; rintro e w' ⟨rfl, hq⟩; have hq' := hq.symm; clear hq; subst hq') | (go_at_call 16; refine (implOk_any _ _).mono ?_; rintro e w' ⟨rfl, hq⟩; have hq' := hq.symm; clear hq; subst hq') | (go_at_call 17; refine (specOk_any _ _).mono ?_; rintro e w' ⟨rfl, hq⟩; have hq' := hq.symm; clear hq; subst hq'))
    have OS : overI z v x y = overI x y z v := over_sym x y z v
    have HE : Hid ((okB t = true ∧ ∃ c l, showT t = c :: l) ∨ (okB t = false ∧ showT t = [])) := by
      by_cases ct : okB t = true
      · refine Or.inl ⟨ct, ?_⟩
        cases e : showT t with
        | nil => rw [(show_empty t).1 e] at ct; cases ct
        | cons c l => exact ⟨c, l, rfl⟩
      · have ct' : okB t = false := by simpa using ct
        exact Or.inr ⟨ct', (show_empty t).2 ct'⟩
    have HL : Hid (0 < overI x y z v → overI x y z v ≤ faceI untilI x y ∧ overI x y z v ≤ faceI untilI z v) := over_le x y z v
    have E6 := implShow_any t w5 H5.out
    obtain ⟨st, se, Hst⟩ : ∃ (st : List UInt8) (se : Bool), st.isEmpty = se ∧ okB t = !se ∧ Hid (showT t = st) := by
      rcases HE.out with ⟨ct, c, l, e⟩ | ⟨ct, e⟩
      · exact ⟨c :: l, false, rfl, by rw [ct]; rfl, e⟩
      · exact ⟨[], true, rfl, by rw [ct]; rfl, e⟩
    obtain ⟨se1, se2, se3⟩ := Hst
    rw [se3.out] at E6
    have HE6 : Hid (Calls Tryd.prog 14 #[.int .i64 t] w5 fun e w' => e = .returned (.string ⟨st.toArray⟩) ∧ Below w5.heap.size w5 w') := E6
    clear E6 HE
    cases se with
    | true =>
      refine HE6.out.mono ?_
      rintro e w6 ⟨rfl, hb6⟩
      have V6 := V5.trans (hb6.mono V5.size)
      by_cases ho : 0 < overI x y z v
      · obtain ⟨o1, o2⟩ := HL.out ho
        by_cases ca : okB a = true
        · by_cases cb : okB b = true
          · have LC : faceI laterI b a = faceI laterI a b := later_comm a b
            have fl : 0 ≤ faceI laterI a b := by rw [face_tt ca cb]; have := okB_t (later_ok ca cb); omega
            have fa : a ≤ faceI laterI a b := by rw [face_tt ca cb]; have := okB_t ca; have := okB_t cb; unfold laterI; split <;> omega
            go_wp2_with (first | (go_at_call 6; refine (implLater_any _ _ _).mono ?_; rintro e w' ⟨rfl, hq⟩; have hq' := hq.symm; clear hq; subst hq') | (go_at_call 7; refine (implUntil_any _ _ _).mono ?_; rintro e w' ⟨rfl, hq⟩; have hq' := hq.symm; clear hq; subst hq') | (go_at_call 9; refine (implOverlap_any _ _ _ _ _).mono ?_; rintro e w' ⟨rfl, hq⟩; have hq' := hq.symm; clear hq; subst hq') | (go_at_call 11; refine (specLater_any _ _ _).mono ?_; rintro e w' ⟨rfl, hq⟩; have hq' := hq.symm; clear hq; subst hq') | (go_at_call 12; refine (specUntil_any _ _ _).mono ?_; rintro e w' ⟨rfl, hq⟩; have hq' := hq.symm; clear hq; subst hq') | (go_at_call 13; refine (specOverlap_any _ _ _ _ _).mono ?_; rintro e w' ⟨rfl, hq⟩; have hq' := hq.symm; clear hq; subst hq') | (go_at_call 16; refine (implOk_any _ _).mono ?_; rintro e w' ⟨rfl, hq⟩; have hq' := hq.symm; clear hq; subst hq') | (go_at_call 17; refine (specOk_any _ _).mono ?_; rintro e w' ⟨rfl, hq⟩; have hq' := hq.symm; clear hq; subst hq'))
            refine (pick_any a0 n0 cap0 z0 1 30 _ (w0.below V6) hn (by omega) (by omega) (by omega) (by omega)).mono ?_
            rintro e w' ⟨c, rfl, c0, c1, hq⟩
            have hq' := hq.symm; clear hq; subst hq'
            have cc : okB c = true := by unfold okB; exact (by unfold inB; simp; omega)
            have LA : faceI laterI a (faceI laterI b c) = faceI laterI (faceI laterI a b) c := by
              rw [face_tt cb cc, face_tt ca cb, face_tt ca (later_ok cb cc), face_tt (later_ok ca cb) cc, later_assoc ca cb cc]
            have LN : faceI laterI 1000000000 c = 1000000000 := by
              rw [face_tt (by decide) cc]; unfold laterI; rw [if_neg (by omega)]
            by_cases g1 : b < a
            · go_wp2_with (first | (go_at_call 6; refine (implLater_any _ _ _).mono ?_; rintro e w' ⟨rfl, hq⟩; have hq' := hq.symm; clear hq; subst hq') | (go_at_call 7; refine (implUntil_any _ _ _).mono ?_; rintro e w' ⟨rfl, hq⟩; have hq' := hq.symm; clear hq; subst hq') | (go_at_call 9; refine (implOverlap_any _ _ _ _ _).mono ?_; rintro e w' ⟨rfl, hq⟩; have hq' := hq.symm; clear hq; subst hq') | (go_at_call 11; refine (specLater_any _ _ _).mono ?_; rintro e w' ⟨rfl, hq⟩; have hq' := hq.symm; clear hq; subst hq') | (go_at_call 12; refine (specUntil_any _ _ _).mono ?_; rintro e w' ⟨rfl, hq⟩; have hq' := hq.symm; clear hq; subst hq') | (go_at_call 13; refine (specOverlap_any _ _ _ _ _).mono ?_; rintro e w' ⟨rfl, hq⟩; have hq' := hq.symm; clear hq; subst hq') | (go_at_call 16; refine (implOk_any _ _).mono ?_; rintro e w' ⟨rfl, hq⟩; have hq' := hq.symm; clear hq; subst hq') | (go_at_call 17; refine (specOk_any _ _).mono ?_; rintro e w' ⟨rfl, hq⟩; have hq' := hq.symm; clear hq; subst hq'))
              go_ret
              exact ⟨by first | rfl | (exact ret_bool (by simp_all)), V6⟩
            · by_cases g2 : b = 1000000000
              · have g2' : (b == 1000000000) = true := by simpa using g2
                clear g2
                go_wp2_with (first | (go_at_call 6; refine (implLater_any _ _ _).mono ?_; rintro e w' ⟨rfl, hq⟩; have hq' := hq.symm; clear hq; subst hq') | (go_at_call 7; refine (implUntil_any _ _ _).mono ?_; rintro e w' ⟨rfl, hq⟩; have hq' := hq.symm; clear hq; subst hq') | (go_at_call 9; refine (implOverlap_any _ _ _ _ _).mono ?_; rintro e w' ⟨rfl, hq⟩; have hq' := hq.symm; clear hq; subst hq') | (go_at_call 11; refine (specLater_any _ _ _).mono ?_; rintro e w' ⟨rfl, hq⟩; have hq' := hq.symm; clear hq; subst hq') | (go_at_call 12; refine (specUntil_any _ _ _).mono ?_; rintro e w' ⟨rfl, hq⟩; have hq' := hq.symm; clear hq; subst hq') | (go_at_call 13; refine (specOverlap_any _ _ _ _ _).mono ?_; rintro e w' ⟨rfl, hq⟩; have hq' := hq.symm; clear hq; subst hq') | (go_at_call 16; refine (implOk_any _ _).mono ?_; rintro e w' ⟨rfl, hq⟩; have hq' := hq.symm; clear hq; subst hq') | (go_at_call 17; refine (specOk_any _ _).mono ?_; rintro e w' ⟨rfl, hq⟩; have hq' := hq.symm; clear hq; subst hq'))
                go_ret
                exact ⟨by first | rfl | (exact ret_bool (by simp_all)), V6⟩
              · have g2' : (b == 1000000000) = false := by simpa using g2
                have LU : faceI laterI a (faceI untilI a b) = b := by
                  have h1 := okB_t ca
                  have h2 := okB_t cb
                  have hu : untilI a b = b - a := by
                    unfold untilI; rw [if_neg (by omega)]; split <;> omega
                  have ok : okB (untilI a b) = true := by rw [hu]; unfold okB inB; simp; omega
                  rw [face_tt ca cb, face_tt ca ok, hu]; unfold laterI; split <;> omega
                clear g2
                go_wp2_with (first | (go_at_call 6; refine (implLater_any _ _ _).mono ?_; rintro e w' ⟨rfl, hq⟩; have hq' := hq.symm; clear hq; subst hq') | (go_at_call 7; refine (implUntil_any _ _ _).mono ?_; rintro e w' ⟨rfl, hq⟩; have hq' := hq.symm; clear hq; subst hq') | (go_at_call 9; refine (implOverlap_any _ _ _ _ _).mono ?_; rintro e w' ⟨rfl, hq⟩; have hq' := hq.symm; clear hq; subst hq') | (go_at_call 11; refine (specLater_any _ _ _).mono ?_; rintro e w' ⟨rfl, hq⟩; have hq' := hq.symm; clear hq; subst hq') | (go_at_call 12; refine (specUntil_any _ _ _).mono ?_; rintro e w' ⟨rfl, hq⟩; have hq' := hq.symm; clear hq; subst hq') | (go_at_call 13; refine (specOverlap_any _ _ _ _ _).mono ?_; rintro e w' ⟨rfl, hq⟩; have hq' := hq.symm; clear hq; subst hq') | (go_at_call 16; refine (implOk_any _ _).mono ?_; rintro e w' ⟨rfl, hq⟩; have hq' := hq.symm; clear hq; subst hq') | (go_at_call 17; refine (specOk_any _ _).mono ?_; rintro e w' ⟨rfl, hq⟩; have hq' := hq.symm; clear hq; subst hq'))
                go_ret
                exact ⟨by first | rfl | (exact ret_bool (by simp_all)), V6⟩
          · simp only [Bool.not_eq_true] at cb
            have fl : faceI laterI a b < 0 := by rw [face_tf ca cb]; decide
            go_wp2_with (first | (go_at_call 6; refine (implLater_any _ _ _).mono ?_; rintro e w' ⟨rfl, hq⟩; have hq' := hq.symm; clear hq; subst hq') | (go_at_call 7; refine (implUntil_any _ _ _).mono ?_; rintro e w' ⟨rfl, hq⟩; have hq' := hq.symm; clear hq; subst hq') | (go_at_call 9; refine (implOverlap_any _ _ _ _ _).mono ?_; rintro e w' ⟨rfl, hq⟩; have hq' := hq.symm; clear hq; subst hq') | (go_at_call 11; refine (specLater_any _ _ _).mono ?_; rintro e w' ⟨rfl, hq⟩; have hq' := hq.symm; clear hq; subst hq') | (go_at_call 12; refine (specUntil_any _ _ _).mono ?_; rintro e w' ⟨rfl, hq⟩; have hq' := hq.symm; clear hq; subst hq') | (go_at_call 13; refine (specOverlap_any _ _ _ _ _).mono ?_; rintro e w' ⟨rfl, hq⟩; have hq' := hq.symm; clear hq; subst hq') | (go_at_call 16; refine (implOk_any _ _).mono ?_; rintro e w' ⟨rfl, hq⟩; have hq' := hq.symm; clear hq; subst hq') | (go_at_call 17; refine (specOk_any _ _).mono ?_; rintro e w' ⟨rfl, hq⟩; have hq' := hq.symm; clear hq; subst hq'))
            go_ret
            exact ⟨by first | rfl | (exact ret_bool (by simp_all)), V6⟩
        · simp only [Bool.not_eq_true] at ca
          have fl : faceI laterI a b < 0 := by rw [face_f ca]; decide
          go_wp2_with (first | (go_at_call 6; refine (implLater_any _ _ _).mono ?_; rintro e w' ⟨rfl, hq⟩; have hq' := hq.symm; clear hq; subst hq') | (go_at_call 7; refine (implUntil_any _ _ _).mono ?_; rintro e w' ⟨rfl, hq⟩; have hq' := hq.symm; clear hq; subst hq') | (go_at_call 9; refine (implOverlap_any _ _ _ _ _).mono ?_; rintro e w' ⟨rfl, hq⟩; have hq' := hq.symm; clear hq; subst hq') | (go_at_call 11; refine (specLater_any _ _ _).mono ?_; rintro e w' ⟨rfl, hq⟩; have hq' := hq.symm; clear hq; subst hq') | (go_at_call 12; refine (specUntil_any _ _ _).mono ?_; rintro e w' ⟨rfl, hq⟩; have hq' := hq.symm; clear hq; subst hq') | (go_at_call 13; refine (specOverlap_any _ _ _ _ _).mono ?_; rintro e w' ⟨rfl, hq⟩; have hq' := hq.symm; clear hq; subst hq') | (go_at_call 16; refine (implOk_any _ _).mono ?_; rintro e w' ⟨rfl, hq⟩; have hq' := hq.symm; clear hq; subst hq') | (go_at_call 17; refine (specOk_any _ _).mono ?_; rintro e w' ⟨rfl, hq⟩; have hq' := hq.symm; clear hq; subst hq'))
          go_ret
          exact ⟨by first | rfl | (exact ret_bool (by simp_all)), V6⟩
      · by_cases ca : okB a = true
        · by_cases cb : okB b = true
          · have LC : faceI laterI b a = faceI laterI a b := later_comm a b
            have fl : 0 ≤ faceI laterI a b := by rw [face_tt ca cb]; have := okB_t (later_ok ca cb); omega
            have fa : a ≤ faceI laterI a b := by rw [face_tt ca cb]; have := okB_t ca; have := okB_t cb; unfold laterI; split <;> omega
            go_wp2_with (first | (go_at_call 6; refine (implLater_any _ _ _).mono ?_; rintro e w' ⟨rfl, hq⟩; have hq' := hq.symm; clear hq; subst hq') | (go_at_call 7; refine (implUntil_any _ _ _).mono ?_; rintro e w' ⟨rfl, hq⟩; have hq' := hq.symm; clear hq; subst hq') | (go_at_call 9; refine (implOverlap_any _ _ _ _ _).mono ?_; rintro e w' ⟨rfl, hq⟩; have hq' := hq.symm; clear hq; subst hq') | (go_at_call 11; refine (specLater_any _ _ _).mono ?_; rintro e w' ⟨rfl, hq⟩; have hq' := hq.symm; clear hq; subst hq') | (go_at_call 12; refine (specUntil_any _ _ _).mono ?_; rintro e w' ⟨rfl, hq⟩; have hq' := hq.symm; clear hq; subst hq') | (go_at_call 13; refine (specOverlap_any _ _ _ _ _).mono ?_; rintro e w' ⟨rfl, hq⟩; have hq' := hq.symm; clear hq; subst hq') | (go_at_call 16; refine (implOk_any _ _).mono ?_; rintro e w' ⟨rfl, hq⟩; have hq' := hq.symm; clear hq; subst hq') | (go_at_call 17; refine (specOk_any _ _).mono ?_; rintro e w' ⟨rfl, hq⟩; have hq' := hq.symm; clear hq; subst hq'))
            refine (pick_any a0 n0 cap0 z0 1 30 _ (w0.below V6) hn (by omega) (by omega) (by omega) (by omega)).mono ?_
            rintro e w' ⟨c, rfl, c0, c1, hq⟩
            have hq' := hq.symm; clear hq; subst hq'
            have cc : okB c = true := by unfold okB; exact (by unfold inB; simp; omega)
            have LA : faceI laterI a (faceI laterI b c) = faceI laterI (faceI laterI a b) c := by
              rw [face_tt cb cc, face_tt ca cb, face_tt ca (later_ok cb cc), face_tt (later_ok ca cb) cc, later_assoc ca cb cc]
            have LN : faceI laterI 1000000000 c = 1000000000 := by
              rw [face_tt (by decide) cc]; unfold laterI; rw [if_neg (by omega)]
            by_cases g1 : b < a
            · go_wp2_with (first | (go_at_call 6; refine (implLater_any _ _ _).mono ?_; rintro e w' ⟨rfl, hq⟩; have hq' := hq.symm; clear hq; subst hq') | (go_at_call 7; refine (implUntil_any _ _ _).mono ?_; rintro e w' ⟨rfl, hq⟩; have hq' := hq.symm; clear hq; subst hq') | (go_at_call 9; refine (implOverlap_any _ _ _ _ _).mono ?_; rintro e w' ⟨rfl, hq⟩; have hq' := hq.symm; clear hq; subst hq') | (go_at_call 11; refine (specLater_any _ _ _).mono ?_; rintro e w' ⟨rfl, hq⟩; have hq' := hq.symm; clear hq; subst hq') | (go_at_call 12; refine (specUntil_any _ _ _).mono ?_; rintro e w' ⟨rfl, hq⟩; have hq' := hq.symm; clear hq; subst hq') | (go_at_call 13; refine (specOverlap_any _ _ _ _ _).mono ?_; rintro e w' ⟨rfl, hq⟩; have hq' := hq.symm; clear hq; subst hq') | (go_at_call 16; refine (implOk_any _ _).mono ?_; rintro e w' ⟨rfl, hq⟩; have hq' := hq.symm; clear hq; subst hq') | (go_at_call 17; refine (specOk_any _ _).mono ?_; rintro e w' ⟨rfl, hq⟩; have hq' := hq.symm; clear hq; subst hq'))
              go_ret
              exact ⟨by first | rfl | (exact ret_bool (by simp_all)), V6⟩
            · by_cases g2 : b = 1000000000
              · have g2' : (b == 1000000000) = true := by simpa using g2
                clear g2
                go_wp2_with (first | (go_at_call 6; refine (implLater_any _ _ _).mono ?_; rintro e w' ⟨rfl, hq⟩; have hq' := hq.symm; clear hq; subst hq') | (go_at_call 7; refine (implUntil_any _ _ _).mono ?_; rintro e w' ⟨rfl, hq⟩; have hq' := hq.symm; clear hq; subst hq') | (go_at_call 9; refine (implOverlap_any _ _ _ _ _).mono ?_; rintro e w' ⟨rfl, hq⟩; have hq' := hq.symm; clear hq; subst hq') | (go_at_call 11; refine (specLater_any _ _ _).mono ?_; rintro e w' ⟨rfl, hq⟩; have hq' := hq.symm; clear hq; subst hq') | (go_at_call 12; refine (specUntil_any _ _ _).mono ?_; rintro e w' ⟨rfl, hq⟩; have hq' := hq.symm; clear hq; subst hq') | (go_at_call 13; refine (specOverlap_any _ _ _ _ _).mono ?_; rintro e w' ⟨rfl, hq⟩; have hq' := hq.symm; clear hq; subst hq') | (go_at_call 16; refine (implOk_any _ _).mono ?_; rintro e w' ⟨rfl, hq⟩; have hq' := hq.symm; clear hq; subst hq') | (go_at_call 17; refine (specOk_any _ _).mono ?_; rintro e w' ⟨rfl, hq⟩; have hq' := hq.symm; clear hq; subst hq'))
                go_ret
                exact ⟨by first | rfl | (exact ret_bool (by simp_all)), V6⟩
              · have g2' : (b == 1000000000) = false := by simpa using g2
                have LU : faceI laterI a (faceI untilI a b) = b := by
                  have h1 := okB_t ca
                  have h2 := okB_t cb
                  have hu : untilI a b = b - a := by
                    unfold untilI; rw [if_neg (by omega)]; split <;> omega
                  have ok : okB (untilI a b) = true := by rw [hu]; unfold okB inB; simp; omega
                  rw [face_tt ca cb, face_tt ca ok, hu]; unfold laterI; split <;> omega
                clear g2
                go_wp2_with (first | (go_at_call 6; refine (implLater_any _ _ _).mono ?_; rintro e w' ⟨rfl, hq⟩; have hq' := hq.symm; clear hq; subst hq') | (go_at_call 7; refine (implUntil_any _ _ _).mono ?_; rintro e w' ⟨rfl, hq⟩; have hq' := hq.symm; clear hq; subst hq') | (go_at_call 9; refine (implOverlap_any _ _ _ _ _).mono ?_; rintro e w' ⟨rfl, hq⟩; have hq' := hq.symm; clear hq; subst hq') | (go_at_call 11; refine (specLater_any _ _ _).mono ?_; rintro e w' ⟨rfl, hq⟩; have hq' := hq.symm; clear hq; subst hq') | (go_at_call 12; refine (specUntil_any _ _ _).mono ?_; rintro e w' ⟨rfl, hq⟩; have hq' := hq.symm; clear hq; subst hq') | (go_at_call 13; refine (specOverlap_any _ _ _ _ _).mono ?_; rintro e w' ⟨rfl, hq⟩; have hq' := hq.symm; clear hq; subst hq') | (go_at_call 16; refine (implOk_any _ _).mono ?_; rintro e w' ⟨rfl, hq⟩; have hq' := hq.symm; clear hq; subst hq') | (go_at_call 17; refine (specOk_any _ _).mono ?_; rintro e w' ⟨rfl, hq⟩; have hq' := hq.symm; clear hq; subst hq'))
                go_ret
                exact ⟨by first | rfl | (exact ret_bool (by simp_all)), V6⟩
          · simp only [Bool.not_eq_true] at cb
            have fl : faceI laterI a b < 0 := by rw [face_tf ca cb]; decide
            go_wp2_with (first | (go_at_call 6; refine (implLater_any _ _ _).mono ?_; rintro e w' ⟨rfl, hq⟩; have hq' := hq.symm; clear hq; subst hq') | (go_at_call 7; refine (implUntil_any _ _ _).mono ?_; rintro e w' ⟨rfl, hq⟩; have hq' := hq.symm; clear hq; subst hq') | (go_at_call 9; refine (implOverlap_any _ _ _ _ _).mono ?_; rintro e w' ⟨rfl, hq⟩; have hq' := hq.symm; clear hq; subst hq') | (go_at_call 11; refine (specLater_any _ _ _).mono ?_; rintro e w' ⟨rfl, hq⟩; have hq' := hq.symm; clear hq; subst hq') | (go_at_call 12; refine (specUntil_any _ _ _).mono ?_; rintro e w' ⟨rfl, hq⟩; have hq' := hq.symm; clear hq; subst hq') | (go_at_call 13; refine (specOverlap_any _ _ _ _ _).mono ?_; rintro e w' ⟨rfl, hq⟩; have hq' := hq.symm; clear hq; subst hq') | (go_at_call 16; refine (implOk_any _ _).mono ?_; rintro e w' ⟨rfl, hq⟩; have hq' := hq.symm; clear hq; subst hq') | (go_at_call 17; refine (specOk_any _ _).mono ?_; rintro e w' ⟨rfl, hq⟩; have hq' := hq.symm; clear hq; subst hq'))
            go_ret
            exact ⟨by first | rfl | (exact ret_bool (by simp_all)), V6⟩
        · simp only [Bool.not_eq_true] at ca
          have fl : faceI laterI a b < 0 := by rw [face_f ca]; decide
          go_wp2_with (first | (go_at_call 6; refine (implLater_any _ _ _).mono ?_; rintro e w' ⟨rfl, hq⟩; have hq' := hq.symm; clear hq; subst hq') | (go_at_call 7; refine (implUntil_any _ _ _).mono ?_; rintro e w' ⟨rfl, hq⟩; have hq' := hq.symm; clear hq; subst hq') | (go_at_call 9; refine (implOverlap_any _ _ _ _ _).mono ?_; rintro e w' ⟨rfl, hq⟩; have hq' := hq.symm; clear hq; subst hq') | (go_at_call 11; refine (specLater_any _ _ _).mono ?_; rintro e w' ⟨rfl, hq⟩; have hq' := hq.symm; clear hq; subst hq') | (go_at_call 12; refine (specUntil_any _ _ _).mono ?_; rintro e w' ⟨rfl, hq⟩; have hq' := hq.symm; clear hq; subst hq') | (go_at_call 13; refine (specOverlap_any _ _ _ _ _).mono ?_; rintro e w' ⟨rfl, hq⟩; have hq' := hq.symm; clear hq; subst hq') | (go_at_call 16; refine (implOk_any _ _).mono ?_; rintro e w' ⟨rfl, hq⟩; have hq' := hq.symm; clear hq; subst hq') | (go_at_call 17; refine (specOk_any _ _).mono ?_; rintro e w' ⟨rfl, hq⟩; have hq' := hq.symm; clear hq; subst hq'))
          go_ret
          exact ⟨by first | rfl | (exact ret_bool (by simp_all)), V6⟩
    | false =>
      refine HE6.out.mono ?_
      rintro e w6 ⟨rfl, hb6⟩
      have V6 := V5.trans (hb6.mono V5.size)
      by_cases ho : 0 < overI x y z v
      · obtain ⟨o1, o2⟩ := HL.out ho
        by_cases ca : okB a = true
        · by_cases cb : okB b = true
          · have LC : faceI laterI b a = faceI laterI a b := later_comm a b
            have fl : 0 ≤ faceI laterI a b := by rw [face_tt ca cb]; have := okB_t (later_ok ca cb); omega
            have fa : a ≤ faceI laterI a b := by rw [face_tt ca cb]; have := okB_t ca; have := okB_t cb; unfold laterI; split <;> omega
            go_wp2_with (first | (go_at_call 6; refine (implLater_any _ _ _).mono ?_; rintro e w' ⟨rfl, hq⟩; have hq' := hq.symm; clear hq; subst hq') | (go_at_call 7; refine (implUntil_any _ _ _).mono ?_; rintro e w' ⟨rfl, hq⟩; have hq' := hq.symm; clear hq; subst hq') | (go_at_call 9; refine (implOverlap_any _ _ _ _ _).mono ?_; rintro e w' ⟨rfl, hq⟩; have hq' := hq.symm; clear hq; subst hq') | (go_at_call 11; refine (specLater_any _ _ _).mono ?_; rintro e w' ⟨rfl, hq⟩; have hq' := hq.symm; clear hq; subst hq') | (go_at_call 12; refine (specUntil_any _ _ _).mono ?_; rintro e w' ⟨rfl, hq⟩; have hq' := hq.symm; clear hq; subst hq') | (go_at_call 13; refine (specOverlap_any _ _ _ _ _).mono ?_; rintro e w' ⟨rfl, hq⟩; have hq' := hq.symm; clear hq; subst hq') | (go_at_call 16; refine (implOk_any _ _).mono ?_; rintro e w' ⟨rfl, hq⟩; have hq' := hq.symm; clear hq; subst hq') | (go_at_call 17; refine (specOk_any _ _).mono ?_; rintro e w' ⟨rfl, hq⟩; have hq' := hq.symm; clear hq; subst hq'))
            refine (pick_any a0 n0 cap0 z0 1 30 _ (w0.below V6) hn (by omega) (by omega) (by omega) (by omega)).mono ?_
            rintro e w' ⟨c, rfl, c0, c1, hq⟩
            have hq' := hq.symm; clear hq; subst hq'
            have cc : okB c = true := by unfold okB; exact (by unfold inB; simp; omega)
            have LA : faceI laterI a (faceI laterI b c) = faceI laterI (faceI laterI a b) c := by
              rw [face_tt cb cc, face_tt ca cb, face_tt ca (later_ok cb cc), face_tt (later_ok ca cb) cc, later_assoc ca cb cc]
            have LN : faceI laterI 1000000000 c = 1000000000 := by
              rw [face_tt (by decide) cc]; unfold laterI; rw [if_neg (by omega)]
            by_cases g1 : b < a
            · go_wp2_with (first | (go_at_call 6; refine (implLater_any _ _ _).mono ?_; rintro e w' ⟨rfl, hq⟩; have hq' := hq.symm; clear hq; subst hq') | (go_at_call 7; refine (implUntil_any _ _ _).mono ?_; rintro e w' ⟨rfl, hq⟩; have hq' := hq.symm; clear hq; subst hq') | (go_at_call 9; refine (implOverlap_any _ _ _ _ _).mono ?_; rintro e w' ⟨rfl, hq⟩; have hq' := hq.symm; clear hq; subst hq') | (go_at_call 11; refine (specLater_any _ _ _).mono ?_; rintro e w' ⟨rfl, hq⟩; have hq' := hq.symm; clear hq; subst hq') | (go_at_call 12; refine (specUntil_any _ _ _).mono ?_; rintro e w' ⟨rfl, hq⟩; have hq' := hq.symm; clear hq; subst hq') | (go_at_call 13; refine (specOverlap_any _ _ _ _ _).mono ?_; rintro e w' ⟨rfl, hq⟩; have hq' := hq.symm; clear hq; subst hq') | (go_at_call 16; refine (implOk_any _ _).mono ?_; rintro e w' ⟨rfl, hq⟩; have hq' := hq.symm; clear hq; subst hq') | (go_at_call 17; refine (specOk_any _ _).mono ?_; rintro e w' ⟨rfl, hq⟩; have hq' := hq.symm; clear hq; subst hq'))
              go_ret
              exact ⟨by first | rfl | (exact ret_bool (by simp_all)), V6⟩
            · by_cases g2 : b = 1000000000
              · have g2' : (b == 1000000000) = true := by simpa using g2
                clear g2
                go_wp2_with (first | (go_at_call 6; refine (implLater_any _ _ _).mono ?_; rintro e w' ⟨rfl, hq⟩; have hq' := hq.symm; clear hq; subst hq') | (go_at_call 7; refine (implUntil_any _ _ _).mono ?_; rintro e w' ⟨rfl, hq⟩; have hq' := hq.symm; clear hq; subst hq') | (go_at_call 9; refine (implOverlap_any _ _ _ _ _).mono ?_; rintro e w' ⟨rfl, hq⟩; have hq' := hq.symm; clear hq; subst hq') | (go_at_call 11; refine (specLater_any _ _ _).mono ?_; rintro e w' ⟨rfl, hq⟩; have hq' := hq.symm; clear hq; subst hq') | (go_at_call 12; refine (specUntil_any _ _ _).mono ?_; rintro e w' ⟨rfl, hq⟩; have hq' := hq.symm; clear hq; subst hq') | (go_at_call 13; refine (specOverlap_any _ _ _ _ _).mono ?_; rintro e w' ⟨rfl, hq⟩; have hq' := hq.symm; clear hq; subst hq') | (go_at_call 16; refine (implOk_any _ _).mono ?_; rintro e w' ⟨rfl, hq⟩; have hq' := hq.symm; clear hq; subst hq') | (go_at_call 17; refine (specOk_any _ _).mono ?_; rintro e w' ⟨rfl, hq⟩; have hq' := hq.symm; clear hq; subst hq'))
                go_ret
                exact ⟨by first | rfl | (exact ret_bool (by simp_all)), V6⟩
              · have g2' : (b == 1000000000) = false := by simpa using g2
                have LU : faceI laterI a (faceI untilI a b) = b := by
                  have h1 := okB_t ca
                  have h2 := okB_t cb
                  have hu : untilI a b = b - a := by
                    unfold untilI; rw [if_neg (by omega)]; split <;> omega
                  have ok : okB (untilI a b) = true := by rw [hu]; unfold okB inB; simp; omega
                  rw [face_tt ca cb, face_tt ca ok, hu]; unfold laterI; split <;> omega
                clear g2
                go_wp2_with (first | (go_at_call 6; refine (implLater_any _ _ _).mono ?_; rintro e w' ⟨rfl, hq⟩; have hq' := hq.symm; clear hq; subst hq') | (go_at_call 7; refine (implUntil_any _ _ _).mono ?_; rintro e w' ⟨rfl, hq⟩; have hq' := hq.symm; clear hq; subst hq') | (go_at_call 9; refine (implOverlap_any _ _ _ _ _).mono ?_; rintro e w' ⟨rfl, hq⟩; have hq' := hq.symm; clear hq; subst hq') | (go_at_call 11; refine (specLater_any _ _ _).mono ?_; rintro e w' ⟨rfl, hq⟩; have hq' := hq.symm; clear hq; subst hq') | (go_at_call 12; refine (specUntil_any _ _ _).mono ?_; rintro e w' ⟨rfl, hq⟩; have hq' := hq.symm; clear hq; subst hq') | (go_at_call 13; refine (specOverlap_any _ _ _ _ _).mono ?_; rintro e w' ⟨rfl, hq⟩; have hq' := hq.symm; clear hq; subst hq') | (go_at_call 16; refine (implOk_any _ _).mono ?_; rintro e w' ⟨rfl, hq⟩; have hq' := hq.symm; clear hq; subst hq') | (go_at_call 17; refine (specOk_any _ _).mono ?_; rintro e w' ⟨rfl, hq⟩; have hq' := hq.symm; clear hq; subst hq'))
                go_ret
                exact ⟨by first | rfl | (exact ret_bool (by simp_all)), V6⟩
          · simp only [Bool.not_eq_true] at cb
            have fl : faceI laterI a b < 0 := by rw [face_tf ca cb]; decide
            go_wp2_with (first | (go_at_call 6; refine (implLater_any _ _ _).mono ?_; rintro e w' ⟨rfl, hq⟩; have hq' := hq.symm; clear hq; subst hq') | (go_at_call 7; refine (implUntil_any _ _ _).mono ?_; rintro e w' ⟨rfl, hq⟩; have hq' := hq.symm; clear hq; subst hq') | (go_at_call 9; refine (implOverlap_any _ _ _ _ _).mono ?_; rintro e w' ⟨rfl, hq⟩; have hq' := hq.symm; clear hq; subst hq') | (go_at_call 11; refine (specLater_any _ _ _).mono ?_; rintro e w' ⟨rfl, hq⟩; have hq' := hq.symm; clear hq; subst hq') | (go_at_call 12; refine (specUntil_any _ _ _).mono ?_; rintro e w' ⟨rfl, hq⟩; have hq' := hq.symm; clear hq; subst hq') | (go_at_call 13; refine (specOverlap_any _ _ _ _ _).mono ?_; rintro e w' ⟨rfl, hq⟩; have hq' := hq.symm; clear hq; subst hq') | (go_at_call 16; refine (implOk_any _ _).mono ?_; rintro e w' ⟨rfl, hq⟩; have hq' := hq.symm; clear hq; subst hq') | (go_at_call 17; refine (specOk_any _ _).mono ?_; rintro e w' ⟨rfl, hq⟩; have hq' := hq.symm; clear hq; subst hq'))
            go_ret
            exact ⟨by first | rfl | (exact ret_bool (by simp_all)), V6⟩
        · simp only [Bool.not_eq_true] at ca
          have fl : faceI laterI a b < 0 := by rw [face_f ca]; decide
          go_wp2_with (first | (go_at_call 6; refine (implLater_any _ _ _).mono ?_; rintro e w' ⟨rfl, hq⟩; have hq' := hq.symm; clear hq; subst hq') | (go_at_call 7; refine (implUntil_any _ _ _).mono ?_; rintro e w' ⟨rfl, hq⟩; have hq' := hq.symm; clear hq; subst hq') | (go_at_call 9; refine (implOverlap_any _ _ _ _ _).mono ?_; rintro e w' ⟨rfl, hq⟩; have hq' := hq.symm; clear hq; subst hq') | (go_at_call 11; refine (specLater_any _ _ _).mono ?_; rintro e w' ⟨rfl, hq⟩; have hq' := hq.symm; clear hq; subst hq') | (go_at_call 12; refine (specUntil_any _ _ _).mono ?_; rintro e w' ⟨rfl, hq⟩; have hq' := hq.symm; clear hq; subst hq') | (go_at_call 13; refine (specOverlap_any _ _ _ _ _).mono ?_; rintro e w' ⟨rfl, hq⟩; have hq' := hq.symm; clear hq; subst hq') | (go_at_call 16; refine (implOk_any _ _).mono ?_; rintro e w' ⟨rfl, hq⟩; have hq' := hq.symm; clear hq; subst hq') | (go_at_call 17; refine (specOk_any _ _).mono ?_; rintro e w' ⟨rfl, hq⟩; have hq' := hq.symm; clear hq; subst hq'))
          go_ret
          exact ⟨by first | rfl | (exact ret_bool (by simp_all)), V6⟩
      · by_cases ca : okB a = true
        · by_cases cb : okB b = true
          · have LC : faceI laterI b a = faceI laterI a b := later_comm a b
            have fl : 0 ≤ faceI laterI a b := by rw [face_tt ca cb]; have := okB_t (later_ok ca cb); omega
            have fa : a ≤ faceI laterI a b := by rw [face_tt ca cb]; have := okB_t ca; have := okB_t cb; unfold laterI; split <;> omega
            go_wp2_with (first | (go_at_call 6; refine (implLater_any _ _ _).mono ?_; rintro e w' ⟨rfl, hq⟩; have hq' := hq.symm; clear hq; subst hq') | (go_at_call 7; refine (implUntil_any _ _ _).mono ?_; rintro e w' ⟨rfl, hq⟩; have hq' := hq.symm; clear hq; subst hq') | (go_at_call 9; refine (implOverlap_any _ _ _ _ _).mono ?_; rintro e w' ⟨rfl, hq⟩; have hq' := hq.symm; clear hq; subst hq') | (go_at_call 11; refine (specLater_any _ _ _).mono ?_; rintro e w' ⟨rfl, hq⟩; have hq' := hq.symm; clear hq; subst hq') | (go_at_call 12; refine (specUntil_any _ _ _).mono ?_; rintro e w' ⟨rfl, hq⟩; have hq' := hq.symm; clear hq; subst hq') | (go_at_call 13; refine (specOverlap_any _ _ _ _ _).mono ?_; rintro e w' ⟨rfl, hq⟩; have hq' := hq.symm; clear hq; subst hq') | (go_at_call 16; refine (implOk_any _ _).mono ?_; rintro e w' ⟨rfl, hq⟩; have hq' := hq.symm; clear hq; subst hq') | (go_at_call 17; refine (specOk_any _ _).mono ?_; rintro e w' ⟨rfl, hq⟩; have hq' := hq.symm; clear hq; subst hq'))
            refine (pick_any a0 n0 cap0 z0 1 30 _ (w0.below V6) hn (by omega) (by omega) (by omega) (by omega)).mono ?_
            rintro e w' ⟨c, rfl, c0, c1, hq⟩
            have hq' := hq.symm; clear hq; subst hq'
            have cc : okB c = true := by unfold okB; exact (by unfold inB; simp; omega)
            have LA : faceI laterI a (faceI laterI b c) = faceI laterI (faceI laterI a b) c := by
              rw [face_tt cb cc, face_tt ca cb, face_tt ca (later_ok cb cc), face_tt (later_ok ca cb) cc, later_assoc ca cb cc]
            have LN : faceI laterI 1000000000 c = 1000000000 := by
              rw [face_tt (by decide) cc]; unfold laterI; rw [if_neg (by omega)]
            by_cases g1 : b < a
            · go_wp2_with (first | (go_at_call 6; refine (implLater_any _ _ _).mono ?_; rintro e w' ⟨rfl, hq⟩; have hq' := hq.symm; clear hq; subst hq') | (go_at_call 7; refine (implUntil_any _ _ _).mono ?_; rintro e w' ⟨rfl, hq⟩; have hq' := hq.symm; clear hq; subst hq') | (go_at_call 9; refine (implOverlap_any _ _ _ _ _).mono ?_; rintro e w' ⟨rfl, hq⟩; have hq' := hq.symm; clear hq; subst hq') | (go_at_call 11; refine (specLater_any _ _ _).mono ?_; rintro e w' ⟨rfl, hq⟩; have hq' := hq.symm; clear hq; subst hq') | (go_at_call 12; refine (specUntil_any _ _ _).mono ?_; rintro e w' ⟨rfl, hq⟩; have hq' := hq.symm; clear hq; subst hq') | (go_at_call 13; refine (specOverlap_any _ _ _ _ _).mono ?_; rintro e w' ⟨rfl, hq⟩; have hq' := hq.symm; clear hq; subst hq') | (go_at_call 16; refine (implOk_any _ _).mono ?_; rintro e w' ⟨rfl, hq⟩; have hq' := hq.symm; clear hq; subst hq') | (go_at_call 17; refine (specOk_any _ _).mono ?_; rintro e w' ⟨rfl, hq⟩; have hq' := hq.symm; clear hq; subst hq'))
              go_ret
              exact ⟨by first | rfl | (exact ret_bool (by simp_all)), V6⟩
            · by_cases g2 : b = 1000000000
              · have g2' : (b == 1000000000) = true := by simpa using g2
                clear g2
                go_wp2_with (first | (go_at_call 6; refine (implLater_any _ _ _).mono ?_; rintro e w' ⟨rfl, hq⟩; have hq' := hq.symm; clear hq; subst hq') | (go_at_call 7; refine (implUntil_any _ _ _).mono ?_; rintro e w' ⟨rfl, hq⟩; have hq' := hq.symm; clear hq; subst hq') | (go_at_call 9; refine (implOverlap_any _ _ _ _ _).mono ?_; rintro e w' ⟨rfl, hq⟩; have hq' := hq.symm; clear hq; subst hq') | (go_at_call 11; refine (specLater_any _ _ _).mono ?_; rintro e w' ⟨rfl, hq⟩; have hq' := hq.symm; clear hq; subst hq') | (go_at_call 12; refine (specUntil_any _ _ _).mono ?_; rintro e w' ⟨rfl, hq⟩; have hq' := hq.symm; clear hq; subst hq') | (go_at_call 13; refine (specOverlap_any _ _ _ _ _).mono ?_; rintro e w' ⟨rfl, hq⟩; have hq' := hq.symm; clear hq; subst hq') | (go_at_call 16; refine (implOk_any _ _).mono ?_; rintro e w' ⟨rfl, hq⟩; have hq' := hq.symm; clear hq; subst hq') | (go_at_call 17; refine (specOk_any _ _).mono ?_; rintro e w' ⟨rfl, hq⟩; have hq' := hq.symm; clear hq; subst hq'))
                go_ret
                exact ⟨by first | rfl | (exact ret_bool (by simp_all)), V6⟩
              · have g2' : (b == 1000000000) = false := by simpa using g2
                have LU : faceI laterI a (faceI untilI a b) = b := by
                  have h1 := okB_t ca
                  have h2 := okB_t cb
                  have hu : untilI a b = b - a := by
                    unfold untilI; rw [if_neg (by omega)]; split <;> omega
                  have ok : okB (untilI a b) = true := by rw [hu]; unfold okB inB; simp; omega
                  rw [face_tt ca cb, face_tt ca ok, hu]; unfold laterI; split <;> omega
                clear g2
                go_wp2_with (first | (go_at_call 6; refine (implLater_any _ _ _).mono ?_; rintro e w' ⟨rfl, hq⟩; have hq' := hq.symm; clear hq; subst hq') | (go_at_call 7; refine (implUntil_any _ _ _).mono ?_; rintro e w' ⟨rfl, hq⟩; have hq' := hq.symm; clear hq; subst hq') | (go_at_call 9; refine (implOverlap_any _ _ _ _ _).mono ?_; rintro e w' ⟨rfl, hq⟩; have hq' := hq.symm; clear hq; subst hq') | (go_at_call 11; refine (specLater_any _ _ _).mono ?_; rintro e w' ⟨rfl, hq⟩; have hq' := hq.symm; clear hq; subst hq') | (go_at_call 12; refine (specUntil_any _ _ _).mono ?_; rintro e w' ⟨rfl, hq⟩; have hq' := hq.symm; clear hq; subst hq') | (go_at_call 13; refine (specOverlap_any _ _ _ _ _).mono ?_; rintro e w' ⟨rfl, hq⟩; have hq' := hq.symm; clear hq; subst hq') | (go_at_call 16; refine (implOk_any _ _).mono ?_; rintro e w' ⟨rfl, hq⟩; have hq' := hq.symm; clear hq; subst hq') | (go_at_call 17; refine (specOk_any _ _).mono ?_; rintro e w' ⟨rfl, hq⟩; have hq' := hq.symm; clear hq; subst hq'))
                go_ret
                exact ⟨by first | rfl | (exact ret_bool (by simp_all)), V6⟩
          · simp only [Bool.not_eq_true] at cb
            have fl : faceI laterI a b < 0 := by rw [face_tf ca cb]; decide
            go_wp2_with (first | (go_at_call 6; refine (implLater_any _ _ _).mono ?_; rintro e w' ⟨rfl, hq⟩; have hq' := hq.symm; clear hq; subst hq') | (go_at_call 7; refine (implUntil_any _ _ _).mono ?_; rintro e w' ⟨rfl, hq⟩; have hq' := hq.symm; clear hq; subst hq') | (go_at_call 9; refine (implOverlap_any _ _ _ _ _).mono ?_; rintro e w' ⟨rfl, hq⟩; have hq' := hq.symm; clear hq; subst hq') | (go_at_call 11; refine (specLater_any _ _ _).mono ?_; rintro e w' ⟨rfl, hq⟩; have hq' := hq.symm; clear hq; subst hq') | (go_at_call 12; refine (specUntil_any _ _ _).mono ?_; rintro e w' ⟨rfl, hq⟩; have hq' := hq.symm; clear hq; subst hq') | (go_at_call 13; refine (specOverlap_any _ _ _ _ _).mono ?_; rintro e w' ⟨rfl, hq⟩; have hq' := hq.symm; clear hq; subst hq') | (go_at_call 16; refine (implOk_any _ _).mono ?_; rintro e w' ⟨rfl, hq⟩; have hq' := hq.symm; clear hq; subst hq') | (go_at_call 17; refine (specOk_any _ _).mono ?_; rintro e w' ⟨rfl, hq⟩; have hq' := hq.symm; clear hq; subst hq'))
            go_ret
            exact ⟨by first | rfl | (exact ret_bool (by simp_all)), V6⟩
        · simp only [Bool.not_eq_true] at ca
          have fl : faceI laterI a b < 0 := by rw [face_f ca]; decide
          go_wp2_with (first | (go_at_call 6; refine (implLater_any _ _ _).mono ?_; rintro e w' ⟨rfl, hq⟩; have hq' := hq.symm; clear hq; subst hq') | (go_at_call 7; refine (implUntil_any _ _ _).mono ?_; rintro e w' ⟨rfl, hq⟩; have hq' := hq.symm; clear hq; subst hq') | (go_at_call 9; refine (implOverlap_any _ _ _ _ _).mono ?_; rintro e w' ⟨rfl, hq⟩; have hq' := hq.symm; clear hq; subst hq') | (go_at_call 11; refine (specLater_any _ _ _).mono ?_; rintro e w' ⟨rfl, hq⟩; have hq' := hq.symm; clear hq; subst hq') | (go_at_call 12; refine (specUntil_any _ _ _).mono ?_; rintro e w' ⟨rfl, hq⟩; have hq' := hq.symm; clear hq; subst hq') | (go_at_call 13; refine (specOverlap_any _ _ _ _ _).mono ?_; rintro e w' ⟨rfl, hq⟩; have hq' := hq.symm; clear hq; subst hq') | (go_at_call 16; refine (implOk_any _ _).mono ?_; rintro e w' ⟨rfl, hq⟩; have hq' := hq.symm; clear hq; subst hq') | (go_at_call 17; refine (specOk_any _ _).mono ?_; rintro e w' ⟨rfl, hq⟩; have hq' := hq.symm; clear hq; subst hq'))
          go_ret
          exact ⟨by first | rfl | (exact ret_bool (by simp_all)), V6⟩
  · have hn' : 4096 < n0 := by omega
    go_enter Tryd.func3, Tryd.ntmps3
    go_wp2_with fail
    refine (big_any a0 n0 cap0 _ true (by simpa using hn')).mono ?_
    rintro e w' ⟨rfl, hq⟩; have hq' := hq.symm; clear hq; subst hq'
    go_wp2_with fail
    go_ret
    exact ⟨rfl, Below.refl _ _⟩

/-- What the walk gives, for every argument and every world that holds the tables. -/
theorem contract (H : Type) (enc : TypeId × Value → H) (W : World) (base : Nat) (args : Array Value) (ds gs : List (DataW H)) (before : List MemPlace)
    (hval : ∀ (j : Nat) t v, Tryd.f3.params[j]? = some t → args[j]? = some v → Value.okWide Tryd.prog W .any base t v)
    (hW : DataW.Whole enc Tryd.prog Tryd.f3.params.toList Rows.fnTimesSpec.vars false W args.toList ds gs before) (hL : laidMet Tryd.prog Rows.fnTimesRow.laid W) :
    Calls Tryd.prog 3 args W fun e W' => ∃ v, e = .returned v ∧ Rows.fnTimesSpec.post enc Tryd.prog Tryd.f3 false true false false W args v W' := by
  have hW' := hW
  obtain ⟨p, q, hA0, hV, rfl, hfz, hnd⟩ := hW
  have hA : DataW.TrodAll enc Tryd.prog W 0 (fun _ => true) true Tryd.f3.params.toList args.toList ds p := hA0
  rw [Tryd.params3] at hA hval
  obtain ⟨v0, vs0, d0, ds0, p0, q0, hargs, rfl, rfl, h0, r0⟩ := trodAll_cons hA
  obtain ⟨rfl, rfl, rfl⟩ := trodAll_nil r0
  obtain rfl : args = #[v0] := by cases args; simp_all
  obtain ⟨rfl, rfl⟩ := trodVars_none hV
  have k0 := h0
  have lt0 : ∀ x ∈ p0, x.block < W.heap.size := by obtain ⟨m, hm⟩ := k0; exact DataW.trod_lt m _ _ _ hm
  obtain ⟨a0, n0, cap0, z0, rfl, w0⟩ := open_bytes (hval 0 22 v0 rfl rfl) h0
  clear hA0
  refine (walk a0 n0 cap0 z0 W w0 (table0 hL) (table1 hL) (table2 hL)).mono fun e W' ⟨he, hg⟩ => ?_
  subst he
  exact ⟨_, rfl, _, _, _, [], _, [], hW', trodAll_mk1 (shut_bool Tryd.underlying4 _), (trodAll_cons_mk (Below.trod laidOut (by kernel_rfl) (of_decide_eq_true (by kernel_rfl)) k0 hg lt0) trodAll_mk0), rfl, hg.frame _, fun h => by cases h⟩

/-- A world for the witness: the settled one, the tables holding what their initialisers lay. -/
def laidHeap (h : Array Obj) : Array Obj :=
  ((h.modify 1 fun | .cells _ t frozen => .cells (zs0.map (Value.int .u8)).toArray t frozen | x => x).modify 2 fun | .cells _ t frozen => .cells (zs1.map (Value.int .u8)).toArray t frozen | x => x).modify 0 fun | .cells _ t frozen => .cells (zs2.map (Value.int .u64)).toArray t frozen | x => x
noncomputable def laidWorld (os : Os) : World :=
  { World.holding Tryd.prog os ⟨#[], #[], []⟩ with heap := laidHeap (World.holding Tryd.prog os ⟨#[], #[], []⟩).heap }
theorem laid_met (os : Os) : laidMet Tryd.prog Rows.fnTimesRow.laid ((laidWorld os).forCall (fun _ _ => 0) ⟨#[], #[.slice none 0 0], []⟩).memory :=
  laidMet_of_run' 8 (by kernel_rfl) (by kernel_rfl)
theorem reads (os : Os) {H : Type} (enc : TypeId × Value → H) : ∃ places, DataW.whole enc Tryd.prog ((laidWorld os).forCall (fun _ _ => 0) ⟨#[], #[.slice none 0 0], []⟩).memory Tryd.f3.params.toList Rows.fnTimesSpec.vars false (#[.slice none 0 0] : Array Value).toList 8 = some ([.nil], [], places) :=
  ⟨[], by kernel_rfl⟩

set_option maxRecDepth 100000 in
theorem lifted (os : Os) (started : os.Started) (H : Type) (enc : TypeId × Value → H) (F : Stop.Interp) :
    ReturnsInHanded {} Tryd.checked os 3 .any ((OpenSpec.ofChange Rows.fnTimesSpec).preRow enc Tryd.prog Tryd.f3 Rows.fnTimesRow.domain false Rows.fnTimesRow.laid) (((OpenSpec.ofChange Rows.fnTimesSpec).at F).post enc Tryd.prog Tryd.f3 false true false false) := by
  obtain ⟨places, hx⟩ := reads os enc
  refine returnsInHanded_of_row (C := Tryd.checked) (s := (OpenSpec.ofChange Rows.fnTimesSpec)) own started (by kernel_rfl) Tryd.func3
    (witness_row_at (enc := enc) (C := Tryd.checked) false (laidWorld os) #[.slice none 0 0] rfl (by kernel_rfl) (by kernel_rfl) (by kernel_rfl)
      (OpenSpec.preRow_of_cond 8 hx (by kernel_rfl) (fun k hk => by cases hk) (by kernel_rfl) (laid_met os))) ?_
  intro W base args ds gs before hval hW _ _ _ hL _ _
  exact contract H enc W base args ds gs before hval hW hL

theorem said : Rows.FnTimesSaid :=
  OpenClaim.holds_of_cond 3 Tryd.f3 rfl rfl rfl rfl rfl rfl rfl ⟨rfl, rfl, rfl, rfl, rfl⟩ rfl rfl rfl rfl rfl (by kernel_rfl) Tryd.func3 (by kernel_rfl)
    (of_decide_eq_true (by kernel_rfl)) (by unfold Func.isWrapper; first | (rw [if_pos (by decide +kernel)]; kernel_rfl) | (rw [if_neg (by decide +kernel)]; exact ⟨rfl, rfl⟩))
    (fun os started H enc _ F => by rw [OpenClaim.pre_eq_preRow]; exact lifted os started H enc F)

theorem plain (f : FuncId) (fn : Func) (hf : Tryd.pinned.checked.prog.funcNamed "loop.example/g00255/laws.FnTimes" = some f) (hfn : Tryd.pinned.checked.prog.funcs[f]? = some fn) :
    false = Tryd.pinned.checked.prog.looks [] ∧ ∀ (j : Nat) t, fn.params[j]? = some t → Tryd.pinned.checked.prog.wantsStandIn t = false := by
  obtain rfl : f = 3 := Option.some.inj ((show Tryd.prog.funcNamed "loop.example/g00255/laws.FnTimes" = some 3 by kernel_rfl).symm.trans hf) |>.symm
  obtain rfl : fn = Tryd.f3 := (Option.some.inj (Tryd.func3.symm.trans hfn)).symm
  refine ⟨by kernel_rfl, fun j t ht => ?_⟩
  rw [Tryd.params3] at ht
  obtain rfl : t = 22 := by simpa using Array.mem_of_getElem? ht
  exact (show Tryd.prog.wantsStandIn 22 = false by kernel_rfl)

/-- the given statement -/
theorem card : Rows.FnTimesCardSaid :=
  Claim7.holds_tied_plain_at .later [] _ _ _ _ said (fun _ h => by cases h) (by kernel_rfl) (fun _ h => by cases h) fnTimes_row_tie rfl ⟨rfl, rfl⟩ (by kernel_rfl) rfl plain (by kernel_rfl)
#print axioms card
end Go.Proofs.YtebbjmdfjmnbbaaDoor.fnTimes
