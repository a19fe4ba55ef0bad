/- For every input that can be read the law FnFull returns true, and what it was handed reads as before. The frame is the kit's; the opening of the arguments and the walk are ours. -/
import Derived.Test.YtcmpenlgkccgkaaRows
import Derived.WalkKit
import Derived.ProofKit
import Derived.OpenShut
import Derived.ChangeOld
import Derived.Below
import Derived.Test.YtcmpenlgkccgkaaPlanI
import Derived.Test.YtcmpenlgkccgkaaPlanF
import Derived.Test.YtcmpenlgkccgkaaPlanDr2
import Derived.Test.YtcmpenlgkccgkaaPkB
import Derived.Test.YtcmpenlgkccgkaaPkA
import Derived.Test.YtcmpenlgkccgkaaBytesOpen
import Derived.Deep.RegionHeld3
namespace Go.Proofs.Ytcmpenlgkccgkaa.fnFull
open Go.ChangeShapes Go.WideShapes Go.ChangeAt Go.RowKit
open Go.Sort
set_option linter.unusedVariables false

theorem own : ownKnob Try.prog.godebug = none := by kernel_rfl
theorem laidOut : laidOutB Try.prog = true := by kernel_rfl

set_option maxRecDepth 8000 in
set_option maxHeartbeats 8000000 in
theorem walk (a0 : Option Addr) (n0 cap0 : Nat) (z0 : List Int) (w : World) (w0 : IsBytes w a0 n0 cap0 z0) :
    Calls Try.prog 6 #[.slice a0 n0 cap0] w fun e w' => e = .returned (.bool true) ∧ Below w.heap.size w w' := by
  have hmx := w0.mx
  have hle := w0.le
  by_cases hn : n0 ≤ 4096
  · go_enter Try.func6, Try.ntmps6
    go_wp2_with fail
    refine (big_any a0 n0 cap0 _ false (by simpa using hn)).mono ?_
    rintro e w' ⟨rfl, hq⟩; have hq' := hq.symm; clear hq; subst hq'
    go_wp2_with fail
    refine (drawPlanned_any a0 n0 cap0 z0 _ w0 hn).mono ?_
    rintro e w1 ⟨T, v, m, c', ls, g, c, ys, x, rfl, L1, tb, mb, J1, hy, xb, U1⟩
    obtain ⟨W1, hW1⟩ : ∃ W1, W1 = w1.alloc (.cells #[.int .i64 T, .slice v m c'] 38) := ⟨_, rfl⟩
    have b1 : Below w1.heap.size w1 W1 := by rw [hW1]; exact box_below
    have K1 : W1.heap[w1.heap.size]? = some (.cells #[.int .i64 T, .slice v m c'] 38 (0, 0)) := by rw [hW1]; exact heap_alloc_new _ _
    have lK1 : w1.heap.size < W1.heap.size := lt_of_block K1
    have HP : Hid (∀ X, Below W1.heap.size W1 X → X.cell? ⟨w1.heap.size, 0, none⟩ = some (.int .i64 T) ∧ X.cell? ⟨w1.heap.size, 1, none⟩ = some (.slice v m c')) := fun X hX => by
      obtain ⟨x0, x1, _, _⟩ := boxed ((hX.block w1.heap.size lK1).trans K1)
      exact ⟨x0, x1⟩
    have HL : Hid (∀ X, Below W1.heap.size W1 X → LevS X v m c' ls) := fun X hX => (L1.below b1).below hX
    have HJ : Hid (∀ X, Below W1.heap.size W1 X → JobS X (some ⟨g, 0, none⟩) ys.length c ys) := fun X hX => (J1.below b1).below hX
    have UW1 := U1.then b1 U1.size
    have HE : Hid (∀ X, Below W1.heap.size W1 X → Below w.heap.size w X) := fun X hX => UW1.then hX UW1.size
    clear K1 L1 J1
    obtain ⟨p0, p1⟩ := HP.out _ (Below.refl _ _)
    rw [hW1] at p0 p1
    go_wp2_with fail
    rw [← hW1]
    clear hW1
    clear p0 p1
    obtain ⟨zs, hzs⟩ : ∃ zs, zs = plF T false ls ys x := ⟨_, rfl⟩
    have HZ : Hid _ := hzs
    refine (implPlanned_any T x v _ m c' ys.length c ls ys _ (HL.out _ (Below.refl _ _)) (HJ.out _ (Below.refl _ _))).mono ?_
    rw [← hzs]
    clear hzs
    rintro e w2 ⟨v2, c2, rfl, hL2, hb2⟩
    obtain ⟨p0, p1⟩ := HP.out _ hb2
    go_wp2_with fail
    refine (specPlanned_any T x v _ m c' ys.length c ls ys _ (HL.out _ hb2) (HJ.out _ hb2)).mono ?_
    rw [← HZ.out]
    rintro e w3 ⟨v3, rfl, hO3, hb3⟩
    clear p0 p1
    obtain ⟨a3, c3, hv3, hL3⟩ := hO3.toL
    subst hv3
    have V3 := hb2.then hb3 hb2.size
    have I2 := hL2.toS
    go_wp2_with fail
    refine (likeInts_same6 v2 a3 zs.length c2 c3 zs _ (I2.below hb3) hL3.toS).mono ?_
    rintro e w4 ⟨rfl, hb4⟩
    have V4 := V3.then hb4 V3.size
    have I4 := (I2.below hb3).below hb4
    clear hO3 hL3 hL2 I2
    by_cases hz0 : zs.length = 0
    · have hz0' : ((zs.length : Int) == 0) = true := by rw [hz0]; rfl
      have HZ0 : Hid (zs.length = 0) := hz0
      clear hz0
      go_wp2
      go_ret
      exact ⟨rfl, HE.out _ V4⟩
    · have hz0' : ((zs.length : Int) == 0) = false := by
        rw [Bool.eq_false_iff]; intro h9; have := eq_of_beq h9; omega
      have PF : PlF T false ls ys x zs := by
        have := plF_all (T := T) (st := false) (ls := ls) (js := ys) (now := x) (by rw [← HZ.out]; omega)
        rwa [← HZ.out] at this
      have hzl : Hid (zs.length = ys.length) := PF.len
      have hn40 := PF.js_.n
      have HPF : Hid _ := PF
      obtain ⟨E, hE⟩ : ∃ E, E = mkK ys zs ys.length := ⟨_, rfl⟩
      have HEq : Hid _ := hE
      have hEb : 0 ≤ E ∧ E ≤ 1000000000 := by rw [hE]; exact mkK_bd ys zs ys.length
      clear hE PF hz0
      go_wp2_with fail
      refine (implMakespan_any _ v2 ys.length c zs.length c2 ys zs _ (HJ.out _ V4) I4).mono ?_
      rw [HPF.out.mks, ← HEq.out]
      rintro e w5 ⟨rfl, hb5⟩
      have V5 := V4.then hb5 V4.size
      have I5 := I4.below hb5
      obtain ⟨p0, p1⟩ := HP.out _ V5
      go_wp2_with fail
      refine (implLeft_any T v _ v2 m c' ys.length c zs.length c2 ls ys zs _ (HL.out _ V5) (HJ.out _ V5) I5).mono ?_
      rintro e w6 ⟨T6, v6, n6, c6, r6, rfl, hb6, hA6⟩
      rw [HPF.out.lf] at hA6
      clear p0 p1
      obtain ⟨rfl, hT6, g6, rfl, rfl, hg6, hc6, hm6, D6⟩ := hA6
      replace hT6 := hT6.symm
      subst hT6
      obtain ⟨lr, hlr⟩ : ∃ lr, lr = lefK T false ls x ys ys.length := ⟨_, rfl⟩
      rw [← hlr] at hc6 D6 ⊢
      have HLR : Hid _ := hlr
      have po6 : PO T lr := by rw [hlr]; exact (HPF.out.ok.all (st := false) (js := ys) ys.length).po
      clear hlr
      have V6 := V5.then hb6 V5.size
      have I6 := I5.below hb6
      have L6 : LevS w6 (some ⟨g6, 0, none⟩) lr.length c6 lr := D6.toS rfl hc6 hm6 (wf_of_bd fun i hi => by have := po6.el i hi; have := po6.pos hi; have := po6.t1; omega)
      obtain ⟨W6, hW6⟩ : ∃ W6, W6 = w6.alloc (.cells #[.int .i64 T, .slice (some ⟨g6, 0, none⟩) lr.length c6] 38) := ⟨_, rfl⟩
      have b6 : Below w6.heap.size w6 W6 := by rw [hW6]; exact box_below
      have K6 : W6.heap[w6.heap.size]? = some (.cells #[.int .i64 T, .slice (some ⟨g6, 0, none⟩) lr.length c6] 38 (0, 0)) := by rw [hW6]; exact heap_alloc_new _ _
      have lK6 : w6.heap.size < W6.heap.size := lt_of_block K6
      have HX : Hid (∀ X, Below W6.heap.size W6 X → X.cell? ⟨w6.heap.size, 0, none⟩ = some (.int .i64 T) ∧ X.cell? ⟨w6.heap.size, 1, none⟩ = some (.slice (some ⟨g6, 0, none⟩) lr.length c6)) := fun X hX => by
        obtain ⟨x0, x1, _, _⟩ := boxed ((hX.block w6.heap.size lK6).trans K6)
        exact ⟨x0, x1⟩
      have VW6 := V6.then b6 V6.size
      have IW6 : IntS W6 v2 zs.length c2 zs := I6.below b6
      have LW6 := L6.below b6
      have JW6 := HJ.out _ VW6
      clear K6 D6 I4 I5 I6 L6
      go_wp2
      rw [← hW6]
      clear hW6
      go_loopw [10, 11] (fun s i wr => ∃ k : Nat, k ≤ ys.length ∧ i = .int .i64 k ∧ s = .int .i64 (sumC ys zs k) ∧ Hid (Below W6.heap.size W6 wr)) (fun _ i _ => ys.length - (intOf i).toNat)
      case atStart => exact ⟨0, by omega, rfl, rfl, Below.refl _ _⟩
      case round =>
        obtain ⟨k, hk, rfl, rfl, HW⟩ := hrel
        rename World => wr
        obtain ⟨sb0, sb1⟩ := sumC_bd (ss := zs) HPF.out.js_ k hk
        by_cases hlt : k < ys.length
        · have hlt' : (k : Int) < (ys.length : Int) := by omega
          have hltz : (k : Int) < (zs.length : Int) := by rw [hzl.out]; omega
          obtain ⟨b2, off2, rfl, hbw2, hat2⟩ := (IW6.below HW.out).at_ (by rw [hzl.out]; omega)
          have hz := hat2 k (by rw [hzl.out]; exact hlt)
          obtain ⟨b, off, hb', hbw, hat⟩ := (JW6.below HW.out).at_ (by omega)
          injection hb' with hb'; injection hb' with hb' ho' _; subst hb' ho'
          obtain ⟨hc0, hc1, hc2, hc3, hc4, hc5, hc6'⟩ := hat.job (i := k) hlt
          clear hat hat2
          simp only [Nat.zero_add] at hc0 hc1 hc2 hc3 hc4 hc5 hc6'
          obtain ⟨s, hs⟩ : ∃ s, s = zg zs k := ⟨_, rfl⟩
          rw [← hs] at hz
          have hsb := HPF.out.st_ k hlt
          rw [← hs] at hsb
          have HS : Hid _ := hs
          clear hs
          obtain ⟨S, hS⟩ : ∃ S, S = sumC ys zs k := ⟨_, rfl⟩
          rw [← hS] at sb0 sb1 ⊢
          have HSS : Hid _ := hS
          clear hS
          by_cases c1 : 0 ≤ s
          · by_cases c2' : s < 1000000000
            · have ob := one_bd (HPF.out.js_.ok k hlt).1 (s := s) ⟨c1, c2'⟩
              have jl := jok_cl (HPF.out.js_.ok k hlt).1
              have hN : Hid (sumC ys zs (k + 1) = S + (jg ys k).cores * (laterI s (jg ys k).long - s)) := by unfold Hid; rw [HS.out, HSS.out]; exact sumC_s (by rw [← HS.out]; exact ⟨c1, c2'⟩)
              obtain ⟨lt, hlt2⟩ : ∃ lt, lt = laterI s (jg ys k).long := ⟨_, rfl⟩
              rw [← hlt2] at ob hN
              have CL : ∀ W, Calls Try.prog 30 #[.int .i64 s, .int .i64 (jg ys k).long] W fun e w' => e = .returned (.int .i64 lt) ∧ w' = W := fun W => by
                have := specLater_any s (jg ys k).long W
                rwa [face_tt (by unfold okB inB; simp; omega) (by unfold okB inB; simp; omega), ← hlt2] at this
              obtain ⟨d, hd⟩ : ∃ d, d = lt - s := ⟨_, rfl⟩
              rw [← hd] at ob hN
              have wr1 : IntKind.i64.wrap (lt - s) = d := by rw [hd, pf_wrap]; exact pf_in (by omega) (by omega)
              obtain ⟨pr, hpr⟩ : ∃ pr, pr = (jg ys k).cores * d := ⟨_, rfl⟩
              rw [← hpr] at ob hN
              have wr2 : IntKind.i64.wrap ((jg ys k).cores * d) = pr := by rw [← hpr, pf_wrap]; exact pf_in (by omega) (by omega)
              have wr3 : IntKind.i64.wrap (S + pr) = S + pr := by rw [pf_wrap]; exact pf_in (by omega) (by omega)
              have hmo : Try.prog.follows .mixedOrders = true := by kernel_rfl
              clear hd hlt2 hpr HS HSS
              go_wp2
              go_quiet ((go_at_call 30; exact Calls.quiet_of_same (CL _)))
              go_wp2
              go_roundw
              case rel => exact ⟨k + 1, by omega, by go_num, by rw [hN.out], HW.out.drewN _⟩
              case measure => simp [intOf]; omega
            · have hN : Hid (sumC ys zs (k + 1) = S) := by unfold Hid; rw [HSS.out]; exact sumC_n (by rw [← HS.out]; omega)
              clear HS HSS
              go_wp2
              go_roundw
              case rel => exact ⟨k + 1, by omega, by go_num, by rw [hN.out], HW.out⟩
              case measure => simp [intOf]; omega
          · have hN : Hid (sumC ys zs (k + 1) = S) := by unfold Hid; rw [HSS.out]; exact sumC_n (by rw [← HS.out]; omega)
            clear HS HSS
            go_wp2
            go_roundw
            case rel => exact ⟨k + 1, by omega, by go_num, by rw [hN.out], HW.out⟩
            case measure => simp [intOf]; omega
        · obtain rfl : k = ys.length := by omega
          obtain ⟨S, hS⟩ : ∃ S, S = sumC ys zs ys.length := ⟨_, rfl⟩
          rw [← hS] at sb0 sb1 ⊢
          have hfull := (full_area HPF.out.ok HPF.out.js_ false HPF.out.at_ ys.length (Nat.le_refl _)).1
          have hmost := full_most HPF.out.ok HPF.out.js_ false HPF.out.at_
          rw [← HLR.out, ← hS] at hfull
          rw [← hS, ← HEq.out] at hmost
          have ar1 := area_range HPF.out.po (a := 0) (b := 1000000000) (by omega) (by omega) (by omega)
          have ar2 := area_range po6 (a := 0) (b := 1000000000) (by omega) (by omega) (by omega)
          have hT0 := po6.t0
          have hT1 := po6.t1
          have e1 : areaF T ls 0 1000000000 = areaIn ls 0 1000000000 ls.length := by unfold areaF; rw [if_pos (by simp [poB_mk HPF.out.po, okB, inB])]
          have e2 : areaF T lr 0 1000000000 = areaIn lr 0 1000000000 lr.length := by unfold areaF; rw [if_pos (by simp [poB_mk po6, okB, inB])]
          obtain ⟨A1, hA1⟩ : ∃ A1, A1 = areaIn ls 0 1000000000 ls.length := ⟨_, rfl⟩
          obtain ⟨A2, hA2⟩ : ∃ A2, A2 = areaIn lr 0 1000000000 lr.length := ⟨_, rfl⟩
          rw [← hA1] at hfull ar1 e1
          rw [← hA2] at hfull ar2 e2
          have hTE0 : 0 ≤ T * E := Int.mul_nonneg hT0 hEb.1
          have hTE1 : T * E ≤ 1000000000000 := by
            have q1 : T * E ≤ 1000 * E := Int.mul_le_mul_of_nonneg_right hT1 hEb.1
            omega
          obtain ⟨TE, hTE⟩ : ∃ TE, TE = T * E := ⟨_, rfl⟩
          rw [← hTE] at hTE0 hTE1 hmost
          have wr1 : IntKind.i64.wrap (T * E) = TE := by rw [← hTE, pf_wrap]; exact pf_in (by omega) (by omega)
          have hd1 : decide (S ≤ TE) = true := decide_eq_true hmost
          have wr2 : IntKind.i64.wrap (A1 - A2) = A1 - A2 := by rw [pf_wrap]; exact pf_in (by omega) (by omega)
          have hd2 : (A1 - A2 == S) = true := by rw [hfull]; simp
          have HW6 : Hid (∀ X, Below wr.heap.size wr X → Below W6.heap.size W6 X) := fun X hX => HW.out.then hX HW.out.size
          have CA1 : ∀ X, Below wr.heap.size wr X → Calls Try.prog 31 #[.agg #[.int .i64 T, .slice v m c'], .int .i64 0, .int .i64 1000000000] X fun e w' => e = .returned (.int .i64 A1) ∧ Below X.heap.size X w' := fun X hX => by
            have := specArea_any T 0 1000000000 v m c' ls X (HL.out _ (VW6.then (HW6.out X hX) VW6.size))
            rwa [e1] at this
          have CA2 : ∀ X, Below wr.heap.size wr X → Calls Try.prog 31 #[.agg #[.int .i64 T, .slice (some ⟨g6, 0, none⟩) lr.length c6], .int .i64 0, .int .i64 1000000000] X fun e w' => e = .returned (.int .i64 A2) ∧ Below X.heap.size X w' := fun X hX => by
            have := specArea_any T 0 1000000000 (some ⟨g6, 0, none⟩) lr.length c6 lr X (LW6.below (HW6.out X hX))
            rwa [e2] at this
          have HKK : Hid (∀ X, Below wr.heap.size wr X → Below wr.heap.size wr X ∧ X.cell? ⟨w1.heap.size, 0, none⟩ = some (.int .i64 T) ∧ X.cell? ⟨w1.heap.size, 1, none⟩ = some (.slice v m c') ∧ X.cell? ⟨w6.heap.size, 0, none⟩ = some (.int .i64 T) ∧ X.cell? ⟨w6.heap.size, 1, none⟩ = some (.slice (some ⟨g6, 0, none⟩) lr.length c6)) := fun X hX => by
            obtain ⟨x0, x1⟩ := HP.out X (VW6.then (HW6.out X hX) VW6.size)
            obtain ⟨y0, y1⟩ := HX.out X (HW6.out X hX)
            exact ⟨hX, x0, x1, y0, y1⟩
          have S0 : Below wr.heap.size wr wr := Below.refl _ _
          have KB : ∀ X, (Below wr.heap.size wr X ∧ X.cell? ⟨w1.heap.size, 0, none⟩ = some (.int .i64 T) ∧ X.cell? ⟨w1.heap.size, 1, none⟩ = some (.slice v m c') ∧ X.cell? ⟨w6.heap.size, 0, none⟩ = some (.int .i64 T) ∧ X.cell? ⟨w6.heap.size, 1, none⟩ = some (.slice (some ⟨g6, 0, none⟩) lr.length c6)) → Below wr.heap.size wr X := fun _ h => h.1
          have HEND : Hid (∀ X, Below wr.heap.size wr X → Below w.heap.size w X) := fun X hX => HE.out X (VW6.then (HW6.out X hX) VW6.size)
          obtain ⟨_, k0, k1, k2, k3⟩ := HKK.out _ S0
          clear hS hA1 hA2 hfull hmost hTE e1 e2 ar1 ar2
          go_wp2_with fail
          go_region_held3 (fun X => Below wr.heap.size wr X ∧ X.cell? ⟨w1.heap.size, 0, none⟩ = some (.int .i64 T) ∧ X.cell? ⟨w1.heap.size, 1, none⟩ = some (.slice v m c') ∧ X.cell? ⟨w6.heap.size, 0, none⟩ = some (.int .i64 T) ∧ X.cell? ⟨w6.heap.size, 1, none⟩ = some (.slice (some ⟨g6, 0, none⟩) lr.length c6)) ((refine HKK.out _ ?_; first | with_reducible exact SB | with_reducible exact SB.drew | with_reducible exact S0.drew | with_reducible exact S0)) (first
            | (go_at_call 31; first
                | ((with_reducible change Calls _ _ #[.agg #[.int .i64 T, .slice v m c'], _, _] _ _)
                   refine (CA1 _ (KB _ (by assumption))).mono ?_; rintro e wa ⟨rfl, hba⟩; have SB : Below wr.heap.size wr wa := (KB _ (by assumption)).then hba (KB _ (by assumption)).size)
                | ((with_reducible change Calls _ _ #[.agg #[.int .i64 T, .slice (some ⟨g6, 0, none⟩) lr.length c6], _, _] _ _)
                   refine (CA2 _ (KB _ (by assumption))).mono ?_; rintro e wb ⟨rfl, hbb⟩; have SB : Below wr.heap.size wr wb := (KB _ (by assumption)).then hbb (KB _ (by assumption)).size)))
          all_goals
            go_wp2
            go_ret
            exact ⟨rfl, HEND.out _ (by first | exact SB | exact SB.drew)⟩
  · have c0 : decide (4096 < n0) = true := by simpa using hn
    go_enter Try.func6, Try.ntmps6
    go_wp2_with fail
    refine (big_any a0 n0 cap0 _ true c0.symm).mono ?_
    rintro e w' ⟨rfl, hq⟩; have hq' := hq.symm; clear hq; subst hq'
    go_wp2
    go_ret
    exact ⟨rfl, Below.refl _ _⟩

set_option maxRecDepth 100000 in
theorem lifted (os : Os) (started : os.Started) (H : Type) (enc : TypeId × Value → H) :
    ReturnsInHanded {} Try.checked os 6 .any (Rows.fnFullSpec.pre6 enc Try.prog Try.f6 Rows.fnFullRow.domain false) (Rows.fnFullSpec.post enc Try.prog Try.f6 false true false false) := by
  refine returnsInHanded_of_change (C := Try.checked) own started (by kernel_rfl) Try.func6
    (ChangeSpec.witness6 (enc := enc) (C := Try.checked) false ⟨#[], #[.slice none 0 0], []⟩ 8 (by kernel_rfl) (by kernel_rfl) (by kernel_rfl) (by kernel_rfl)) ?_
  intro W base args ds gs before hval0 hW hcnd _
  have hval : ∀ (j : Nat) t v, Try.f6.params[j]? = some t → args[j]? = some v → Value.okWide Try.prog W .any base t v := hval0
  have hW' := hW
  obtain ⟨p, q, hA0, hV, rfl, hfz, hnd⟩ := hW
  have hA : DataW.TrodAll enc Try.prog W 0 (fun _ => true) true Try.f6.params.toList args.toList ds p := hA0
  rw [Try.params6] at hA hval
  obtain ⟨v0, vs0, d0, ds0, p0, q0, hargs, rfl, rfl, h0, r0⟩ := trodAll_cons hA
  obtain ⟨rfl, rfl, rfl⟩ := trodAll_nil r0
  obtain rfl : args = #[v0] := by cases args; simp_all
  obtain ⟨rfl, rfl⟩ := trodVars_none hV
  have k0 := h0
  have lt0 : ∀ x ∈ p0, x.block < W.heap.size := by obtain ⟨m, hm⟩ := k0; exact DataW.trod_lt m _ _ _ hm
  obtain ⟨a0, n0, cap0, z0, rfl, w0⟩ := open_bytes (hval 0 48 v0 rfl rfl) h0
  clear hA0 hval0
  refine (walk a0 n0 cap0 z0 W w0).mono fun e W' ⟨he, bel⟩ => ?_
  subst he
  exact ⟨_, rfl, _, _, _, [], _, [], hW', trodAll_mk1 (shut_bool Try.underlying4 _), (trodAll_cons_mk (Below.trod laidOut (by kernel_rfl) (of_decide_eq_true (by kernel_rfl)) k0 bel lt0) trodAll_mk0), rfl, bel.frame _, fun h => by cases h⟩

theorem over : Rows.fnFullRow.holds Try.pinned (OpenSpec.ofChange Rows.fnFullSpec) :=
  OpenClaim.holds_of_wide 6 Try.f6 rfl rfl rfl rfl rfl rfl rfl ⟨rfl, rfl, rfl, rfl, rfl⟩ rfl rfl rfl rfl rfl (by kernel_rfl) Try.func6 (by kernel_rfl)
    (of_decide_eq_true (by kernel_rfl)) (by unfold Func.isWrapper; first | (rw [if_pos (by decide +kernel)]; kernel_rfl) | (rw [if_neg (by decide +kernel)]; exact ⟨rfl, rfl⟩))
    (fun os started H enc _ => lifted os started H enc)

/-- the given statement -/
theorem proved : Rows.FnFullSaid := over
#print axioms proved
end Go.Proofs.Ytcmpenlgkccgkaa.fnFull
