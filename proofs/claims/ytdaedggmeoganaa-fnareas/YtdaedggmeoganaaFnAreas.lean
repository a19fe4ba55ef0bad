/- For every input that can be read the law FnAreas returns true, and what it was handed reads as before. The frame is the kit's; the opening of the arguments and the walk are ours. -/
import Derived.Test.YtdaedggmeoganaaRows
import Derived.WalkKit
import Derived.ProofKit
import Derived.OpenShut
import Derived.ChangeOld
import Derived.Below
import Derived.Test.YtdaedggmeoganaaAreaMath
import Derived.Test.YtdaedggmeoganaaProfDraw5
import Derived.Test.YtdaedggmeoganaaProfDraw6
import Derived.Test.YtdaedggmeoganaaNewBlk
import Derived.Test.YtdaedggmeoganaaBytesOpen
import Derived.Test.YtdaedggmeoganaaFreeAt
import Derived.Deep.RegionHeld3
import Derived.Deep.Cut
import Derived.Deep.CutRange
namespace Go.Proofs.Ytdaedggmeoganaa.fnAreas
open Go.ChangeShapes Go.WideShapes Go.ChangeAt Go.RowKit
set_option linter.unusedVariables false

theorem own : ownKnob Try.prog.godebug = none := by kernel_rfl
theorem laidOut : laidOutB Try.prog = true := by kernel_rfl

set_option maxRecDepth 8000 in
set_option maxHeartbeats 16000000 in
theorem walk (a0 : Option Addr) (n0 cap0 : Nat) (z0 : List Int) (w : World) (w0 : IsBytes w a0 n0 cap0 z0) :
    Calls Try.prog 4 #[.slice a0 n0 cap0] w fun e w' => e = .returned (.bool true) ∧ Below w.heap.size w w' := by
  have hmx := w0.mx
  have hle := w0.le
  by_cases hn : n0 ≤ 4096
  · go_enter Try.func4, Try.ntmps4
    go_wp2_with fail
    refine (big_any a0 n0 cap0 _ false (by simpa using hn)).mono ?_
    rintro e w' ⟨rfl, hq⟩; have hq' := hq.symm; clear hq; subst hq'
    go_wp2_with fail
    refine (drawArea_any a0 n0 cap0 z0 _ w0 hn).mono ?_
    rintro e w1 ⟨T0, v0, m0, c0, l0, a, b, rfl, L0, tb0, ab, bb, U1⟩
    have bx1 : Below w1.heap.size w1 (w1.alloc (.cells #[.int .i64 T0, .slice v0 m0 c0] 26)) := box_below
    go_wp2_with fail
    refine (implArea_any T0 a b v0 m0 c0 l0 _ (L0.below bx1)).mono ?_
    rintro e w2 ⟨rfl, hb2⟩
    generalize hS : areaF T0 l0 a b = s
    have bP2 : w2.heap[w1.heap.size]? = some (.cells #[.int .i64 T0, .slice v0 m0 c0] 26 (0, 0)) := (hb2.block _ (by simp)).trans (heap_alloc_new _ _)
    have JP2 := (L0.below bx1).below hb2
    have U2 := U1.then (bx1.then hb2 bx1.size) U1.size
    generalize hP : w1.heap.size = P at bP2 ⊢
    clear hP bx1 hb2 L0 U1
    go_wp2_with fail
    refine (drawLower_any a0 n0 cap0 z0 _ (w0.below U2) hn).mono ?_
    rintro e w3 ⟨T1, v1, m1, c1, l1, T2, v2, m2, c2, l2, rfl, L1, L2, tb1, tb2, hb3⟩
    have U3 := U2.then hb3 U2.size
    go_wp2_with fail
    have BA : Below w3.heap.size w3 ((w3.alloc (.cells #[.int .i64 T1, .slice v1 m1 c1] 26)).alloc (.cells #[.int .i64 T2, .slice v2 m2 c2] 26)) := box_below.alloc (by simp) _
    have zA : ((w3.alloc (.cells #[.int .i64 T1, .slice v1 m1 c1] 26)).alloc (.cells #[.int .i64 T2, .slice v2 m2 c2] 26)).heap.size = w3.heap.size + 2 := by simp
    have bA : ((w3.alloc (.cells #[.int .i64 T1, .slice v1 m1 c1] 26)).alloc (.cells #[.int .i64 T2, .slice v2 m2 c2] 26)).heap[w3.heap.size]? = some (.cells #[.int .i64 T1, .slice v1 m1 c1] 26 (0, 0)) := (Below.heap_alloc _ _ _ (by simp)).trans (heap_alloc_new _ _)
    have bB : ((w3.alloc (.cells #[.int .i64 T1, .slice v1 m1 c1] 26)).alloc (.cells #[.int .i64 T2, .slice v2 m2 c2] 26)).heap[w3.heap.size + 1]? = some (.cells #[.int .i64 T2, .slice v2 m2 c2] 26 (0, 0)) := by
      have := heap_alloc_new (w3.alloc (.cells #[.int .i64 T1, .slice v1 m1 c1] 26)) (.cells #[.int .i64 T2, .slice v2 m2 c2] 26)
      rwa [show (w3.alloc (.cells #[.int .i64 T1, .slice v1 m1 c1] 26)).heap.size = w3.heap.size + 1 by simp] at this
    have JA := L1.below BA
    have JB := L2.below BA
    have bPA := (BA.block P (by have := lt_of_block bP2; have := hb3.size; omega)).trans ((hb3.block P (lt_of_block bP2)).trans bP2)
    have JPA := (JP2.below hb3).below BA
    have UA := U3.then BA U3.size
    generalize (w3.alloc (.cells #[.int .i64 T1, .slice v1 m1 c1] 26)).alloc (.cells #[.int .i64 T2, .slice v2 m2 c2] 26) = WA at BA bA bB JA JB UA zA bPA JPA ⊢
    generalize hPA : w3.heap.size = A at bA bB zA ⊢
    generalize hPB : A + 1 = B at bB ⊢
    clear hPA U3 L1 L2 BA U2 bP2 JP2 hb3
    have HABP : Hid (∀ W, Below WA.heap.size WA W → (W.heap[A]? = some (.cells #[.int .i64 T1, .slice v1 m1 c1] 26 (0, 0)) ∧ W.heap[B]? = some (.cells #[.int .i64 T2, .slice v2 m2 c2] 26 (0, 0))) ∧ W.heap[P]? = some (.cells #[.int .i64 T0, .slice v0 m0 c0] 26 (0, 0))) := fun W hW => ⟨⟨(hW.block A (lt_of_block bA)).trans bA, (hW.block B (lt_of_block bB)).trans bB⟩, (hW.block P (lt_of_block bPA)).trans bPA⟩
    have HZ : Hid (A + 1 = B ∧ WA.heap.size = A + 2) := ⟨hPB, zA⟩
    clear hPB zA bA bB bPA
    rcases hlow : lowB T1 T2 l1 l2 with _ | _
    · refine (implLower_nil T1 T2 v1 v2 m1 c1 m2 c2 l1 l2 _ JA JB hlow).mono ?_
      rintro e w4 ⟨rfl, hb4⟩
      have bx4 : Below w4.heap.size w4 (w4.alloc (.cells #[.int .i64 0, .slice none 0 0] 26)) := box_below
      have D4 := hb4.then bx4 hb4.size
      obtain ⟨⟨hA, hB⟩, hP⟩ := HABP.out _ D4
      obtain ⟨p0, p1, _, _⟩ := boxed hA
      obtain ⟨q0, q1, _, _⟩ := boxed hB
      go_wp2_with fail
      refine (specLower_nil T1 T2 v1 v2 m1 c1 m2 c2 l1 l2 _ (JA.below D4) (JB.below D4) hlow).mono ?_
      rintro e w5 ⟨rfl, hb5⟩
      have bx5 : Below w5.heap.size w5 (w5.alloc (.cells #[.int .i64 0, .slice none 0 0] 26)) := box_below
      have bC : (w5.alloc (.cells #[.int .i64 0, .slice none 0 0] 26)).heap[w4.heap.size]? = some (.cells #[.int .i64 0, .slice none 0 0] 26 (0, 0)) := (bx5.block _ (by have := hb5.size; simp at this; omega)).trans ((hb5.block _ (by simp)).trans (heap_alloc_new _ _))
      have bD := heap_alloc_new w5 (.cells #[.int .i64 0, .slice none 0 0] 26)
      have D5 := (D4.then hb5 D4.size).then bx5 (D4.then hb5 D4.size).size
      clear p0 p1 q0 q1 bx4 bx5 hb4 hb5 D4 hA hB hP
      obtain ⟨c0', c1', _, _⟩ := boxed bC
      obtain ⟨d0, d1, _, _⟩ := boxed bD
      go_wp2_with fail
      refine (likeProfile_same 0 none none 0 0 0 [] _ (LevS.nil_ _) (LevS.nil_ _)).mono ?_
      rintro e w6 ⟨rfl, hb6⟩
      have D6 := D5.then hb6 D5.size
      obtain ⟨_, hP6⟩ := HABP.out _ D6
      obtain ⟨p0, p1, _, _⟩ := boxed hP6
      clear bC bD c0' c1' d0 d1
      go_wp2_with fail
      refine (specArea_any T0 a b v0 m0 c0 l0 _ (JPA.below D6)).mono ?_
      rw [hS]
      rintro e w7 ⟨rfl, hb7⟩
      have D7 := D6.then hb7 D6.size
      obtain ⟨_, bP⟩ := HABP.out _ D7
      have JP := JPA.below D7
      have U7 := UA.then D7 UA.size
      clear HABP HZ hb6 hb7 D5 D6 D7 p0 p1 hP6 JA JB JPA UA
      have WB0 := w0.below U7
      obtain ⟨p0, p1, _, _⟩ := boxed bP
      rcases hv : (poB T0 l0 && (okB a && okB b)) with _ | _
      · have hs : s = -1 := by rw [← hS]; exact areaF_f hv
        have ds : decide (s < 0) = true := decide_eq_true (by omega)
        clear hS
        go_wp2
        go_ret
        exact ⟨rfl, U7⟩
      · have hv' := hv
        simp only [Bool.and_eq_true] at hv'
        obtain ⟨hp0, ha, hb⟩ := hv'
        obtain ⟨a0', a1'⟩ := okB_t ha
        obtain ⟨b0', b1'⟩ := okB_t hb
        have s0 : 0 ≤ s := by rw [← hS, areaF_t hv]; exact (area_tot (poB_t hp0) a b).1
        have ds : decide (s < 0) = false := decide_eq_false (by omega)
        go_wp2_with fail
        refine (pick_any a0 n0 cap0 z0 1 20 _ WB0 hn (by omega) (by omega) (by omega) (by omega)).mono ?_
        rintro e w' ⟨q, rfl, qq0, qq1, hq⟩; have hq' := hq.symm; clear hq; subst hq'
        have wq : IntKind.i64.wrap (a + q) = a + q := by rw [IntKind.wrap_i64]; omega
        have dam : decide (a ≤ a + q) = true := decide_eq_true (by omega)
        have KK : ∀ X, Below w7.heap.size w7 X → (Below w7.heap.size w7 X ∧ X.cell? ⟨P, 0, none⟩ = some (.int .i64 T0) ∧ X.cell? ⟨P, 1, none⟩ = some (.slice v0 m0 c0)) := fun X hX => by
          obtain ⟨p0, p1, _, _⟩ := boxed ((hX.block P (lt_of_block bP)).trans bP)
          exact ⟨hX, p0, p1⟩
        have HKK : Hid _ := KK
        have KB : ∀ {X}, (Below w7.heap.size w7 X ∧ X.cell? ⟨P, 0, none⟩ = some (.int .i64 T0) ∧ X.cell? ⟨P, 1, none⟩ = some (.slice v0 m0 c0)) → Below w7.heap.size w7 X := fun h => h.1
        have B0 : Below w7.heap.size w7 w7 := Below.refl _ _
        clear KK
        have HAR : Hid (a + q ≤ b → IntKind.i64.wrap (areaF T0 l0 a (a + q) + areaF T0 l0 (a + q) b) = s) := fun h => (areaF_part hv (by omega) h hS).1
        go_upto_region 27 with fail
        go_cut [136] from 116 (fun s136 wx => s136 = .bool false ∧ Below w7.heap.size w7 wx)
        case first =>
          by_cases hmb : a + q ≤ b
          · have dmb : decide (a + q ≤ b) = true := decide_eq_true hmb
            have har := HAR.out hmb
            clear hS hv
            go_region_held3 (fun w' => Below w7.heap.size w7 w' ∧ w'.cell? ⟨P, 0, none⟩ = some (.int .i64 T0) ∧ w'.cell? ⟨P, 1, none⟩ = some (.slice v0 m0 c0)) ((refine HKK.out _ ?_; first | with_reducible exact SB | with_reducible exact SB.drew | with_reducible exact (Below.refl _ _).drew | with_reducible exact B0.drew | with_reducible exact B0)) (
              (go_at_call 19
               refine (implArea_any T0 _ _ v0 m0 c0 l0 _ (JP.below (KB (by assumption)))).mono ?_
               rintro e y1 ⟨rfl, hb1⟩
               have SB : Below w7.heap.size w7 y1 := (KB (by assumption)).then hb1 (KB (by assumption)).size))
            all_goals (go_wp2_with fail; go_meet; exact ⟨by simp, SB⟩)
          · have dmb : decide (a + q ≤ b) = false := decide_eq_false hmb
            go_quiet (fail)
            go_wp2_with fail
            go_meet
            exact ⟨by simp, ⟨B0.os, B0.tape, B0.output, B0.size, B0.block⟩⟩
        case rest =>
          obtain ⟨rfl, B27⟩ := hcut
          rename World => x0
          have R0 := U7.then B27 U7.size
          clear B0 HAR hS hv KB HKK p0 p1
          go_wp2_with fail
          refine (drawReserve_any a0 n0 cap0 z0 _ (w0.below R0) hn).mono ?_
          rintro e x1 ⟨T3, v3, m3, c3, l3, fr', to', n3, rfl, L3, tb3, fb, tb, nb, hx1⟩
          have R1 := R0.then hx1 R0.size
          have bx1 : Below x1.heap.size x1 (x1.alloc (.cells #[.int .i64 T3, .slice v3 m3 c3] 26)) := box_below
          have R1b := R1.then bx1 R1.size
          have bQ1 := heap_alloc_new x1 (.cells #[.int .i64 T3, .slice v3 m3 c3] 26)
          have JQ1 := L3.below bx1
          obtain ⟨q0, q1, _, _⟩ := boxed bQ1
          go_wp2_with fail
          refine (specReserve_any T3 fr' to' n3 v3 m3 c3 l3 _ JQ1).mono ?_
          rintro e x2 ⟨hx2, ⟨hr, gr, cr, rfl, hgr, hcr, hmr, LR⟩ | ⟨hr, rfl⟩⟩
          · have BOX2 : Below x2.heap.size x2 (x2.alloc (.cells #[.int .i64 T3, .slice (some ⟨gr, 0, none⟩) (chgL l3 fr' to' (-n3)).length cr] 26)) := box_below
            have HEX : Hid (fr' < to' → IntKind.i64.wrap (areaF T3 l3 fr' to' - areaF T3 (chgL l3 fr' to' (-n3)) fr' to') = n3 * (to' - fr') ∧ IntKind.i64.wrap (n3 * (to' - fr')) = n3 * (to' - fr') ∧ IntKind.i64.wrap (to' - fr') = to' - fr') := fun h => areaF_took hr h
            have wfr : ∀ i, i < (chgL l3 fr' to' (-n3)).length → (-9223372036854775808 ≤ fr (chgL l3 fr' to' (-n3)) i ∧ fr (chgL l3 fr' to' (-n3)) i ≤ 9223372036854775807) ∧ (-9223372036854775808 ≤ fe (chgL l3 fr' to' (-n3)) i ∧ fe (chgL l3 fr' to' (-n3)) i ≤ 9223372036854775807) := by
              unfold resB at hr
              simp only [Bool.and_eq_true] at hr
              have po := poB_t hr.2
              intro i hi
              have e := po.el i hi
              have z0 : 0 ≤ fr (chgL l3 fr' to' (-n3)) i := by
                by_cases h0 : i = 0
                · subst h0; rw [po.z]; exact Int.le_refl _
                · have := po.lt (i := 0) (j := i) (by omega) hi; rw [po.z] at this; omega
              have t1 := po.t1
              omega
            have SR := (LR.toS rfl hcr hmr wfr).below BOX2
            have JQ2 := (JQ1.below hx2).below BOX2
            generalize chgL l3 fr' to' (-n3) = lr at SR HEX BOX2 JQ2 ⊢
            have bQ2 := (BOX2.block _ (by have := hx2.size; have := lt_of_block bQ1; omega)).trans ((hx2.block _ (lt_of_block bQ1)).trans bQ1)
            have bR2 := heap_alloc_new x2 (.cells #[.int .i64 T3, .slice (some ⟨gr, 0, none⟩) lr.length cr] 26)
            have R2 := (R1b.then hx2 R1b.size).then BOX2 (R1b.then hx2 R1b.size).size
            clear wfr LR hr q0 q1
            go_upto_region 31 with fail
            generalize x2.alloc (.cells #[.int .i64 T3, .slice (some ⟨gr, 0, none⟩) lr.length cr] 26) = WT at SR JQ2 bQ2 bR2 R2 BOX2 ⊢
            generalize x2.heap.size = RB at bR2 ⊢
            generalize x1.heap.size = QB at bQ2 ⊢
            obtain ⟨q0, q1, _, _⟩ := boxed bQ2
            obtain ⟨r0, r1, _, _⟩ := boxed bR2
            by_cases ht : fr' < to'
            · obtain ⟨e1, e2, e3⟩ := HEX.out ht
              have dt : decide (to' ≤ fr') = false := decide_eq_false (by omega)
              have KK : ∀ X, Below WT.heap.size WT X → (Below WT.heap.size WT X ∧ X.cell? ⟨QB, 0, none⟩ = some (.int .i64 T3) ∧ X.cell? ⟨QB, 1, none⟩ = some (.slice v3 m3 c3) ∧ X.cell? ⟨RB, 0, none⟩ = some (.int .i64 T3) ∧ X.cell? ⟨RB, 1, none⟩ = some (.slice (some ⟨gr, 0, none⟩) lr.length cr)) := fun X hX => by
                obtain ⟨p0, p1, _, _⟩ := boxed ((hX.block QB (lt_of_block bQ2)).trans bQ2)
                obtain ⟨p2, p3, _, _⟩ := boxed ((hX.block RB (lt_of_block bR2)).trans bR2)
                exact ⟨hX, p0, p1, p2, p3⟩
              have HKK : Hid _ := KK
              have KB : ∀ {X}, (Below WT.heap.size WT X ∧ X.cell? ⟨QB, 0, none⟩ = some (.int .i64 T3) ∧ X.cell? ⟨QB, 1, none⟩ = some (.slice v3 m3 c3) ∧ X.cell? ⟨RB, 0, none⟩ = some (.int .i64 T3) ∧ X.cell? ⟨RB, 1, none⟩ = some (.slice (some ⟨gr, 0, none⟩) lr.length cr)) → Below WT.heap.size WT X := fun h => h.1
              have B0 : Below WT.heap.size WT WT := Below.refl _ _
              clear KK bQ2 bR2
              go_region_held3 (fun w' => Below WT.heap.size WT w' ∧ w'.cell? ⟨QB, 0, none⟩ = some (.int .i64 T3) ∧ w'.cell? ⟨QB, 1, none⟩ = some (.slice v3 m3 c3) ∧ w'.cell? ⟨RB, 0, none⟩ = some (.int .i64 T3) ∧ w'.cell? ⟨RB, 1, none⟩ = some (.slice (some ⟨gr, 0, none⟩) lr.length cr)) ((refine HKK.out _ ?_; first | with_reducible exact SB | with_reducible exact SB.drew | with_reducible exact (Below.refl _ _).drew | with_reducible exact B0.drew | with_reducible exact B0)) (
                (go_at_call 19
                 first
                   | ((with_reducible change Calls _ _ #[.agg #[.int .i64 T3, .slice v3 m3 c3], _, _] _ _)
                      refine (implArea_any T3 _ _ v3 m3 c3 l3 _ (JQ2.below (KB (by assumption)))).mono ?_
                      rintro e y1 ⟨rfl, hb1⟩
                      have SB : Below WT.heap.size WT y1 := (KB (by assumption)).then hb1 (KB (by assumption)).size)
                   | ((with_reducible change Calls _ _ #[.agg #[.int .i64 T3, .slice (some ⟨gr, 0, none⟩) lr.length cr], _, _] _ _)
                      refine (implArea_any T3 _ _ (some ⟨gr, 0, none⟩) lr.length cr lr _ (SR.below (KB (by assumption)))).mono ?_
                      rintro e y1 ⟨rfl, hb1⟩
                      have SB : Below WT.heap.size WT y1 := (KB (by assumption)).then hb1 (KB (by assumption)).size)))
              all_goals
                have hfin := R2.then SB R2.size
                go_wp2
                go_ret
                exact ⟨rfl, hfin⟩
            · have dt : decide (to' ≤ fr') = true := decide_eq_true (by omega)
              go_quiet (fail)
              go_wp2
              go_ret
              exact ⟨rfl, ⟨R2.os, R2.tape, R2.output, R2.size, R2.block⟩⟩
          · have bx2 : Below x2.heap.size x2 (x2.alloc (.cells #[.int .i64 0, .slice none 0 0] 26)) := box_below
            have R2 := (R1b.then hx2 R1b.size).then bx2 (R1b.then hx2 R1b.size).size
            go_upto_region 31 with fail
            go_quiet (fail)
            go_wp2
            go_ret
            exact ⟨rfl, ⟨R2.os, R2.tape, R2.output, R2.size, R2.block⟩⟩
    · obtain ⟨pa, pb, hl200, hl0⟩ := lowB_t hlow
      have CS := fun W (hA : LevS W v1 m1 c1 l1) (hB : LevS W v2 m2 c2 l2) => specLower_yes T1 T2 v1 v2 m1 c1 m2 c2 l1 l2 W hA hB hlow
      have CI2 := fun W (hB : LevS W v2 m2 c2 l2) (hA : LevS W v1 m1 c1 l1) => implLower_yes T2 T1 v2 v1 m2 c2 m1 c1 l2 l1 W hB hA (lowB_comm hlow)
      rw [lowL_comm pa pb, Int.min_comm T2 T1] at CI2
      refine (implLower_yes T1 T2 v1 v2 m1 c1 m2 c2 l1 l2 _ JA JB hlow).mono ?_
      rintro e w4 ⟨g, cg, rfl, hg, hgc, hcm, C1, hb4⟩
      have wfl := lowL_wf pa pb
      have po := lowL_po pa pb hl200
      have LOWAT := fun (τ : Int) => low_at pa pb hl200 (τ := τ)
      have hpa : poB T1 l1 = true := poB_mk pa
      have hpb : poB T2 l2 = true := poB_mk pb
      have hpo : poB (min T1 T2) (lowL l1 l2) = true := poB_mk po
      clear po
      generalize lowL l1 l2 = ll at C1 hgc wfl hl200 hl0 LOWAT hpo CS CI2 ⊢
      have bx4 : Below w4.heap.size w4 (w4.alloc (.cells #[.int .i64 (min T1 T2), .slice (some ⟨g, 0, none⟩) ll.length cg] 26)) := box_below
      have D4 := hb4.then bx4 hb4.size
      have S4 := C1.toS rfl hgc hcm wfl
      obtain ⟨⟨hA, hB⟩, hP⟩ := HABP.out _ D4
      obtain ⟨p0, p1, _, _⟩ := boxed hA
      obtain ⟨q0, q1, _, _⟩ := boxed hB
      go_wp2_with fail
      refine (CS _ (JA.below D4) (JB.below D4)).mono ?_
      rintro e w5 ⟨g2, cg2, rfl, hg2, hgc2, hcm2, C3, hb5⟩
      have bx5 : Below w5.heap.size w5 (w5.alloc (.cells #[.int .i64 (min T1 T2), .slice (some ⟨g2, 0, none⟩) ll.length cg2] 26)) := box_below
      have bC : (w5.alloc (.cells #[.int .i64 (min T1 T2), .slice (some ⟨g2, 0, none⟩) ll.length cg2] 26)).heap[w4.heap.size]? = some (.cells #[.int .i64 (min T1 T2), .slice (some ⟨g, 0, none⟩) ll.length cg] 26 (0, 0)) := (bx5.block _ (by have := hb5.size; simp at this; omega)).trans ((hb5.block _ (by simp)).trans (heap_alloc_new _ _))
      have bD := heap_alloc_new w5 (.cells #[.int .i64 (min T1 T2), .slice (some ⟨g2, 0, none⟩) ll.length cg2] 26)
      have D5 := (D4.then hb5 D4.size).then bx5 (D4.then hb5 D4.size).size
      have JC := ((S4.below bx4).below hb5).below bx5
      have JD := (C3.toS rfl hgc2 hcm2 wfl).below bx5
      clear p0 p1 q0 q1 bx4 bx5 hb4 hb5 D4 hA hB hP C1 C3 S4 CS
      go_upto_region 8 with fail
      generalize w5.alloc (.cells #[.int .i64 (min T1 T2), .slice (some ⟨g2, 0, none⟩) ll.length cg2] 26) = WB at bC bD D5 JC JD ⊢
      generalize w4.heap.size = C at bC hg2 hg ⊢
      generalize w5.heap.size = D at bD ⊢
      clear hg hg2
      have JA5 := JA.below D5
      have JB5 := JB.below D5
      have JP5 := JPA.below D5
      have UB := UA.then D5 UA.size
      have HALL : Hid (∀ X, Below WB.heap.size WB X → ((X.cell? ⟨A, 0, none⟩ = some (.int .i64 T1) ∧ X.cell? ⟨A, 1, none⟩ = some (.slice v1 m1 c1)) ∧ (X.cell? ⟨B, 0, none⟩ = some (.int .i64 T2) ∧ X.cell? ⟨B, 1, none⟩ = some (.slice v2 m2 c2))) ∧ ((X.cell? ⟨C, 0, none⟩ = some (.int .i64 (min T1 T2)) ∧ X.cell? ⟨C, 1, none⟩ = some (.slice (some ⟨g, 0, none⟩) ll.length cg)) ∧ (X.cell? ⟨D, 0, none⟩ = some (.int .i64 (min T1 T2)) ∧ X.cell? ⟨D, 1, none⟩ = some (.slice (some ⟨g2, 0, none⟩) ll.length cg2))) ∧ X.heap[P]? = some (.cells #[.int .i64 T0, .slice v0 m0 c0] 26 (0, 0)) ∧ C < WB.heap.size) := fun X hX => by
        obtain ⟨⟨hA, hB⟩, hP⟩ := HABP.out X (D5.then hX D5.size)
        obtain ⟨x0, x1, _, _⟩ := boxed hA
        obtain ⟨x2, x3, _, _⟩ := boxed hB
        obtain ⟨x4, x5, _, _⟩ := boxed ((hX.block C (lt_of_block bC)).trans bC)
        obtain ⟨x6, x7, _, _⟩ := boxed ((hX.block D (lt_of_block bD)).trans bD)
        exact ⟨⟨⟨x0, x1⟩, x2, x3⟩, ⟨⟨x4, x5⟩, x6, x7⟩, hP, lt_of_block bC⟩
      have HLO : Hid _ := LOWAT
      clear LOWAT JA JB JPA HABP HZ hlow pa pb bC bD UA D5 hgc hgc2 hcm hcm2
      generalize hM : min T1 T2 = M at HALL hpo CI2 ⊢
      clear hM
      obtain ⟨_, ⟨⟨p0, p1⟩, q0, q1⟩, _⟩ := HALL.out WB (Below.refl _ _)
      go_wp2_with fail
      refine (likeProfile_same M (some ⟨g, 0, none⟩) (some ⟨g2, 0, none⟩) ll.length cg cg2 ll _ JC JD).mono ?_
      rintro e w6 ⟨rfl, hb6⟩
      clear p0 p1 q0 q1 JD
      obtain ⟨_, _, hP6, _⟩ := HALL.out w6 hb6
      obtain ⟨p0, p1, _, _⟩ := boxed hP6
      go_wp2_with fail
      refine (specArea_any T0 a b v0 m0 c0 l0 _ (JP5.below hb6)).mono ?_
      rw [hS]
      rintro e w7 ⟨rfl, hb7⟩
      have D7 := hb6.then hb7 hb6.size
      clear hb6 hb7 hP6 p0 p1
      go_wp2_with fail
      go_loopw [13] (fun i wr => ∃ k : Nat, k ≤ 10 ∧ i = .int .i64 k ∧ Below WB.heap.size WB wr) (fun i _ => 10 - (intOf i).toNat)
      case atStart => exact ⟨0, by omega, rfl, D7⟩
      case round =>
        obtain ⟨k, hk, rfl, hw⟩ := hrel
        clear D7
        obtain ⟨⟨⟨p0, p1⟩, q0, q1⟩, ⟨⟨r0, r1⟩, _⟩, _⟩ := HALL.out _ hw
        by_cases hlt : k < 10
        · have hlt' : (k : Int) < 10 := by omega
          have wk : IntKind.i64.wrap (20 + (k : Int)) = 20 + (k : Int) := by rw [IntKind.wrap_i64]; omega
          go_wp2_with fail
          refine (pick_any a0 n0 cap0 z0 (20 + (k : Int)) 45 _ (w0.below (UB.then hw UB.size)) hn (by omega) (by omega) (by omega) (by omega)).mono ?_
          rintro e w' ⟨t, rfl, t0, t1, hq⟩; have hq' := hq.symm; clear hq; subst hq'
          have okt : okB t = true := by unfold okB inB; simp; omega
          go_wp2_with fail
          refine (specFreeAt_any T1 t v1 m1 c1 l1 _ (JA5.below hw)).mono ?_
          rw [freeI_tt hpa okt]
          rintro e x1 ⟨rfl, hx1⟩
          have hw1 := hw.then hx1 hw.size
          clear p0 p1 q0 q1 r0 r1 hx1
          obtain ⟨⟨⟨p0, p1⟩, q0, q1⟩, ⟨⟨r0, r1⟩, _⟩, _⟩ := HALL.out _ hw1
          go_wp2_with fail
          refine (specFreeAt_any T2 t v2 m2 c2 l2 _ (JB5.below hw1)).mono ?_
          rw [freeI_tt hpb okt]
          rintro e x2 ⟨rfl, hx2⟩
          have hw2 := hw1.then hx2 hw1.size
          clear p0 p1 q0 q1 r0 r1 hx2
          obtain ⟨_, ⟨⟨r0, r1⟩, _⟩, _⟩ := HALL.out _ hw2
          have hla := HLO.out t t0 (by omega)
          have CF := implFreeAt_any M t (some ⟨g, 0, none⟩) ll.length cg ll x2 (JC.below hw2)
          rw [freeI_tt hpo okt] at CF
          generalize atI l1 t = f1 at hla ⊢
          generalize atI l2 t = f2 at hla ⊢
          generalize atI ll t = f3 at hla CF
          by_cases hvu : f2 < f1
          · have e3 : f3 = f2 := by omega
            subst e3
            clear hla
            go_wp2_with fail
            refine CF.mono ?_
            rintro e x3 ⟨rfl, hx3⟩
            have hw3 := hw2.then hx3 hw2.size
            go_wp2
            go_roundw
            case rel => exact ⟨k + 1, by omega, by go_num, hw3⟩
            case measure => simp [intOf]; omega
          · have e3 : f3 = f1 := by omega
            have dvu : decide (f2 < f1) = false := decide_eq_false hvu
            subst e3
            clear hla
            go_wp2_with fail
            refine CF.mono ?_
            rintro e x3 ⟨rfl, hx3⟩
            have hw3 := hw2.then hx3 hw2.size
            go_wp2
            go_roundw
            case rel => exact ⟨k + 1, by omega, by go_num, hw3⟩
            case measure => simp [intOf]; omega
        · have e : k = 10 := by omega
          subst e
          rename World => w8
          go_wp2_with fail
          refine (CI2 _ (JB5.below hw) (JA5.below hw)).mono ?_
          rintro e w9 ⟨g3, cg3, rfl, hg3, hgc3, hcm3, C3, hb9⟩
          have bx9 : Below w9.heap.size w9 (w9.alloc (.cells #[.int .i64 M, .slice (some ⟨g3, 0, none⟩) ll.length cg3] 26)) := box_below
          have D9 := (hw.then hb9 hw.size).then bx9 (hw.then hb9 hw.size).size
          have bE := heap_alloc_new w9 (.cells #[.int .i64 M, .slice (some ⟨g3, 0, none⟩) ll.length cg3] 26)
          have JE := (C3.toS rfl hgc3 hcm3 wfl).below bx9
          have JC9 := JC.below D9
          clear p0 p1 q0 q1 r0 r1 hb9 bx9 C3 hg3
          obtain ⟨_, ⟨⟨r0, r1⟩, _⟩, _⟩ := HALL.out _ D9
          obtain ⟨e0, e1, _, _⟩ := boxed bE
          go_wp2_with fail
          refine (likeProfile_same M (some ⟨g3, 0, none⟩) (some ⟨g, 0, none⟩) ll.length cg3 cg ll _ JE JC9).mono ?_
          rintro e wt ⟨rfl, hbt⟩
          have Dt := D9.then hbt D9.size
          obtain ⟨_, _, bP, _⟩ := HALL.out _ Dt
          have JP := JP5.below Dt
          have U7 := UB.then Dt UB.size
          clear HALL HLO D9 Dt hbt hw r0 r1 e0 e1 bE JE JC9 JC JA5 JB5 JP5 UB CI2 hpa hpb hpo wfl hl200 hl0
          have WB0 := w0.below U7
          obtain ⟨p0, p1, _, _⟩ := boxed bP
          rcases hv : (poB T0 l0 && (okB a && okB b)) with _ | _
          · have hs : s = -1 := by rw [← hS]; exact areaF_f hv
            have ds : decide (s < 0) = true := decide_eq_true (by omega)
            clear hS
            go_wp2
            go_ret
            exact ⟨rfl, U7⟩
          · have hv' := hv
            simp only [Bool.and_eq_true] at hv'
            obtain ⟨hp0, ha, hb⟩ := hv'
            obtain ⟨a0', a1'⟩ := okB_t ha
            obtain ⟨b0', b1'⟩ := okB_t hb
            have s0 : 0 ≤ s := by rw [← hS, areaF_t hv]; exact (area_tot (poB_t hp0) a b).1
            have ds : decide (s < 0) = false := decide_eq_false (by omega)
            go_wp2_with fail
            refine (pick_any a0 n0 cap0 z0 1 20 _ WB0 hn (by omega) (by omega) (by omega) (by omega)).mono ?_
            rintro e w' ⟨q, rfl, qq0, qq1, hq⟩; have hq' := hq.symm; clear hq; subst hq'
            have wq : IntKind.i64.wrap (a + q) = a + q := by rw [IntKind.wrap_i64]; omega
            have dam : decide (a ≤ a + q) = true := decide_eq_true (by omega)
            have KK : ∀ X, Below wt.heap.size wt X → (Below wt.heap.size wt X ∧ X.cell? ⟨P, 0, none⟩ = some (.int .i64 T0) ∧ X.cell? ⟨P, 1, none⟩ = some (.slice v0 m0 c0)) := fun X hX => by
              obtain ⟨p0, p1, _, _⟩ := boxed ((hX.block P (lt_of_block bP)).trans bP)
              exact ⟨hX, p0, p1⟩
            have HKK : Hid _ := KK
            have KB : ∀ {X}, (Below wt.heap.size wt X ∧ X.cell? ⟨P, 0, none⟩ = some (.int .i64 T0) ∧ X.cell? ⟨P, 1, none⟩ = some (.slice v0 m0 c0)) → Below wt.heap.size wt X := fun h => h.1
            have B0 : Below wt.heap.size wt wt := Below.refl _ _
            clear KK
            have HAR : Hid (a + q ≤ b → IntKind.i64.wrap (areaF T0 l0 a (a + q) + areaF T0 l0 (a + q) b) = s) := fun h => (areaF_part hv (by omega) h hS).1
            go_upto_region 27 with fail
            go_cut [136] from 116 (fun s136 wx => s136 = .bool false ∧ Below wt.heap.size wt wx)
            case first =>
              by_cases hmb : a + q ≤ b
              · have dmb : decide (a + q ≤ b) = true := decide_eq_true hmb
                have har := HAR.out hmb
                clear hS hv
                go_region_held3 (fun w' => Below wt.heap.size wt w' ∧ w'.cell? ⟨P, 0, none⟩ = some (.int .i64 T0) ∧ w'.cell? ⟨P, 1, none⟩ = some (.slice v0 m0 c0)) ((refine HKK.out _ ?_; first | with_reducible exact SB | with_reducible exact SB.drew | with_reducible exact (Below.refl _ _).drew | with_reducible exact B0.drew | with_reducible exact B0)) (
                  (go_at_call 19
                   refine (implArea_any T0 _ _ v0 m0 c0 l0 _ (JP.below (KB (by assumption)))).mono ?_
                   rintro e y1 ⟨rfl, hb1⟩
                   have SB : Below wt.heap.size wt y1 := (KB (by assumption)).then hb1 (KB (by assumption)).size))
                all_goals (go_wp2_with fail; go_meet; exact ⟨by simp, SB⟩)
              · have dmb : decide (a + q ≤ b) = false := decide_eq_false hmb
                go_quiet (fail)
                go_wp2_with fail
                go_meet
                exact ⟨by simp, ⟨B0.os, B0.tape, B0.output, B0.size, B0.block⟩⟩
            case rest =>
              obtain ⟨rfl, B27⟩ := hcut
              rename World => x0
              have R0 := U7.then B27 U7.size
              clear B0 HAR hS hv KB HKK p0 p1
              go_wp2_with fail
              refine (drawReserve_any a0 n0 cap0 z0 _ (w0.below R0) hn).mono ?_
              rintro e x1 ⟨T3, v3, m3, c3, l3, fr', to', n3, rfl, L3, tb3, fb, tb, nb, hx1⟩
              have R1 := R0.then hx1 R0.size
              have bx1 : Below x1.heap.size x1 (x1.alloc (.cells #[.int .i64 T3, .slice v3 m3 c3] 26)) := box_below
              have R1b := R1.then bx1 R1.size
              have bQ1 := heap_alloc_new x1 (.cells #[.int .i64 T3, .slice v3 m3 c3] 26)
              have JQ1 := L3.below bx1
              obtain ⟨q0, q1, _, _⟩ := boxed bQ1
              go_wp2_with fail
              refine (specReserve_any T3 fr' to' n3 v3 m3 c3 l3 _ JQ1).mono ?_
              rintro e x2 ⟨hx2, ⟨hr, gr, cr, rfl, hgr, hcr, hmr, LR⟩ | ⟨hr, rfl⟩⟩
              · have BOX2 : Below x2.heap.size x2 (x2.alloc (.cells #[.int .i64 T3, .slice (some ⟨gr, 0, none⟩) (chgL l3 fr' to' (-n3)).length cr] 26)) := box_below
                have HEX : Hid (fr' < to' → IntKind.i64.wrap (areaF T3 l3 fr' to' - areaF T3 (chgL l3 fr' to' (-n3)) fr' to') = n3 * (to' - fr') ∧ IntKind.i64.wrap (n3 * (to' - fr')) = n3 * (to' - fr') ∧ IntKind.i64.wrap (to' - fr') = to' - fr') := fun h => areaF_took hr h
                have wfr : ∀ i, i < (chgL l3 fr' to' (-n3)).length → (-9223372036854775808 ≤ fr (chgL l3 fr' to' (-n3)) i ∧ fr (chgL l3 fr' to' (-n3)) i ≤ 9223372036854775807) ∧ (-9223372036854775808 ≤ fe (chgL l3 fr' to' (-n3)) i ∧ fe (chgL l3 fr' to' (-n3)) i ≤ 9223372036854775807) := by
                  unfold resB at hr
                  simp only [Bool.and_eq_true] at hr
                  have po := poB_t hr.2
                  intro i hi
                  have e := po.el i hi
                  have z0 : 0 ≤ fr (chgL l3 fr' to' (-n3)) i := by
                    by_cases h0 : i = 0
                    · subst h0; rw [po.z]; exact Int.le_refl _
                    · have := po.lt (i := 0) (j := i) (by omega) hi; rw [po.z] at this; omega
                  have t1 := po.t1
                  omega
                have SR := (LR.toS rfl hcr hmr wfr).below BOX2
                have JQ2 := (JQ1.below hx2).below BOX2
                generalize chgL l3 fr' to' (-n3) = lr at SR HEX BOX2 JQ2 ⊢
                have bQ2 := (BOX2.block _ (by have := hx2.size; have := lt_of_block bQ1; omega)).trans ((hx2.block _ (lt_of_block bQ1)).trans bQ1)
                have bR2 := heap_alloc_new x2 (.cells #[.int .i64 T3, .slice (some ⟨gr, 0, none⟩) lr.length cr] 26)
                have R2 := (R1b.then hx2 R1b.size).then BOX2 (R1b.then hx2 R1b.size).size
                clear wfr LR hr q0 q1
                go_upto_region 31 with fail
                generalize x2.alloc (.cells #[.int .i64 T3, .slice (some ⟨gr, 0, none⟩) lr.length cr] 26) = WT at SR JQ2 bQ2 bR2 R2 BOX2 ⊢
                generalize x2.heap.size = RB at bR2 ⊢
                generalize x1.heap.size = QB at bQ2 ⊢
                obtain ⟨q0, q1, _, _⟩ := boxed bQ2
                obtain ⟨r0, r1, _, _⟩ := boxed bR2
                by_cases ht : fr' < to'
                · obtain ⟨e1, e2, e3⟩ := HEX.out ht
                  have dt : decide (to' ≤ fr') = false := decide_eq_false (by omega)
                  have KK : ∀ X, Below WT.heap.size WT X → (Below WT.heap.size WT X ∧ X.cell? ⟨QB, 0, none⟩ = some (.int .i64 T3) ∧ X.cell? ⟨QB, 1, none⟩ = some (.slice v3 m3 c3) ∧ X.cell? ⟨RB, 0, none⟩ = some (.int .i64 T3) ∧ X.cell? ⟨RB, 1, none⟩ = some (.slice (some ⟨gr, 0, none⟩) lr.length cr)) := fun X hX => by
                    obtain ⟨p0, p1, _, _⟩ := boxed ((hX.block QB (lt_of_block bQ2)).trans bQ2)
                    obtain ⟨p2, p3, _, _⟩ := boxed ((hX.block RB (lt_of_block bR2)).trans bR2)
                    exact ⟨hX, p0, p1, p2, p3⟩
                  have HKK : Hid _ := KK
                  have KB : ∀ {X}, (Below WT.heap.size WT X ∧ X.cell? ⟨QB, 0, none⟩ = some (.int .i64 T3) ∧ X.cell? ⟨QB, 1, none⟩ = some (.slice v3 m3 c3) ∧ X.cell? ⟨RB, 0, none⟩ = some (.int .i64 T3) ∧ X.cell? ⟨RB, 1, none⟩ = some (.slice (some ⟨gr, 0, none⟩) lr.length cr)) → Below WT.heap.size WT X := fun h => h.1
                  have B0 : Below WT.heap.size WT WT := Below.refl _ _
                  clear KK bQ2 bR2
                  go_region_held3 (fun w' => Below WT.heap.size WT w' ∧ w'.cell? ⟨QB, 0, none⟩ = some (.int .i64 T3) ∧ w'.cell? ⟨QB, 1, none⟩ = some (.slice v3 m3 c3) ∧ w'.cell? ⟨RB, 0, none⟩ = some (.int .i64 T3) ∧ w'.cell? ⟨RB, 1, none⟩ = some (.slice (some ⟨gr, 0, none⟩) lr.length cr)) ((refine HKK.out _ ?_; first | with_reducible exact SB | with_reducible exact SB.drew | with_reducible exact (Below.refl _ _).drew | with_reducible exact B0.drew | with_reducible exact B0)) (
                    (go_at_call 19
                     first
                       | ((with_reducible change Calls _ _ #[.agg #[.int .i64 T3, .slice v3 m3 c3], _, _] _ _)
                          refine (implArea_any T3 _ _ v3 m3 c3 l3 _ (JQ2.below (KB (by assumption)))).mono ?_
                          rintro e y1 ⟨rfl, hb1⟩
                          have SB : Below WT.heap.size WT y1 := (KB (by assumption)).then hb1 (KB (by assumption)).size)
                       | ((with_reducible change Calls _ _ #[.agg #[.int .i64 T3, .slice (some ⟨gr, 0, none⟩) lr.length cr], _, _] _ _)
                          refine (implArea_any T3 _ _ (some ⟨gr, 0, none⟩) lr.length cr lr _ (SR.below (KB (by assumption)))).mono ?_
                          rintro e y1 ⟨rfl, hb1⟩
                          have SB : Below WT.heap.size WT y1 := (KB (by assumption)).then hb1 (KB (by assumption)).size)))
                  all_goals
                    have hfin := R2.then SB R2.size
                    go_wp2
                    go_ret
                    exact ⟨rfl, hfin⟩
                · have dt : decide (to' ≤ fr') = true := decide_eq_true (by omega)
                  go_quiet (fail)
                  go_wp2
                  go_ret
                  exact ⟨rfl, ⟨R2.os, R2.tape, R2.output, R2.size, R2.block⟩⟩
              · have bx2 : Below x2.heap.size x2 (x2.alloc (.cells #[.int .i64 0, .slice none 0 0] 26)) := box_below
                have R2 := (R1b.then hx2 R1b.size).then bx2 (R1b.then hx2 R1b.size).size
                go_upto_region 31 with fail
                go_quiet (fail)
                go_wp2
                go_ret
                exact ⟨rfl, ⟨R2.os, R2.tape, R2.output, R2.size, R2.block⟩⟩
  · have c0 : decide (4096 < n0) = true := by simpa using hn
    go_enter Try.func4, Try.ntmps4
    go_wp2_with fail
    refine (big_any a0 n0 cap0 _ true c0.symm).mono ?_
    rintro e w' ⟨rfl, hq⟩; have hq' := hq.symm; clear hq; subst hq'
    go_wp2
    go_ret
    exact ⟨rfl, Below.refl _ _⟩

set_option maxRecDepth 100000 in
theorem lifted (os : Os) (started : os.Started) (H : Type) (enc : TypeId × Value → H) :
    ReturnsInHanded {} Try.checked os 4 .any (Rows.fnAreasSpec.pre6 enc Try.prog Try.f4 Rows.fnAreasRow.domain false) (Rows.fnAreasSpec.post enc Try.prog Try.f4 false true false false) := by
  refine returnsInHanded_of_change (C := Try.checked) own started (by kernel_rfl) Try.func4
    (ChangeSpec.witness6 (enc := enc) (C := Try.checked) false ⟨#[], #[.slice none 0 0], []⟩ 8 (by kernel_rfl) (by kernel_rfl) (by kernel_rfl) (by kernel_rfl)) ?_
  intro W base args ds gs before hval0 hW hcnd _
  have hval : ∀ (j : Nat) t v, Try.f4.params[j]? = some t → args[j]? = some v → Value.okWide Try.prog W .any base t v := hval0
  have hW' := hW
  obtain ⟨p, q, hA0, hV, rfl, hfz, hnd⟩ := hW
  have hA : DataW.TrodAll enc Try.prog W 0 (fun _ => true) true Try.f4.params.toList args.toList ds p := hA0
  rw [Try.params4] at hA hval
  obtain ⟨v0, vs0, d0, ds0, p0, q0, hargs, rfl, rfl, h0, r0⟩ := trodAll_cons hA
  obtain ⟨rfl, rfl, rfl⟩ := trodAll_nil r0
  obtain rfl : args = #[v0] := by cases args; simp_all
  obtain ⟨rfl, rfl⟩ := trodVars_none hV
  have k0 := h0
  have lt0 : ∀ x ∈ p0, x.block < W.heap.size := by obtain ⟨m, hm⟩ := k0; exact DataW.trod_lt m _ _ _ hm
  obtain ⟨a0, n0, cap0, z0, rfl, w0⟩ := open_bytes (hval 0 22 v0 rfl rfl) h0
  clear hA0 hval0
  refine (walk a0 n0 cap0 z0 W w0).mono fun e W' ⟨he, bel⟩ => ?_
  subst he
  exact ⟨_, rfl, _, _, _, [], _, [], hW', trodAll_mk1 (shut_bool Try.underlying4 _), (trodAll_cons_mk (Below.trod laidOut (by kernel_rfl) (of_decide_eq_true (by kernel_rfl)) k0 bel lt0) trodAll_mk0), rfl, bel.frame _, fun h => by cases h⟩

theorem over : Rows.fnAreasRow.holds Try.pinned (OpenSpec.ofChange Rows.fnAreasSpec) :=
  OpenClaim.holds_of_wide 4 Try.f4 rfl rfl rfl rfl rfl rfl rfl ⟨rfl, rfl, rfl, rfl, rfl⟩ rfl rfl rfl rfl rfl (by kernel_rfl) Try.func4 (by kernel_rfl)
    (of_decide_eq_true (by kernel_rfl)) (by unfold Func.isWrapper; first | (rw [if_pos (by decide +kernel)]; kernel_rfl) | (rw [if_neg (by decide +kernel)]; exact ⟨rfl, rfl⟩))
    (fun os started H enc _ => lifted os started H enc)

/-- the given statement -/
theorem proved : Rows.FnAreasSaid := over
#print axioms proved
end Go.Proofs.Ytdaedggmeoganaa.fnAreas
