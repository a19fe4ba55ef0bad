/- For every input that can be read the law FnSooner returns true, and what it was handed reads as before. The frame is the kit's; the opening of the arguments and the walk are ours. -/
import Derived.Test.YtdaedggmeoganaaRows
import Derived.WalkKit
import Derived.ProofKit
import Derived.OpenShut
import Derived.ChangeOld
import Derived.Below
import Derived.Test.YtdaedggmeoganaaSoonMath
import Derived.Test.YtdaedggmeoganaaNewBlk
import Derived.Test.YtdaedggmeoganaaFit2
import Derived.Test.YtdaedggmeoganaaProfDraw5
import Derived.Test.YtdaedggmeoganaaBytesOpen
import Derived.Deep.RegionHeld3
import Derived.Deep.Cut
import Derived.Deep.CutRange
namespace Go.Proofs.Ytdaedggmeoganaa.fnSooner
open Go.ChangeShapes Go.WideShapes Go.ChangeAt Go.RowKit
set_option linter.unusedVariables false

theorem own : ownKnob Try.prog.godebug = none := by kernel_rfl
theorem laidOut : laidOutB Try.prog = true := by kernel_rfl

set_option maxRecDepth 8000 in
set_option maxHeartbeats 8000000 in
theorem walk (a0 : Option Addr) (n0 cap0 : Nat) (z0 : List Int) (w : World) (w0 : IsBytes w a0 n0 cap0 z0) :
    Calls Try.prog 5 #[.slice a0 n0 cap0] w fun e w' => e = .returned (.bool true) ∧ Below w.heap.size w w' := by
  have hmx := w0.mx
  have hle := w0.le
  by_cases hn : n0 ≤ 4096
  · go_enter Try.func5, Try.ntmps5
    go_wp2_with fail
    refine (big_any a0 n0 cap0 _ false (by simpa using hn)).mono ?_
    rintro e w' ⟨rfl, hq⟩; have hq' := hq.symm; clear hq; subst hq'
    go_wp2_with fail
    refine (drawLower_any a0 n0 cap0 z0 _ w0 hn).mono ?_
    rintro e w1 ⟨T1, v1, m1, c1, l1, T2, v2, m2, c2, l2, rfl, L1, L2, tb1, tb2, U1⟩
    go_wp2_with fail
    have BA : Below w1.heap.size w1 ((w1.alloc (.cells #[.int .i64 T1, .slice v1 m1 c1] 26)).alloc (.cells #[.int .i64 T2, .slice v2 m2 c2] 26)) := box_below.alloc (by simp) _
    have zA : ((w1.alloc (.cells #[.int .i64 T1, .slice v1 m1 c1] 26)).alloc (.cells #[.int .i64 T2, .slice v2 m2 c2] 26)).heap.size = w1.heap.size + 2 := by simp
    have bA : ((w1.alloc (.cells #[.int .i64 T1, .slice v1 m1 c1] 26)).alloc (.cells #[.int .i64 T2, .slice v2 m2 c2] 26)).heap[w1.heap.size]? = some (.cells #[.int .i64 T1, .slice v1 m1 c1] 26 (0, 0)) := (Below.heap_alloc _ _ _ (by simp)).trans (heap_alloc_new _ _)
    have bB : ((w1.alloc (.cells #[.int .i64 T1, .slice v1 m1 c1] 26)).alloc (.cells #[.int .i64 T2, .slice v2 m2 c2] 26)).heap[w1.heap.size + 1]? = some (.cells #[.int .i64 T2, .slice v2 m2 c2] 26 (0, 0)) := by
      have := heap_alloc_new (w1.alloc (.cells #[.int .i64 T1, .slice v1 m1 c1] 26)) (.cells #[.int .i64 T2, .slice v2 m2 c2] 26)
      rwa [show (w1.alloc (.cells #[.int .i64 T1, .slice v1 m1 c1] 26)).heap.size = w1.heap.size + 1 by simp] at this
    have JA := L1.below BA
    have JB := L2.below BA
    have UA := U1.then BA U1.size
    generalize (w1.alloc (.cells #[.int .i64 T1, .slice v1 m1 c1] 26)).alloc (.cells #[.int .i64 T2, .slice v2 m2 c2] 26) = WA at BA bA bB JA JB UA zA ⊢
    generalize hPA : w1.heap.size = A at bA bB zA ⊢
    generalize hPB : A + 1 = B at bB ⊢
    clear hPA U1 L1 L2 BA
    have HAB : Hid (∀ W, Below WA.heap.size WA W → W.cell? ⟨A, 0, none⟩ = some (.int .i64 T1) ∧ W.cell? ⟨A, 1, none⟩ = some (.slice v1 m1 c1) ∧ W.cell? ⟨B, 0, none⟩ = some (.int .i64 T2) ∧ W.cell? ⟨B, 1, none⟩ = some (.slice v2 m2 c2)) := fun W hW => by
      obtain ⟨p0, p1, _, _⟩ := boxed ((hW.block A (lt_of_block bA)).trans bA)
      obtain ⟨q0, q1, _, _⟩ := boxed ((hW.block B (lt_of_block bB)).trans bB)
      exact ⟨p0, p1, q0, q1⟩
    have HZ : Hid (A + 1 = B ∧ WA.heap.size = A + 2) := ⟨hPB, zA⟩
    clear hPB zA bA bB
    rcases hlow : lowB T1 T2 l1 l2 with _ | _
    · refine (implLower_nil T1 T2 v1 v2 m1 c1 m2 c2 l1 l2 _ JA JB hlow).mono ?_
      rintro e w2 ⟨rfl, hb2⟩
      have bx2 : Below w2.heap.size w2 (w2.alloc (.cells #[.int .i64 0, .slice none 0 0] 26)) := box_below
      have D2 := hb2.then bx2 hb2.size
      obtain ⟨p0, p1, q0, q1⟩ := HAB.out _ D2
      go_wp2_with fail
      refine (specLower_nil T1 T2 v1 v2 m1 c1 m2 c2 l1 l2 _ (JA.below D2) (JB.below D2) hlow).mono ?_
      rintro e w3 ⟨rfl, hb3⟩
      have bx3 : Below w3.heap.size w3 (w3.alloc (.cells #[.int .i64 0, .slice none 0 0] 26)) := box_below
      have bC : (w3.alloc (.cells #[.int .i64 0, .slice none 0 0] 26)).heap[w2.heap.size]? = some (.cells #[.int .i64 0, .slice none 0 0] 26 (0, 0)) := (bx3.block _ (by have := hb3.size; simp at this; omega)).trans ((hb3.block _ (by simp)).trans (heap_alloc_new _ _))
      have bD := heap_alloc_new w3 (.cells #[.int .i64 0, .slice none 0 0] 26)
      have D3 := (D2.then hb3 D2.size).then bx3 (D2.then hb3 D2.size).size
      clear p0 p1 q0 q1 bx2 bx3 hb2 hb3 D2
      obtain ⟨c0, c1', _, _⟩ := boxed bC
      obtain ⟨d0, d1, _, _⟩ := boxed bD
      go_wp2_with fail
      refine (likeProfile_same 0 none none 0 0 0 [] _ (LevS.nil_ _) (LevS.nil_ _)).mono ?_
      rintro e w4 ⟨rfl, hb4⟩
      go_wp2
      go_ret
      exact ⟨rfl, UA.then (D3.then hb4 D3.size) UA.size⟩
    · refine (implLower_yes T1 T2 v1 v2 m1 c1 m2 c2 l1 l2 _ JA JB hlow).mono ?_
      rintro e w2 ⟨g, cg, rfl, hg, hgc, hcm, C1, hb2⟩
      obtain ⟨pa, pb, hl200, hl0⟩ := lowB_t hlow
      have wfl := lowL_wf pa pb
      have po := lowL_po pa pb hl200
      have SOON := fun (x long n p q : Int) => sooner pa pb hl200 (x := x) (long := long) (n := n) (p := p) (q := q)
      have hpa : poB T1 l1 = true := poB_mk pa
      have hpo : poB (min T1 T2) (lowL l1 l2) = true := poB_mk po
      have t10 := pa.t0
      have t11 := pa.t1
      have t20 := pb.t0
      have t21 := pb.t1
      have CS := fun W (hA : LevS W v1 m1 c1 l1) (hB : LevS W v2 m2 c2 l2) => specLower_yes T1 T2 v1 v2 m1 c1 m2 c2 l1 l2 W hA hB hlow
      generalize lowL l1 l2 = ll at C1 hgc wfl hl200 hl0 SOON hpo CS ⊢
      clear po
      have bx2 : Below w2.heap.size w2 (w2.alloc (.cells #[.int .i64 (min T1 T2), .slice (some ⟨g, 0, none⟩) ll.length cg] 26)) := box_below
      have D2 := hb2.then bx2 hb2.size
      have S2 := C1.toS rfl hgc hcm wfl
      obtain ⟨p0, p1, q0, q1⟩ := HAB.out _ D2
      go_wp2_with fail
      refine (CS _ (JA.below D2) (JB.below D2)).mono ?_
      rintro e w3 ⟨g2, cg2, rfl, hg2, hgc2, hcm2, C3, hb3⟩
      have bx3 : Below w3.heap.size w3 (w3.alloc (.cells #[.int .i64 (min T1 T2), .slice (some ⟨g2, 0, none⟩) ll.length cg2] 26)) := box_below
      have bC : (w3.alloc (.cells #[.int .i64 (min T1 T2), .slice (some ⟨g2, 0, none⟩) ll.length cg2] 26)).heap[w2.heap.size]? = some (.cells #[.int .i64 (min T1 T2), .slice (some ⟨g, 0, none⟩) ll.length cg] 26 (0, 0)) := (bx3.block _ (by have := hb3.size; simp at this; omega)).trans ((hb3.block _ (by simp)).trans (heap_alloc_new _ _))
      have bD := heap_alloc_new w3 (.cells #[.int .i64 (min T1 T2), .slice (some ⟨g2, 0, none⟩) ll.length cg2] 26)
      have D3 := (D2.then hb3 D2.size).then bx3 (D2.then hb3 D2.size).size
      have JC := ((S2.below bx2).below hb3).below bx3
      have JD := (C3.toS rfl hgc2 hcm2 wfl).below bx3
      clear p0 p1 q0 q1 bx2 bx3 hb2 hb3 D2 CS C1 C3 S2
      go_upto_region 6 with fail
      generalize w3.alloc (.cells #[.int .i64 (min T1 T2), .slice (some ⟨g2, 0, none⟩) ll.length cg2] 26) = WB at bC bD D3 JC JD ⊢
      generalize w2.heap.size = C at bC hg2 hg ⊢
      generalize w3.heap.size = D at bD ⊢
      clear hg hg2
      have JA3 := JA.below D3
      have UB := UA.then D3 UA.size
      have HCD : Hid (∀ W, Below WB.heap.size WB W → (W.cell? ⟨A, 0, none⟩ = some (.int .i64 T1) ∧ W.cell? ⟨A, 1, none⟩ = some (.slice v1 m1 c1)) ∧ (W.cell? ⟨C, 0, none⟩ = some (.int .i64 (min T1 T2)) ∧ W.cell? ⟨C, 1, none⟩ = some (.slice (some ⟨g, 0, none⟩) ll.length cg)) ∧ W.cell? ⟨D, 0, none⟩ = some (.int .i64 (min T1 T2)) ∧ W.cell? ⟨D, 1, none⟩ = some (.slice (some ⟨g2, 0, none⟩) ll.length cg2)) := fun W hW => by
        obtain ⟨p0, p1, _, _⟩ := HAB.out W (D3.then hW D3.size)
        obtain ⟨r0, r1, _, _⟩ := boxed ((hW.block C (lt_of_block bC)).trans bC)
        obtain ⟨s0, s1, _, _⟩ := boxed ((hW.block D (lt_of_block bD)).trans bD)
        exact ⟨⟨p0, p1⟩, ⟨r0, r1⟩, s0, s1⟩
      have HFA : Hid (∀ X LL NN, 0 ≤ X → X ≤ 1000 → 0 ≤ LL → LL ≤ 1000 → 0 ≤ NN → NN ≤ T1 → fitF T1 l1 X LL NN = fitI l1 X LL NN) := fun X LL NN h1 h2 h3 h4 h5 h6 => fitF_t (by rw [hpa, show okB X = true by unfold okB inB; simp; omega, show okB LL = true by unfold okB inB; simp; omega, inB_mk ⟨h5, h6⟩]; rfl)
      have HFN : Hid (∀ X LL NN, T1 < NN → fitF T1 l1 X LL NN = -1) := fun X LL NN h1 => fitF_f (by rw [hpa, inB_no (Or.inr h1)]; simp)
      have HFL : Hid (∀ X LL NN, 0 ≤ X → X ≤ 1000 → 0 ≤ LL → LL ≤ 1000 → 0 ≤ NN → NN ≤ min T1 T2 → fitF (min T1 T2) ll X LL NN = fitI ll X LL NN) := fun X LL NN h1 h2 h3 h4 h5 h6 => fitF_t (by rw [hpo, show okB X = true by unfold okB inB; simp; omega, show okB LL = true by unfold okB inB; simp; omega, inB_mk ⟨h5, h6⟩]; rfl)
      have HSO : Hid _ := SOON
      clear SOON hpa hpo JA JB HAB hlow pa pb wfl bC bD hgc hgc2 hcm hcm2 UA D3
      generalize hM : min T1 T2 = M at HCD HFL HSO ⊢
      have M0 : 0 ≤ M := by omega
      have M1 : M ≤ 1000 := by omega
      have M2 : M ≤ T1 := by omega
      clear hM
      obtain ⟨⟨p0, p1⟩, ⟨r0, r1⟩, s0, s1⟩ := HCD.out WB (Below.refl _ _)
      go_wp2_with fail
      refine (likeProfile_same M (some ⟨g, 0, none⟩) (some ⟨g2, 0, none⟩) ll.length cg cg2 ll _ JC JD).mono ?_
      rintro e w4 ⟨rfl, hb4⟩
      clear p0 p1 r0 r1 s0 s1 JD
      obtain ⟨⟨p0, p1⟩, ⟨r0, r1⟩, _, _⟩ := HCD.out w4 hb4
      have W4 := w0.below (UB.then hb4 UB.size)
      go_wp2_with fail
      refine (pick_any a0 n0 cap0 z0 1 30 _ W4 hn (by omega) (by omega) (by omega) (by omega)).mono ?_
      rintro e w' ⟨x, rfl, x0, x1, hq⟩; have hq' := hq.symm; clear hq; subst hq'
      go_wp2_with fail
      refine (pick_any a0 n0 cap0 z0 2 12 _ W4 hn (by omega) (by omega) (by omega) (by omega)).mono ?_
      rintro e w' ⟨y, rfl, y0, y1, hq⟩; have hq' := hq.symm; clear hq; subst hq'
      go_wp2_with fail
      refine (pick_any a0 n0 cap0 z0 3 (M + 1) _ W4 hn (by omega) (by omega) (by omega) (by omega)).mono ?_
      rintro e w' ⟨k, rfl, k0, k1, hq⟩; have hq' := hq.symm; clear hq; subst hq'
      go_wp2_with fail
      refine (implFit_any T1 x (1 + y) k v1 m1 c1 l1 _ (JA3.below hb4)).mono ?_
      rw [HFA.out x (1 + y) k (by omega) (by omega) (by omega) (by omega) (by omega) (by omega)]
      rintro e w5 ⟨rfl, h5⟩
      have hb5 := hb4.then h5 hb4.size
      clear p0 p1 r0 r1 h5
      obtain ⟨⟨p0, p1⟩, ⟨r0, r1⟩, _, _⟩ := HCD.out w5 hb5
      go_wp2_with fail
      refine (implFit_any M x (1 + y) k _ _ _ ll _ (JC.below hb5)).mono ?_
      rw [HFL.out x (1 + y) k (by omega) (by omega) (by omega) (by omega) (by omega) (by omega)]
      rintro e w6 ⟨rfl, h6⟩
      have hb6 := hb5.then h6 hb5.size
      clear p0 p1 r0 r1 h6
      obtain ⟨⟨p0, p1⟩, _⟩ := HCD.out w6 hb6
      have hb6d : Below WB.heap.size WB w6.drew := hb6.drew
      have W6 := w0.below (UB.then hb6d UB.size)
      go_wp2_with fail
      go_region_with (first
        | (go_at_call 25
           refine (pick_any a0 n0 cap0 z0 4 5 _ W6 hn (by omega) (by omega) (by omega) (by omega)).mono ?_
           rintro e w' ⟨p, rfl, pp0, pp1, hq⟩; have hq' := hq.symm; clear hq; subst hq'; have wpp : IntKind.i64.wrap (1 + y + p) = 1 + y + p := by rw [IntKind.wrap_i64]; omega)
        | (go_at_call 9
           refine (implFit_any T1 x (1 + y + p) k v1 m1 c1 l1 _ (JA3.below hb6d)).mono ?_
           rw [HFA.out x (1 + y + p) k (by omega) (by omega) (by omega) (by omega) (by omega) (by omega)]
           rintro e w7 ⟨rfl, h7⟩))
      all_goals
        have hb7 := hb6d.then h7 hb6d.size
        clear p0 p1 h7 W6
        obtain ⟨⟨p0, p1⟩, _⟩ := HCD.out w7 hb7
        have hb7d : Below WB.heap.size WB w7.drew := hb7.drew
        have W7 := w0.below (UB.then hb7d UB.size)
        go_wp2_with fail
        go_region_with (first
          | (go_at_call 25
             refine (pick_any a0 n0 cap0 z0 5 5 _ W7 hn (by omega) (by omega) (by omega) (by omega)).mono ?_
             rintro e w' ⟨q, rfl, qq0, qq1, hq⟩; have hq' := hq.symm; clear hq; subst hq'; have wqq : IntKind.i64.wrap (x + q) = x + q := by rw [IntKind.wrap_i64]; omega)
          | (go_at_call 9
             refine (implFit_any T1 (x + q) (1 + y) k v1 m1 c1 l1 _ (JA3.below hb7d)).mono ?_
             rw [HFA.out (x + q) (1 + y) k (by omega) (by omega) (by omega) (by omega) (by omega) (by omega)]
             rintro e w8 ⟨rfl, h8⟩))
        all_goals
          have hb8 := hb7d.then h8 hb7d.size
          clear p0 p1 h8 W7
          obtain ⟨⟨p0, p1⟩, _⟩ := HCD.out w8 hb8
          obtain ⟨f1, f2, f3, f4, f5⟩ := HSO.out x (1 + y) k p q (by omega) (by omega) (by omega) (by omega) (by omega)
          have f4' := fun h => f4 h
          clear f4
          by_cases hk1 : k + 1 ≤ T1
          · have f4 := f4' hk1
            have HE : fitF T1 l1 x (1 + y) (k + 1) = fitI l1 x (1 + y) (k + 1) := HFA.out x (1 + y) (k + 1) (by omega) (by omega) (by omega) (by omega) (by omega) (by omega)
            clear f4'
            generalize fitI l1 x (1 + y) k = t at f1 f2 f3 f4 f5 ⊢
            generalize fitI ll x (1 + y) k = u1 at f1 ⊢
            generalize fitI l1 x (1 + y + p) k = u2 at f2 ⊢
            generalize fitI l1 (x + q) (1 + y) k = u3 at f3 ⊢
            have d0 : decide (t < 0) = false := decide_eq_false (by omega)
            have d1 : decide (u1 < t) = false := decide_eq_false (by omega)
            have d2 : decide (u2 < t) = false := decide_eq_false (by omega)
            have d3 : decide (u3 < t) = false := decide_eq_false (by omega)
            go_wp2_with fail
            refine (implFit_any T1 x (1 + y) (k + 1) v1 m1 c1 l1 _ (JA3.below hb8)).mono ?_
            rw [HE]
            rintro e w9 ⟨rfl, h9⟩
            generalize fitI l1 x (1 + y) (k + 1) = z at f4 HE ⊢
            have d4 : (z == -1) = false := by simp; omega
            have d5 : decide (z ≥ t) = true := decide_eq_true (by omega)
            have hfin := UB.then (hb8.then h9 hb8.size) UB.size
            go_wp2
            go_ret
            exact ⟨rfl, hfin⟩
          · have HE : fitF T1 l1 x (1 + y) (k + 1) = -1 := HFN.out x (1 + y) (k + 1) (by omega)
            clear f4'
            generalize fitI l1 x (1 + y) k = t at f1 f2 f3 f5 ⊢
            generalize fitI ll x (1 + y) k = u1 at f1 ⊢
            generalize fitI l1 x (1 + y + p) k = u2 at f2 ⊢
            generalize fitI l1 (x + q) (1 + y) k = u3 at f3 ⊢
            have d0 : decide (t < 0) = false := decide_eq_false (by omega)
            have d1 : decide (u1 < t) = false := decide_eq_false (by omega)
            have d2 : decide (u2 < t) = false := decide_eq_false (by omega)
            have d3 : decide (u3 < t) = false := decide_eq_false (by omega)
            go_wp2_with fail
            refine (implFit_any T1 x (1 + y) (k + 1) v1 m1 c1 l1 _ (JA3.below hb8)).mono ?_
            rw [HE]
            rintro e w9 ⟨rfl, h9⟩
            have hfin := UB.then (hb8.then h9 hb8.size) UB.size
            go_wp2
            go_ret
            exact ⟨rfl, hfin⟩
  · have c0 : decide (4096 < n0) = true := by simpa using hn
    go_enter Try.func5, Try.ntmps5
    go_wp2_with fail
    refine (big_any a0 n0 cap0 _ true c0.symm).mono ?_
    rintro e w' ⟨rfl, hq⟩; have hq' := hq.symm; clear hq; subst hq'
    go_wp2
    go_ret
    exact ⟨rfl, Below.refl _ _⟩

set_option maxRecDepth 100000 in
theorem lifted (os : Os) (started : os.Started) (H : Type) (enc : TypeId × Value → H) :
    ReturnsInHanded {} Try.checked os 5 .any (Rows.fnSoonerSpec.pre6 enc Try.prog Try.f5 Rows.fnSoonerRow.domain false) (Rows.fnSoonerSpec.post enc Try.prog Try.f5 false true false false) := by
  refine returnsInHanded_of_change (C := Try.checked) own started (by kernel_rfl) Try.func5
    (ChangeSpec.witness6 (enc := enc) (C := Try.checked) false ⟨#[], #[.slice none 0 0], []⟩ 8 (by kernel_rfl) (by kernel_rfl) (by kernel_rfl) (by kernel_rfl)) ?_
  intro W base args ds gs before hval0 hW hcnd _
  have hval : ∀ (j : Nat) t v, Try.f5.params[j]? = some t → args[j]? = some v → Value.okWide Try.prog W .any base t v := hval0
  have hW' := hW
  obtain ⟨p, q, hA0, hV, rfl, hfz, hnd⟩ := hW
  have hA : DataW.TrodAll enc Try.prog W 0 (fun _ => true) true Try.f5.params.toList args.toList ds p := hA0
  rw [Try.params5] at hA hval
  obtain ⟨v0, vs0, d0, ds0, p0, q0, hargs, rfl, rfl, h0, r0⟩ := trodAll_cons hA
  obtain ⟨rfl, rfl, rfl⟩ := trodAll_nil r0
  obtain rfl : args = #[v0] := by cases args; simp_all
  obtain ⟨rfl, rfl⟩ := trodVars_none hV
  have k0 := h0
  have lt0 : ∀ x ∈ p0, x.block < W.heap.size := by obtain ⟨m, hm⟩ := k0; exact DataW.trod_lt m _ _ _ hm
  obtain ⟨a0, n0, cap0, z0, rfl, w0⟩ := open_bytes (hval 0 22 v0 rfl rfl) h0
  clear hA0 hval0
  refine (walk a0 n0 cap0 z0 W w0).mono fun e W' ⟨he, bel⟩ => ?_
  subst he
  exact ⟨_, rfl, _, _, _, [], _, [], hW', trodAll_mk1 (shut_bool Try.underlying4 _), (trodAll_cons_mk (Below.trod laidOut (by kernel_rfl) (of_decide_eq_true (by kernel_rfl)) k0 bel lt0) trodAll_mk0), rfl, bel.frame _, fun h => by cases h⟩

theorem over : Rows.fnSoonerRow.holds Try.pinned (OpenSpec.ofChange Rows.fnSoonerSpec) :=
  OpenClaim.holds_of_wide 5 Try.f5 rfl rfl rfl rfl rfl rfl rfl ⟨rfl, rfl, rfl, rfl, rfl⟩ rfl rfl rfl rfl rfl (by kernel_rfl) Try.func5 (by kernel_rfl)
    (of_decide_eq_true (by kernel_rfl)) (by unfold Func.isWrapper; first | (rw [if_pos (by decide +kernel)]; kernel_rfl) | (rw [if_neg (by decide +kernel)]; exact ⟨rfl, rfl⟩))
    (fun os started H enc _ => lifted os started H enc)

/-- the given statement -/
theorem proved : Rows.FnSoonerSaid := over
#print axioms proved
end Go.Proofs.Ytdaedggmeoganaa.fnSooner
