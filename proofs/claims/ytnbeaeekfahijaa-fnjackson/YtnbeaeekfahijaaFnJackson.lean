/- For every input that can be read the law FnJackson returns true, and what it was handed reads as before. The frame is the kit's; the opening of the arguments and the walk are ours. -/
import Derived.Test.YtnbeaeekfahijaaRows
import Derived.WalkKit
import Derived.ProofKit
import Derived.OpenShut
import Derived.ChangeOld
import Derived.Below
import Derived.Test.YtnbeaeekfahijaaOptV
import Derived.Test.YtnbeaeekfahijaaRuleI2
import Derived.Test.YtnbeaeekfahijaaSelS4
import Derived.Test.YtnbeaeekfahijaaEndsS2
import Derived.Test.YtnbeaeekfahijaaEndsS3
import Derived.Test.YtnbeaeekfahijaaJobDrawA
import Derived.Test.YtnbeaeekfahijaaBytesOpen
import Derived.Deep.Cut
import Derived.Deep.CutRange
namespace Go.Proofs.Ytnbeaeekfahijaa.fnJackson
open Go.ChangeShapes Go.WideShapes Go.ChangeAt Go.RowKit
open Go.Sort
set_option linter.unusedVariables false

theorem own : ownKnob Try.prog.godebug = none := by kernel_rfl
theorem laidOut : laidOutB Try.prog = true := by kernel_rfl

set_option maxRecDepth 8000 in
set_option maxHeartbeats 8000000 in
theorem walk (a0 : Option Addr) (n0 cap0 : Nat) (z0 : List Int) (w : World) (w0 : IsBytes w a0 n0 cap0 z0) :
    Calls Try.prog 3 #[.slice a0 n0 cap0] w fun e w' => e = .returned (.bool true) ∧ Below w.heap.size w w' := by
  have hmx := w0.mx
  have hle := w0.le
  by_cases hn : n0 ≤ 4096
  · go_enter Try.func3, Try.ntmps3
    go_wp2_with fail
    refine (big_any a0 n0 cap0 _ false (by simpa using hn)).mono ?_
    rintro e w' ⟨rfl, hq⟩; have hq' := hq.symm; clear hq; subst hq'
    go_wp2_with fail
    refine (drawJackson_any a0 n0 cap0 z0 _ w0 hn).mono ?_
    rintro e w1 ⟨g, c, ys, rfl, O, hy, hA, U1⟩
    have J1 : JobS w1 (some ⟨g, 0, none⟩) ys.length c ys := O.toS (fun i hi => (hA _ (by rw [jg_get hi]; exact List.getElem_mem hi)).wf)
    have V1 : Below w1.heap.size w1 w1 := Below.refl _ _
    clear hA
    rcases hq : jsB ys with _ | _
    · go_wp2_with fail
      refine (implJackson_no _ ys.length c ys _ (J1.below V1) hq).mono ?_
      rintro e w2 ⟨rfl, hb2⟩
      have U2 := U1.then hb2 U1.size
      have V2 := V1.then hb2 V1.size
      go_wp2_with fail
      refine (implSmith_no _ ys.length c ys _ (J1.below V2) hq).mono ?_
      rintro e w3 ⟨rfl, hb3⟩
      have U3 := U2.then hb3 U2.size
      have V3 := V2.then hb3 V2.size
      go_wp2_with fail
      refine (implShortest_no _ ys.length c ys _ (J1.below V3) hq).mono ?_
      rintro e w4 ⟨rfl, hb4⟩
      have U4 := U3.then hb4 U3.size
      have V4 := V3.then hb4 V3.size
      go_wp2_with fail
      refine (specJacksonQ_any _ ys.length c ys _ (J1.below V4)).mono ?_
      rintro e w5 ⟨v5, m, c5, xs, rfl, J5, hQ, hb5⟩
      have U5 := U4.then hb5 U4.size
      have V5 := V4.then hb5 V4.size
      obtain rfl : xs = [] := hQ.uniq antiDue (Or.inl ⟨hq, rfl⟩)
      obtain rfl : m = 0 := J5.len.symm
      clear hQ
      go_wp2_with fail
      refine (likeJobs_same none v5 0 0 c5 [] _ (JobS.nil_ _) J5).mono ?_
      rintro e w6 ⟨rfl, hb6⟩
      have U6 := U5.then hb6 U5.size
      have V6 := V5.then hb6 V5.size
      go_wp2_with fail
      refine (specSmithQ_any _ ys.length c ys _ (J1.below V6)).mono ?_
      rintro e w7 ⟨v7, m, c7, xs, rfl, J7, hQ, hb7⟩
      have U7 := U6.then hb7 U6.size
      have V7 := V6.then hb7 V6.size
      obtain rfl : xs = [] := hQ.uniq antiSm (Or.inl ⟨hq, rfl⟩)
      obtain rfl : m = 0 := J7.len.symm
      clear hQ
      go_wp2_with fail
      refine (likeJobs_same none v7 0 0 c7 [] _ (JobS.nil_ _) J7).mono ?_
      rintro e w8 ⟨rfl, hb8⟩
      have U8 := U7.then hb8 U7.size
      have V8 := V7.then hb8 V7.size
      go_wp2_with fail
      refine (specShortestQ_any _ ys.length c ys _ (J1.below V8)).mono ?_
      rintro e w9 ⟨v9, m, c9, xs, rfl, J9, hQ, hb9⟩
      have U9 := U8.then hb9 U8.size
      have V9 := V8.then hb9 V8.size
      obtain rfl : xs = [] := hQ.uniq antiLong (Or.inl ⟨hq, rfl⟩)
      obtain rfl : m = 0 := J9.len.symm
      clear hQ
      go_wp2_with fail
      refine (likeJobs_same none v9 0 0 c9 [] _ (JobS.nil_ _) J9).mono ?_
      rintro e w10 ⟨rfl, hb10⟩
      have U10 := U9.then hb10 U9.size
      have V10 := V9.then hb10 V9.size
      go_wp2_with fail
      refine (specJobsOk_any _ ys.length c ys _ (J1.below V10)).mono ?_
      rw [hq]
      rintro e w11 ⟨rfl, hb11⟩
      have U11 := U10.then hb11 U10.size
      go_wp2
      go_ret
      exact ⟨rfl, U11⟩
    · have hy40 : ys.length ≤ 40 := (jsB_t hq).n
      have wfy : ∀ i, i < ys.length → jwf (jg ys i) := fun i hi => J1.wf i hi
      go_wp2_with fail
      refine (implJackson_yes _ ys.length c ys _ (J1.below V1) hq).mono ?_
      rintro e w2 ⟨Bjs, js, rfl, hBjs, Gjs, hljs, hQjs, hb2⟩
      have U2 := U1.then hb2 U1.size
      have V2 := V1.then hb2 V1.size
      have Kjs : JobS w2 (some ⟨Bjs, 0, none⟩) ys.length ys.length js := Gjs.toS hljs (by omega) (fun i hi => hQjs.wf wfy i (by omega))
      have Pjs2 : Below w2.heap.size w2 w2 := Below.refl _ _
      clear Gjs hBjs
      go_wp2_with fail
      refine (implSmith_yes _ ys.length c ys _ (J1.below V2) hq).mono ?_
      rintro e w3 ⟨Bss, ss, rfl, hBss, Gss, hlss, hQss, hb3⟩
      have U3 := U2.then hb3 U2.size
      have V3 := V2.then hb3 V2.size
      have Pjs3 := Pjs2.then hb3 Pjs2.size
      have Kss : JobS w3 (some ⟨Bss, 0, none⟩) ys.length ys.length ss := Gss.toS hlss (by omega) (fun i hi => hQss.wf wfy i (by omega))
      have Pss3 : Below w3.heap.size w3 w3 := Below.refl _ _
      clear Gss hBss
      go_wp2_with fail
      refine (implShortest_yes _ ys.length c ys _ (J1.below V3) hq).mono ?_
      rintro e w4 ⟨Bts, ts, rfl, hBts, Gts, hlts, hQts, hb4⟩
      have U4 := U3.then hb4 U3.size
      have V4 := V3.then hb4 V3.size
      have Pjs4 := Pjs3.then hb4 Pjs3.size
      have Pss4 := Pss3.then hb4 Pss3.size
      have Kts : JobS w4 (some ⟨Bts, 0, none⟩) ys.length ys.length ts := Gts.toS hlts (by omega) (fun i hi => hQts.wf wfy i (by omega))
      have Pts4 : Below w4.heap.size w4 w4 := Below.refl _ _
      clear Gts hBts
      go_wp2_with fail
      refine (specJacksonQ_any _ ys.length c ys _ (J1.below V4)).mono ?_
      rintro e w5 ⟨v5, m, c5, xs, rfl, J5, hQ, hb5⟩
      have U5 := U4.then hb5 U4.size
      have V5 := V4.then hb5 V4.size
      have Pjs5 := Pjs4.then hb5 Pjs4.size
      have Pss5 := Pss4.then hb5 Pss4.size
      have Pts5 := Pts4.then hb5 Pts4.size
      obtain rfl := hQjs.uniq antiDue hQ
      obtain rfl : m = ys.length := by rw [← J5.len, hljs]
      clear hQ
      go_wp2_with fail
      refine (likeJobs_same _ v5 ys.length ys.length c5 js _ (Kjs.below Pjs5) J5).mono ?_
      rintro e w6 ⟨rfl, hb6⟩
      clear J5
      have U6 := U5.then hb6 U5.size
      have V6 := V5.then hb6 V5.size
      have Pjs6 := Pjs5.then hb6 Pjs5.size
      have Pss6 := Pss5.then hb6 Pss5.size
      have Pts6 := Pts5.then hb6 Pts5.size
      go_wp2_with fail
      refine (specSmithQ_any _ ys.length c ys _ (J1.below V6)).mono ?_
      rintro e w7 ⟨v7, m, c7, xs, rfl, J7, hQ, hb7⟩
      have U7 := U6.then hb7 U6.size
      have V7 := V6.then hb7 V6.size
      have Pjs7 := Pjs6.then hb7 Pjs6.size
      have Pss7 := Pss6.then hb7 Pss6.size
      have Pts7 := Pts6.then hb7 Pts6.size
      obtain rfl := hQss.uniq antiSm hQ
      obtain rfl : m = ys.length := by rw [← J7.len, hlss]
      clear hQ
      go_wp2_with fail
      refine (likeJobs_same _ v7 ys.length ys.length c7 ss _ (Kss.below Pss7) J7).mono ?_
      rintro e w8 ⟨rfl, hb8⟩
      clear J7
      have U8 := U7.then hb8 U7.size
      have V8 := V7.then hb8 V7.size
      have Pjs8 := Pjs7.then hb8 Pjs7.size
      have Pss8 := Pss7.then hb8 Pss7.size
      have Pts8 := Pts7.then hb8 Pts7.size
      go_wp2_with fail
      refine (specShortestQ_any _ ys.length c ys _ (J1.below V8)).mono ?_
      rintro e w9 ⟨v9, m, c9, xs, rfl, J9, hQ, hb9⟩
      have U9 := U8.then hb9 U8.size
      have V9 := V8.then hb9 V8.size
      have Pjs9 := Pjs8.then hb9 Pjs8.size
      have Pss9 := Pss8.then hb9 Pss8.size
      have Pts9 := Pts8.then hb9 Pts8.size
      obtain rfl := hQts.uniq antiLong hQ
      obtain rfl : m = ys.length := by rw [← J9.len, hlts]
      clear hQ
      go_wp2_with fail
      refine (likeJobs_same _ v9 ys.length ys.length c9 ts _ (Kts.below Pts9) J9).mono ?_
      rintro e w10 ⟨rfl, hb10⟩
      clear J9
      have U10 := U9.then hb10 U9.size
      have V10 := V9.then hb10 V9.size
      have Pjs10 := Pjs9.then hb10 Pjs9.size
      have Pss10 := Pss9.then hb10 Pss9.size
      have Pts10 := Pts9.then hb10 Pts9.size
      go_wp2_with fail
      refine (specJobsOk_any _ ys.length c ys _ (J1.below V10)).mono ?_
      rw [hq]
      rintro e w11 ⟨rfl, hb11⟩
      have U11 := U10.then hb11 U10.size
      have V11 := V10.then hb11 V10.size
      have Pjs11 := Pjs10.then hb11 Pjs10.size
      have Pss11 := Pss10.then hb11 Pss10.size
      have Pts11 := Pts10.then hb11 Pts10.size
      go_wp2_with fail
      refine (together_any _ _ ys.length ys.length c js ys _ (Kjs.below Pjs11) (J1.below V11) (fun y hy => (hQjs.perm hq).1.subset hy)).mono ?_
      rintro e w12 ⟨rfl, hb12⟩
      have U12 := U11.then hb12 U11.size
      have V12 := V11.then hb12 V11.size
      have Pjs12 := Pjs11.then hb12 Pjs11.size
      have Pss12 := Pss11.then hb12 Pss11.size
      have Pts12 := Pts11.then hb12 Pts11.size
      go_wp2_with fail
      refine (together_any _ _ ys.length ys.length c ss ys _ (Kss.below Pss12) (J1.below V12) (fun y hy => (hQss.perm hq).1.subset hy)).mono ?_
      rintro e w13 ⟨rfl, hb13⟩
      have U13 := U12.then hb13 U12.size
      have V13 := V12.then hb13 V12.size
      have Pjs13 := Pjs12.then hb13 Pjs12.size
      have Pss13 := Pss12.then hb13 Pss12.size
      have Pts13 := Pts12.then hb13 Pts12.size
      go_wp2_with fail
      refine (together_any _ _ ys.length ys.length c ts ys _ (Kts.below Pts13) (J1.below V13) (fun y hy => (hQts.perm hq).1.subset hy)).mono ?_
      rintro e w14 ⟨rfl, hb14⟩
      have U14 := U13.then hb14 U13.size
      have V14 := V13.then hb14 V13.size
      have Pjs14 := Pjs13.then hb14 Pjs13.size
      have Pss14 := Pss13.then hb14 Pss13.size
      have Pts14 := Pts13.then hb14 Pts13.size
      have UL := U14
      have JL := J1.below V14
      have OL := O.below V14
      have Kjs := Kjs.below Pjs14
      have Kss := Kss.below Pss14
      have Kts := Kts.below Pts14
      clear U1 U2 U3 U4 U5 U6 U7 U8 U9 U10 U11 U12 U13 U14 V1 V2 V3 V4 V5 V6 V7 V8 V9 V10 V11 V12 V13 V14 Pjs2 Pjs3 Pjs4 Pjs5 Pjs6 Pjs7 Pjs8 Pjs9 Pjs10 Pjs11 Pjs12 Pjs13 Pjs14 Pss3 Pss4 Pss5 Pss6 Pss7 Pss8 Pss9 Pss10 Pss11 Pss12 Pss13 Pss14 Pts4 Pts5 Pts6 Pts7 Pts8 Pts9 Pts10 Pts11 Pts12 Pts13 Pts14 hb2 hb3 hb4 hb5 hb6 hb7 hb8 hb9 hb10 hb11 hb12 hb13 hb14 O J1
      generalize w14 = WL at UL JL OL Kjs Kss Kts ⊢
      go_wp2
      go_loopw [7] (fun i wr => ∃ k : Nat, k ≤ 40 ∧ i = .int .i64 k ∧ Below WL.heap.size WL wr) (fun i _ => 40 - (intOf i).toNat)
      case atStart => exact ⟨0, by omega, rfl, Below.refl _ _⟩
      case round =>
        obtain ⟨k, hk, rfl, hw⟩ := hrel
        rename World => wo
        by_cases hlt : k < 40
        · have hlt' : (k : Int) < 40 := by omega
          obtain ⟨i1, hj, hj0, hj1, hj2⟩ := info_parts infoJ
          have OE := World.ownsRow_made (base := wo.heap.size) (e := 31) (size := 7) wo #[] 0 (Nat.le_refl _) (Nat.zero_le _) rfl
          have O4 := OL.below hw
          have HC : ∀ j u, (jcells ys)[j]? = some u → (wo.alloc (.cells #[] 31)).cell? ((⟨g, 0, none⟩ : Addr).add j) = some u := by
            intro j u hju
            have := World.ownsRow.cells O4.own (g := g) rfl j u hju
            have hadd : (⟨g, 0, none⟩ : Addr).add j = ⟨g, j, none⟩ := by unfold Addr.add; split <;> simp_all
            rw [hadd] at this ⊢
            rw [World.cell?_alloc_lt _ _ _ O4.lt]
            exact this
          have hjl : (jcells ys).length = ys.length * 7 := jcells_len ys
          have hle4 := O4.le
          have hmx4 := O4.mx
          unfold maxLen at hmx4
          go_wp2_with (at_builtin; refine wpList_append_own_at _ rfl (.tmp 73) (.tmp 74) 24 rfl wo.heap.size 31 i1 (.agg #[.int .i64 0, .int .i64 0, .int .i64 0, .int .i64 0, .int .i64 0, .int .i64 0, .int .i64 0]) 7 56 Try.underlying24 hj hj0 hj1 hj2 rfl (by decide) _ _ _ rfl OE ⟨g, 0, none⟩ ys.length c (jcells ys) ?eb hjl HC (jcells_one _) (by unfold maxLen; omega) (by omega) (by simp) ?_)
          case eb => rfl
          intro v5 w5 own5 grow5 nil5 at5
          obtain ⟨g6, c6, rfl, O6⟩ := ownJ_of (ys := ys) own5 (by simp) (by simp) (by first | exact nil5 | exact fun e => nomatch (nil5.1 e).1)
          have B5 : Below wo.heap.size wo w5 := box_below0.grown grow5 (by simp) (fun r e => by simp [Value.ownBlock] at e; omega)
          clear own5 grow5 nil5 at5 OE HC hjl
          have HO6 : Hid _ := O6
          clear O6
          go_wp2
          go_loopw [9] (fun q wi => ∃ (kk : Int) (zs : List Jb), -1 ≤ kk ∧ kk < ys.length ∧ q = .int .i64 kk ∧ zs.length = ys.length ∧ Hid (zs.Perm ys) ∧ Hid (OwnJ wi wo.heap.size g6 c6 zs) ∧ Below wo.heap.size wo wi) (fun q _ => (intOf q).toNat)
          case atStart => exact ⟨_, ys, by omega, by omega, rfl, rfl, List.Perm.refl _, HO6.out, B5⟩
          case round =>
            obtain ⟨kk, zs, k0, k1, rfl, hzl, HP, HO, hwi⟩ := hrel
            rename World => wi
            clear HO6 B5
            by_cases hpos : 0 < kk
            · obtain ⟨kn, rfl⟩ := Int.eq_ofNat_of_zero_le (show 0 ≤ kk by omega)
              have hkn : kn < zs.length := by omega
              go_wp2_with fail
              refine (pick2_any a0 n0 cap0 z0 _ _ _ (((w0.below UL).below hw).below hwi) hn (by omega) (by omega) (by omega) (by omega)).mono ?_
              rintro e w' ⟨x, rfl, x0, x1, hq'⟩; have hq2 := hq'.symm; clear hq'; subst hq2
              obtain ⟨xn, rfl⟩ := Int.eq_ofNat_of_zero_le x0
              have hxn : xn < zs.length := by omega
              have hgl := HO.out.lt
              have hgw : wo.heap.size ≤ g6 := HO.out.base
              have q0 : wi.cell? ⟨g6, kn * 7, none⟩ = some (.int .i64 (jg zs kn).id) := (HO.out.cell (i := kn) (f := 0) hkn (by omega)).1
              have q1 : wi.cell? ⟨g6, kn * 7 + 1, none⟩ = some (.int .i64 (jg zs kn).cores) := (HO.out.cell (i := kn) (f := 1) hkn (by omega)).1
              have q2 : wi.cell? ⟨g6, kn * 7 + 2, none⟩ = some (.int .i64 (jg zs kn).long) := (HO.out.cell (i := kn) (f := 2) hkn (by omega)).1
              have q3 : wi.cell? ⟨g6, kn * 7 + 3, none⟩ = some (.int .i64 (jg zs kn).due) := (HO.out.cell (i := kn) (f := 3) hkn (by omega)).1
              have q4 : wi.cell? ⟨g6, kn * 7 + 4, none⟩ = some (.int .i64 (jg zs kn).wt) := (HO.out.cell (i := kn) (f := 4) hkn (by omega)).1
              have q5 : wi.cell? ⟨g6, kn * 7 + 5, none⟩ = some (.int .i64 (jg zs kn).rank) := (HO.out.cell (i := kn) (f := 5) hkn (by omega)).1
              have q6 : wi.cell? ⟨g6, kn * 7 + 6, none⟩ = some (.int .i64 (jg zs kn).at_) := (HO.out.cell (i := kn) (f := 6) hkn (by omega)).1
              have n1 : (kn : Int) < (ys.length : Int) := by omega
              have n2 : (xn : Int) < (ys.length : Int) := by omega
              have n3 : (0 : Int) ≤ (kn : Int) := by omega
              have n4 : (0 : Int) ≤ (xn : Int) := by omega
              have n5 : kn < ys.length := by omega
              have n6 : xn < ys.length := by omega
              go_upto_region 22 with fail
              have bA : (wi.alloc (.cells #[.int .i64 (jg zs kn).id, .int .i64 (jg zs kn).cores, .int .i64 (jg zs kn).long, .int .i64 (jg zs kn).due, .int .i64 (jg zs kn).wt, .int .i64 (jg zs kn).rank, .int .i64 (jg zs kn).at_] 31)).heap[wi.heap.size]? = some (.cells #[.int .i64 (jg zs kn).id, .int .i64 (jg zs kn).cores, .int .i64 (jg zs kn).long, .int .i64 (jg zs kn).due, .int .i64 (jg zs kn).wt, .int .i64 (jg zs kn).rank, .int .i64 (jg zs kn).at_] 31 (0, 0)) := heap_alloc_new _ _
              have OA : OwnJ (wi.alloc (.cells #[.int .i64 (jg zs kn).id, .int .i64 (jg zs kn).cores, .int .i64 (jg zs kn).long, .int .i64 (jg zs kn).due, .int .i64 (jg zs kn).wt, .int .i64 (jg zs kn).rank, .int .i64 (jg zs kn).at_] 31)) wo.heap.size g6 c6 zs := HO.out.below box_below
              have BA : Below wo.heap.size wo (wi.alloc (.cells #[.int .i64 (jg zs kn).id, .int .i64 (jg zs kn).cores, .int .i64 (jg zs kn).long, .int .i64 (jg zs kn).due, .int .i64 (jg zs kn).wt, .int .i64 (jg zs kn).rank, .int .i64 (jg zs kn).at_] 31)) := hwi.alloc hwi.size _
              generalize wi.alloc (.cells #[.int .i64 (jg zs kn).id, .int .i64 (jg zs kn).cores, .int .i64 (jg zs kn).long, .int .i64 (jg zs kn).due, .int .i64 (jg zs kn).wt, .int .i64 (jg zs kn).rank, .int .i64 (jg zs kn).at_] 31) = WA at bA OA BA ⊢
              have hYg : wi.heap.size ≠ g6 := by omega
              generalize wi.heap.size = Y at bA hYg ⊢
              clear q0 q1 q2 q3 q4 q5 q6 hgl
              have r0 := OA.cell (i := kn) (f := 0) hkn (by omega)
              have p0 : WA.cell? ⟨g6, xn * 7, none⟩ = some (.int .i64 (jg zs xn).id) := (OA.cell (i := xn) (f := 0) hxn (by omega)).1
              have r1 := OA.cell (i := kn) (f := 1) hkn (by omega)
              have p1 : WA.cell? ⟨g6, xn * 7 + 1, none⟩ = some (.int .i64 (jg zs xn).cores) := (OA.cell (i := xn) (f := 1) hxn (by omega)).1
              have r2 := OA.cell (i := kn) (f := 2) hkn (by omega)
              have p2 : WA.cell? ⟨g6, xn * 7 + 2, none⟩ = some (.int .i64 (jg zs xn).long) := (OA.cell (i := xn) (f := 2) hxn (by omega)).1
              have r3 := OA.cell (i := kn) (f := 3) hkn (by omega)
              have p3 : WA.cell? ⟨g6, xn * 7 + 3, none⟩ = some (.int .i64 (jg zs xn).due) := (OA.cell (i := xn) (f := 3) hxn (by omega)).1
              have r4 := OA.cell (i := kn) (f := 4) hkn (by omega)
              have p4 : WA.cell? ⟨g6, xn * 7 + 4, none⟩ = some (.int .i64 (jg zs xn).wt) := (OA.cell (i := xn) (f := 4) hxn (by omega)).1
              have r5 := OA.cell (i := kn) (f := 5) hkn (by omega)
              have p5 : WA.cell? ⟨g6, xn * 7 + 5, none⟩ = some (.int .i64 (jg zs xn).rank) := (OA.cell (i := xn) (f := 5) hxn (by omega)).1
              have r6 := OA.cell (i := kn) (f := 6) hkn (by omega)
              have p6 : WA.cell? ⟨g6, xn * 7 + 6, none⟩ = some (.int .i64 (jg zs xn).at_) := (OA.cell (i := xn) (f := 6) hxn (by omega)).1
              simp only [jc, Nat.add_zero] at r0 r1 r2 r3 r4 r5 r6
              go_upto_region 23 with fail
              have OB := OA.store7 (i := kn) hkn (jg zs xn)
              have bB : (((((((WA.setCell ⟨g6, kn * 7, none⟩ (.int .i64 (jg zs xn).id)).setCell ⟨g6, kn * 7 + 1, none⟩ (.int .i64 (jg zs xn).cores)).setCell ⟨g6, kn * 7 + 2, none⟩ (.int .i64 (jg zs xn).long)).setCell ⟨g6, kn * 7 + 3, none⟩ (.int .i64 (jg zs xn).due)).setCell ⟨g6, kn * 7 + 4, none⟩ (.int .i64 (jg zs xn).wt)).setCell ⟨g6, kn * 7 + 5, none⟩ (.int .i64 (jg zs xn).rank)).setCell ⟨g6, kn * 7 + 6, none⟩ (.int .i64 (jg zs xn).at_)).heap[Y]? = some (.cells #[.int .i64 (jg zs kn).id, .int .i64 (jg zs kn).cores, .int .i64 (jg zs kn).long, .int .i64 (jg zs kn).due, .int .i64 (jg zs kn).wt, .int .i64 (jg zs kn).rank, .int .i64 (jg zs kn).at_] 31 (0, 0)) := (Below.heap_setCell _ _ _ _ hYg).trans ((Below.heap_setCell _ _ _ _ hYg).trans ((Below.heap_setCell _ _ _ _ hYg).trans ((Below.heap_setCell _ _ _ _ hYg).trans ((Below.heap_setCell _ _ _ _ hYg).trans ((Below.heap_setCell _ _ _ _ hYg).trans ((Below.heap_setCell _ _ _ _ hYg).trans (bA)))))))
              have BB : Below wo.heap.size wo (((((((WA.setCell ⟨g6, kn * 7, none⟩ (.int .i64 (jg zs xn).id)).setCell ⟨g6, kn * 7 + 1, none⟩ (.int .i64 (jg zs xn).cores)).setCell ⟨g6, kn * 7 + 2, none⟩ (.int .i64 (jg zs xn).long)).setCell ⟨g6, kn * 7 + 3, none⟩ (.int .i64 (jg zs xn).due)).setCell ⟨g6, kn * 7 + 4, none⟩ (.int .i64 (jg zs xn).wt)).setCell ⟨g6, kn * 7 + 5, none⟩ (.int .i64 (jg zs xn).rank)).setCell ⟨g6, kn * 7 + 6, none⟩ (.int .i64 (jg zs xn).at_)) := ((((((BA.setCell hgw _).setCell hgw _).setCell hgw _).setCell hgw _).setCell hgw _).setCell hgw _).setCell hgw _
              generalize ((((((WA.setCell ⟨g6, kn * 7, none⟩ (.int .i64 (jg zs xn).id)).setCell ⟨g6, kn * 7 + 1, none⟩ (.int .i64 (jg zs xn).cores)).setCell ⟨g6, kn * 7 + 2, none⟩ (.int .i64 (jg zs xn).long)).setCell ⟨g6, kn * 7 + 3, none⟩ (.int .i64 (jg zs xn).due)).setCell ⟨g6, kn * 7 + 4, none⟩ (.int .i64 (jg zs xn).wt)).setCell ⟨g6, kn * 7 + 5, none⟩ (.int .i64 (jg zs xn).rank)).setCell ⟨g6, kn * 7 + 6, none⟩ (.int .i64 (jg zs xn).at_) = WB at OB bB BB ⊢
              clear bA OA BA r0 p0 r1 p1 r2 p2 r3 p3 r4 p4 r5 p5 r6 p6
              obtain ⟨⟨d0, d1, d2, d3, d4, d5, d6⟩, _⟩ := blk7 bB
              have hkl : (zs.set kn (jg zs xn)).length = zs.length := by simp
              have r0 := OB.cell (i := xn) (f := 0) (by omega) (by omega)
              have r1 := OB.cell (i := xn) (f := 1) (by omega) (by omega)
              have r2 := OB.cell (i := xn) (f := 2) (by omega) (by omega)
              have r3 := OB.cell (i := xn) (f := 3) (by omega) (by omega)
              have r4 := OB.cell (i := xn) (f := 4) (by omega) (by omega)
              have r5 := OB.cell (i := xn) (f := 5) (by omega) (by omega)
              have r6 := OB.cell (i := xn) (f := 6) (by omega) (by omega)
              have HO2 : Hid _ := OB.store7 (i := xn) (by omega) (jg zs kn)
              have HB2 : Hid (Below wo.heap.size wo (((((((WB.setCell ⟨g6, xn * 7, none⟩ (.int .i64 (jg zs kn).id)).setCell ⟨g6, xn * 7 + 1, none⟩ (.int .i64 (jg zs kn).cores)).setCell ⟨g6, xn * 7 + 2, none⟩ (.int .i64 (jg zs kn).long)).setCell ⟨g6, xn * 7 + 3, none⟩ (.int .i64 (jg zs kn).due)).setCell ⟨g6, xn * 7 + 4, none⟩ (.int .i64 (jg zs kn).wt)).setCell ⟨g6, xn * 7 + 5, none⟩ (.int .i64 (jg zs kn).rank)).setCell ⟨g6, xn * 7 + 6, none⟩ (.int .i64 (jg zs kn).at_))) := ((((((BB.setCell hgw _).setCell hgw _).setCell hgw _).setCell hgw _).setCell hgw _).setCell hgw _).setCell hgw _
              have HP2 : Hid ((swap2 zs kn xn).Perm ys) := (swap2_perm hkn hxn).trans HP.out
              have hl2 := swap2_len zs kn xn
              simp only [Nat.add_zero] at r0 r1 r2 r3 r4 r5 r6
              generalize (zs.set kn (jg zs xn)) = zt at r0 r1 r2 r3 r4 r5 r6 OB
              clear OB BB bB hkl HO
              go_wp2
              go_roundw
              case rel => exact ⟨(kn : Int) - 1, swap2 zs kn xn, by omega, by omega, by go_num, by omega, HP2, HO2.out, HB2.out⟩
              case measure => simp [intOf]; omega
            · have hle0 : ¬ (0 < kk) := hpos
              have wfz : ∀ i, i < zs.length → jwf (jg zs i) := fun i hi => by
                obtain ⟨j, hj', e⟩ := List.getElem_of_mem (HP.out.subset (show jg zs i ∈ zs by rw [jg_get hi]; exact List.getElem_mem hi))
                rw [← e, ← jg_get hj']; exact wfy j hj'
              have JX0 := HO.out.toS wfz
              have JX : JobS wi (some ⟨g6, 0, none⟩) ys.length c6 zs := by rw [hzl] at JX0; exact JX0
              have UI := hw.then hwi hw.size
              have L1 := jackson_opt hq hQjs HP.out
              have L2 := smith_opt hq hQss HP.out
              have L3 := shortest_opt hq hQts HP.out
              clear JX0 wfz HP HO
              go_wp2_with fail
              refine (specLateness_any _ ys.length c6 zs _ JX).mono ?_
              rintro e x1 ⟨rfl, hx1⟩
              have R1 := UI.then hx1 UI.size
              have JX1 := JX.below hx1
              go_wp2_with fail
              refine (specLateness_any _ ys.length ys.length js _ (Kjs.below R1)).mono ?_
              rintro e x2 ⟨rfl, hx2⟩
              have R2 := R1.then hx2 R1.size
              have JX2 := JX1.below hx2
              go_wp2_with fail
              refine (specWeighted_any _ ys.length c6 zs _ JX2).mono ?_
              rintro e x3 ⟨rfl, hx3⟩
              have R3 := R2.then hx3 R2.size
              have JX3 := JX2.below hx3
              go_wp2_with fail
              refine (specWeighted_any _ ys.length ys.length ss _ (Kss.below R3)).mono ?_
              rintro e x4 ⟨rfl, hx4⟩
              have R4 := R3.then hx4 R3.size
              have JX4 := JX3.below hx4
              go_wp2_with fail
              refine (specWaiting_any _ ys.length c6 zs _ JX4).mono ?_
              rintro e x5 ⟨rfl, hx5⟩
              have R5 := R4.then hx5 R4.size
              go_wp2_with fail
              refine (specWaiting_any _ ys.length ys.length ts _ (Kts.below R5)).mono ?_
              rintro e x6 ⟨rfl, hx6⟩
              have R6 := R5.then hx6 R5.size
              go_wp2
              go_roundw
              case rel => exact ⟨k + 1, by omega, by go_num, R6⟩
              case measure => simp [intOf]; omega
        · have e : k = 40 := by omega
          subst e
          go_wp2
          go_ret
          exact ⟨rfl, UL.then hw UL.size⟩
  · have c0 : decide (4096 < n0) = true := by simpa using hn
    go_enter Try.func3, Try.ntmps3
    go_wp2_with fail
    refine (big_any a0 n0 cap0 _ true c0.symm).mono ?_
    rintro e w' ⟨rfl, hq⟩; have hq' := hq.symm; clear hq; subst hq'
    go_wp2
    go_ret
    exact ⟨rfl, Below.refl _ _⟩

set_option maxRecDepth 100000 in
theorem lifted (os : Os) (started : os.Started) (H : Type) (enc : TypeId × Value → H) :
    ReturnsInHanded {} Try.checked os 3 .any (Rows.fnJacksonSpec.pre6 enc Try.prog Try.f3 Rows.fnJacksonRow.domain false) (Rows.fnJacksonSpec.post enc Try.prog Try.f3 false true false false) := by
  refine returnsInHanded_of_change (C := Try.checked) own started (by kernel_rfl) Try.func3
    (ChangeSpec.witness6 (enc := enc) (C := Try.checked) false ⟨#[], #[.slice none 0 0], []⟩ 8 (by kernel_rfl) (by kernel_rfl) (by kernel_rfl) (by kernel_rfl)) ?_
  intro W base args ds gs before hval0 hW hcnd _
  have hval : ∀ (j : Nat) t v, Try.f3.params[j]? = some t → args[j]? = some v → Value.okWide Try.prog W .any base t v := hval0
  have hW' := hW
  obtain ⟨p, q, hA0, hV, rfl, hfz, hnd⟩ := hW
  have hA : DataW.TrodAll enc Try.prog W 0 (fun _ => true) true Try.f3.params.toList args.toList ds p := hA0
  rw [Try.params3] at hA hval
  obtain ⟨v0, vs0, d0, ds0, p0, q0, hargs, rfl, rfl, h0, r0⟩ := trodAll_cons hA
  obtain ⟨rfl, rfl, rfl⟩ := trodAll_nil r0
  obtain rfl : args = #[v0] := by cases args; simp_all
  obtain ⟨rfl, rfl⟩ := trodVars_none hV
  have k0 := h0
  have lt0 : ∀ x ∈ p0, x.block < W.heap.size := by obtain ⟨m, hm⟩ := k0; exact DataW.trod_lt m _ _ _ hm
  obtain ⟨a0, n0, cap0, z0, rfl, w0⟩ := open_bytes (hval 0 22 v0 rfl rfl) h0
  clear hA0 hval0
  refine (walk a0 n0 cap0 z0 W w0).mono fun e W' ⟨he, bel⟩ => ?_
  subst he
  exact ⟨_, rfl, _, _, _, [], _, [], hW', trodAll_mk1 (shut_bool Try.underlying4 _), (trodAll_cons_mk (Below.trod laidOut (by kernel_rfl) (of_decide_eq_true (by kernel_rfl)) k0 bel lt0) trodAll_mk0), rfl, bel.frame _, fun h => by cases h⟩

theorem over : Rows.fnJacksonRow.holds Try.pinned (OpenSpec.ofChange Rows.fnJacksonSpec) :=
  OpenClaim.holds_of_wide 3 Try.f3 rfl rfl rfl rfl rfl rfl rfl ⟨rfl, rfl, rfl, rfl, rfl⟩ rfl rfl rfl rfl rfl (by kernel_rfl) Try.func3 (by kernel_rfl)
    (of_decide_eq_true (by kernel_rfl)) (by unfold Func.isWrapper; first | (rw [if_pos (by decide +kernel)]; kernel_rfl) | (rw [if_neg (by decide +kernel)]; exact ⟨rfl, rfl⟩))
    (fun os started H enc _ => lifted os started H enc)

/-- the given statement -/
theorem proved : Rows.FnJacksonSaid := over
#print axioms proved
end Go.Proofs.Ytnbeaeekfahijaa.fnJackson
