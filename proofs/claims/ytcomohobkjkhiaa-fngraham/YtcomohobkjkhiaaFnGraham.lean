/- For every input that can be read the law FnGraham returns true, and what it was handed reads as before. The frame is the kit's; the opening of the arguments and the walk are ours. -/
import Derived.Test.YtcomohobkjkhiaaRows
import Derived.WalkKit
import Derived.ProofKit
import Derived.OpenShut
import Derived.ChangeOld
import Derived.Below
import Derived.Test.YtcomohobkjkhiaaGrahM
import Derived.Test.YtcomohobkjkhiaaDraws6
import Derived.Test.YtcomohobkjkhiaaBytesOpen
import Derived.Test.YtcomohobkjkhiaaJobLike
import Derived.Test.YtcomohobkjkhiaaLikeI
namespace Go.Proofs.Ytcomohobkjkhiaa.fnGraham
open Go.ChangeShapes Go.WideShapes Go.ChangeAt Go.RowKit
set_option linter.unusedVariables false

theorem own : ownKnob Try.prog.godebug = none := by kernel_rfl
theorem laidOut : laidOutB Try.prog = true := by kernel_rfl

set_option maxRecDepth 8000 in
set_option maxHeartbeats 8000000 in
theorem walk (a0 : Option Addr) (n0 cap0 : Nat) (z0 : List Int) (w : World) (w0 : IsBytes w a0 n0 cap0 z0) :
    Calls Try.prog 3 #[.slice a0 n0 cap0] w fun e w' => e = .returned (.bool true) ∧ Below w.heap.size w w' := by
  have hmx := w0.mx
  have hle := w0.le
  by_cases hn : n0 ≤ 4096
  · go_enter Try.func3, Try.ntmps3
    go_wp2_with fail
    refine (big_any a0 n0 cap0 _ false (by simpa using hn)).mono ?_
    rintro e w' ⟨rfl, hq⟩; have hq' := hq.symm; clear hq; subst hq'
    go_wp2_with fail
    refine (drawOptimum_any a0 n0 cap0 z0 _ w0 hn).mono ?_
    rintro e w1 ⟨g, c, ys, m, rfl, m0, m1, O, hy, hA, U1⟩
    have J1 : JobS w1 (some ⟨g, 0, none⟩) ys.length c ys := O.toS (fun i hi => (hA _ (by rw [jg_get hi]; exact List.getElem_mem hi)).wf)
    obtain ⟨N, hN⟩ : ∃ N, ys.length = N := ⟨_, rfl⟩
    have HN : Hid (ys.length = N) := hN
    rw [hN] at J1 hy ⊢
    clear hA O hN
    go_wp2_with fail
    refine (implOptimum_any _ N c ys m _ J1).mono ?_
    rintro e w2 ⟨rfl, hb2⟩
    have U2 := U1.then hb2 U1.size
    have J2 := J1.below hb2
    clear J1
    go_wp2_with fail
    refine (implSpreadS_any _ N c ys m _ J2).mono ?_
    rintro e w3 ⟨sv, sk, sc, rfl, I3, hb3⟩
    have U3 := U2.then hb3 U2.size
    have J3 := J2.below hb3
    clear J2
    go_wp2_with fail
    refine (implLongestS_any _ N c ys _ J3).mono ?_
    rintro e w4 ⟨xv, xk, xc, xs, rfl, X4, hby, hb4⟩
    have U4 := U3.then hb4 U3.size
    have J4 := J3.below hb4
    have I4 := I3.below hb4
    clear J3 I3
    go_wp2_with fail
    refine (implBound_any _ N c ys m _ J4).mono ?_
    obtain ⟨BV, hBV⟩ : ∃ BV, (if shB ys m = true then bndV ys m else -1) = BV := ⟨_, rfl⟩
    rw [hBV]
    have HBV : Hid _ := hBV
    clear hBV
    rintro e w5 ⟨rfl, hb5⟩
    have U5 := U4.then hb5 U4.size
    have J5 := J4.below hb5
    have I5 := I4.below hb5
    have X5 := X4.below hb5
    clear J4 I4 X4
    go_wp2_with fail
    refine (drawSpan_any a0 n0 cap0 z0 _ (w0.below U5) hn).mono ?_
    rintro e w6 ⟨pg, pc, ps, pm, qv, qk, qc, us, rfl, PO, hpl, hpA, Q6, hb6⟩
    have U6 := U5.then hb6 U5.size
    have J6 := J5.below hb6
    have I6 := I5.below hb6
    have X6 := X5.below hb6
    have P6 : JobS w6 (some ⟨pg, 0, none⟩) ps.length pc ps := PO.toS (fun i hi => (hpA _ (by rw [jg_get hi]; exact List.getElem_mem hi)).wf)
    clear J5 I5 X5 PO hpA
    go_wp2_with fail
    refine (specOptimum_any _ N c ys m _ J6).mono ?_
    rintro e w7 ⟨rfl, hb7⟩
    have U7 := U6.then hb7 U6.size
    have J7 := J6.below hb7
    have I7 := I6.below hb7
    have X7 := X6.below hb7
    have P7 := P6.below hb7
    have Q7 := Q6.below hb7
    clear J6 I6 X6 P6 Q6
    have do1 : (optI ys m != optI ys m) = false := by simp
    go_wp2_with fail
    refine (specSpreadS_any _ N c ys m _ J7).mono ?_
    rintro e w8 ⟨tv, tk, tc, rfl, T8, hb8⟩
    have U8 := U7.then hb8 U7.size
    have J8 := J7.below hb8
    have I8 := I7.below hb8
    have X8 := X7.below hb8
    have P8 := P7.below hb8
    have Q8 := Q7.below hb8
    clear J7 I7 X7 P7 Q7
    obtain rfl : sk = tk := I8.len.symm.trans T8.len
    go_wp2_with fail
    refine (likeInts_same6 _ _ sk sc tc (sprI ys m) _ I8 T8).mono ?_
    rintro e w9 ⟨rfl, hb9⟩
    have U9 := U8.then hb9 U8.size
    have J9 := J8.below hb9
    have I9 := I8.below hb9
    have X9 := X8.below hb9
    have P9 := P8.below hb9
    have Q9 := Q8.below hb9
    clear J8 I8 X8 P8 Q8 T8
    go_wp2_with fail
    refine (specLongestQ_any _ N c ys _ J9).mono ?_
    rintro e w10 ⟨lv, lk, lc, xs', rfl, L10, hby', hb10⟩
    obtain rfl := hby'.uniq antiLongest hby
    have U10 := U9.then hb10 U9.size
    have J10 := J9.below hb10
    have I10 := I9.below hb10
    have X10 := X9.below hb10
    have P10 := P9.below hb10
    have Q10 := Q9.below hb10
    clear J9 I9 X9 P9 Q9 hby'
    obtain rfl : xk = lk := X10.len.symm.trans L10.len
    go_wp2_with fail
    refine (likeJobs_same _ _ xk xc lc xs' _ X10 L10).mono ?_
    rintro e w11 ⟨rfl, hb11⟩
    have U11 := U10.then hb11 U10.size
    have J11 := J10.below hb11
    have I11 := I10.below hb11
    have X11 := X10.below hb11
    have P11 := P10.below hb11
    have Q11 := Q10.below hb11
    clear J10 I10 X10 P10 Q10 L10
    go_wp2_with fail
    refine (specBound_any _ N c ys m _ J11).mono ?_
    rw [HBV.out]
    rintro e w12 ⟨rfl, hb12⟩
    have U12 := U11.then hb12 U11.size
    have J12 := J11.below hb12
    have I12 := I11.below hb12
    have X12 := X11.below hb12
    have P12 := P11.below hb12
    have Q12 := Q11.below hb12
    clear J11 I11 X11 P11 Q11
    have db1 : (BV != BV) = false := by simp
    go_wp2_with fail
    refine (implSpan_any _ _ ps.length pc qk qc ps us pm _ P12 Q12).mono ?_
    rintro e w13 ⟨rfl, hb13⟩
    have U13 := U12.then hb13 U12.size
    have J13 := J12.below hb13
    have I13 := I12.below hb13
    have X13 := X12.below hb13
    have P13 := P12.below hb13
    have Q13 := Q12.below hb13
    clear J12 I12 X12 P12 Q12
    go_wp2_with fail
    refine (specSpan_any _ _ ps.length pc qk qc ps us pm _ P13 Q13).mono ?_
    rintro e w14 ⟨rfl, hb14⟩
    have U14 := U13.then hb14 U13.size
    have J14 := J13.below hb14
    have I14 := I13.below hb14
    have X14 := X13.below hb14
    clear J13 I13 X13 P13 Q13
    have ds1 : (spnV ps us pm != spnV ps us pm) = false := by simp
    by_cases ho : optI ys m < 0
    · go_wp2
      go_ret
      exact ⟨rfl, U14⟩
    · obtain ⟨q, rfl, hjs, hn7, hq1, hq4, he⟩ := opt_some ho
      have hshb : shB ys q = true := shB_mk (jsB_mk hjs) (by omega) (by omega)
      rw [sprI_yes hshb] at I14
      obtain ⟨hp, hs⟩ : xs'.Perm ys ∧ xs'.Pairwise (fun x y => ltLongest y x = false) := by
        rcases hby with ⟨h0, _⟩ | ⟨_, h1, h2⟩
        · rw [jsB_mk hjs] at h0; cases h0
        · exact ⟨h1, h2⟩
      obtain rfl : xk = N := X14.len.symm.trans (hp.length_eq.trans HN.out)
      obtain ⟨gA0, gA1⟩ := graham6_two hshb
      obtain ⟨hshx, gB0, gB1⟩ := graham6_third hshb hp hs (jsOk_perm6 hjs hp)
      have hbn := bnd_opt hjs hq1
      have hbv := HBV.out
      rw [if_pos hshb] at hbv
      rw [hbv] at hbn
      have htop := opt_top hjs hn7 hq1
      have ht0 := optV_nonneg (longs ys) hq1
      have C1 := implSpan_any _ _ xk c sk sc ys (spreadI ys q) q _ J14 I14
      have C2 := implSpreadS_any xv xk xc xs' q
      rw [sprI_yes hshx] at C2
      have C3 := fun v k cc w => implSpan_any xv v xk xc k cc xs' (spreadI xs' q) q w
      have HIN : Hid (∀ y ∈ xs', y ∈ ys) := fun y hy' => hp.subset hy'
      obtain ⟨T, hT⟩ : ∃ T, optV (longs ys) q = T := ⟨_, rfl⟩
      obtain ⟨A, hA⟩ : ∃ A, spnV ys (spreadI ys q) q = A := ⟨_, rfl⟩
      obtain ⟨B, hB⟩ : ∃ B, spnV xs' (spreadI xs' q) q = B := ⟨_, rfl⟩
      rw [he]
      rw [he] at ho
      rw [hT] at gA0 gA1 gB0 gB1 hbn htop ht0 ho ⊢
      rw [hA] at gA0 gA1 C1
      rw [hB] at gB0 gB1 C3
      have bA : A ≤ 3000000 := mul_bdG hq1 hq4 ht0 htop gA0 (Or.inl gA1)
      have bB : B ≤ 3000000 := mul_bdG hq1 hq4 ht0 htop gB0 (Or.inr gB1)
      have q1 : (1 : Int) ≤ (q : Int) := by omega
      have q4 : (q : Int) ≤ 4 := by omega
      have dA : decide (A < T) = false := decide_eq_false (by omega)
      have dB : decide (B < T) = false := decide_eq_false (by omega)
      have dV : decide (T < BV) = false := decide_eq_false (by omega)
      have HgA : Hid _ := gA1
      have HgB : Hid _ := gB1
      clear hT hA hB he hbv hbn hp hs hby gA1 gB1 hjs hshb hshx
      go_wp2_with fail
      refine C1.mono ?_
      rintro e w15 ⟨rfl, hb15⟩
      have U15 := U14.then hb15 U14.size
      have J15 := J14.below hb15
      have X15 := X14.below hb15
      clear C1 I14 J14 X14
      go_wp2_with fail
      refine (C2 _ X15).mono ?_
      rintro e w16 ⟨yv, yk, yc, rfl, Y16, hb16⟩
      have U16 := U15.then hb16 U15.size
      have J16 := J15.below hb16
      have X16 := X15.below hb16
      clear C2 J15 X15
      go_wp2_with fail
      refine (C3 _ _ _ _ X16 Y16).mono ?_
      rintro e w17 ⟨rfl, hb17⟩
      have U17 := U16.then hb17 U16.size
      have J17 := J16.below hb17
      have X17 := X16.below hb17
      clear C3 J16 X16 Y16
      go_wp2_with fail
      refine (together_any _ _ xk xc c xs' ys _ X17 J17 HIN.out).mono ?_
      rintro e w18 ⟨rfl, hb18⟩
      have U18 := U17.then hb18 U17.size
      clear J17 X17 dA dB dV
      have gA := HgA.out
      have gB := HgB.out
      have wa : IntKind.i64.wrap ((q : Int) * A) = (q : Int) * A := by
        obtain rfl | rfl | rfl | rfl : q = 1 ∨ q = 2 ∨ q = 3 ∨ q = 4 := by omega
        all_goals (rw [IntKind.wrap_i64]; push_cast; omega)
      have wb : IntKind.i64.wrap ((2 * (q : Int) - 1) * T) = (2 * (q : Int) - 1) * T := by
        obtain rfl | rfl | rfl | rfl : q = 1 ∨ q = 2 ∨ q = 3 ∨ q = 4 := by omega
        all_goals (rw [IntKind.wrap_i64]; push_cast; omega)
      have wc : IntKind.i64.wrap (3 * (q : Int) * B) = 3 * (q : Int) * B := by
        obtain rfl | rfl | rfl | rfl : q = 1 ∨ q = 2 ∨ q = 3 ∨ q = 4 := by omega
        all_goals (rw [IntKind.wrap_i64]; push_cast; omega)
      have wd : IntKind.i64.wrap ((4 * (q : Int) - 1) * T) = (4 * (q : Int) - 1) * T := by
        obtain rfl | rfl | rfl | rfl : q = 1 ∨ q = 2 ∨ q = 3 ∨ q = 4 := by omega
        all_goals (rw [IntKind.wrap_i64]; push_cast; omega)
      have da : decide ((q : Int) * A ≤ (2 * (q : Int) - 1) * T) = true := decide_eq_true gA
      have dc : decide (3 * (q : Int) * B ≤ (4 * (q : Int) - 1) * T) = true := decide_eq_true (by rw [Int.mul_assoc]; exact gB)
      clear gA gB
      go_wp2
      go_ret
      exact ⟨rfl, U18⟩
  · go_enter Try.func3, Try.ntmps3
    go_wp2_with fail
    refine (big_any a0 n0 cap0 _ true (by simp; omega)).mono ?_
    rintro e w' ⟨rfl, hq⟩; have hq' := hq.symm; clear hq; subst hq'
    go_wp2
    go_ret
    exact ⟨rfl, Below.refl _ _⟩

set_option maxRecDepth 100000 in
theorem lifted (os : Os) (started : os.Started) (H : Type) (enc : TypeId × Value → H) :
    ReturnsInHanded {} Try.checked os 3 .any (Rows.fnGrahamSpec.pre6 enc Try.prog Try.f3 Rows.fnGrahamRow.domain false) (Rows.fnGrahamSpec.post enc Try.prog Try.f3 false true false false) := by
  refine returnsInHanded_of_change (C := Try.checked) own started (by kernel_rfl) Try.func3
    (ChangeSpec.witness6 (enc := enc) (C := Try.checked) false ⟨#[], #[.slice none 0 0], []⟩ 8 (by kernel_rfl) (by kernel_rfl) (by kernel_rfl) (by kernel_rfl)) ?_
  intro W base args ds gs before hval0 hW hcnd _
  have hval : ∀ (j : Nat) t v, Try.f3.params[j]? = some t → args[j]? = some v → Value.okWide Try.prog W .any base t v := hval0
  have hW' := hW
  obtain ⟨p, q, hA0, hV, rfl, hfz, hnd⟩ := hW
  have hA : DataW.TrodAll enc Try.prog W 0 (fun _ => true) true Try.f3.params.toList args.toList ds p := hA0
  rw [Try.params3] at hA hval
  obtain ⟨v0, vs0, d0, ds0, p0, q0, hargs, rfl, rfl, h0, r0⟩ := trodAll_cons hA
  obtain ⟨rfl, rfl, rfl⟩ := trodAll_nil r0
  obtain rfl : args = #[v0] := by cases args; simp_all
  obtain ⟨rfl, rfl⟩ := trodVars_none hV
  have k0 := h0
  have lt0 : ∀ x ∈ p0, x.block < W.heap.size := by obtain ⟨m, hm⟩ := k0; exact DataW.trod_lt m _ _ _ hm
  obtain ⟨a0, n0, cap0, z0, rfl, w0⟩ := open_bytes (hval 0 22 v0 rfl rfl) h0
  clear hA0 hval0
  refine (walk a0 n0 cap0 z0 W w0).mono fun e W' ⟨he, bel⟩ => ?_
  subst he
  exact ⟨_, rfl, _, _, _, [], _, [], hW', trodAll_mk1 (shut_bool Try.underlying4 _), (trodAll_cons_mk (Below.trod laidOut (by kernel_rfl) (of_decide_eq_true (by kernel_rfl)) k0 bel lt0) trodAll_mk0), rfl, bel.frame _, fun h => by cases h⟩

theorem over : Rows.fnGrahamRow.holds Try.pinned (OpenSpec.ofChange Rows.fnGrahamSpec) :=
  OpenClaim.holds_of_wide 3 Try.f3 rfl rfl rfl rfl rfl rfl rfl ⟨rfl, rfl, rfl, rfl, rfl⟩ rfl rfl rfl rfl rfl (by kernel_rfl) Try.func3 (by kernel_rfl)
    (of_decide_eq_true (by kernel_rfl)) (by unfold Func.isWrapper; first | (rw [if_pos (by decide +kernel)]; kernel_rfl) | (rw [if_neg (by decide +kernel)]; exact ⟨rfl, rfl⟩))
    (fun os started H enc _ => lifted os started H enc)

/-- the given statement -/
theorem proved : Rows.FnGrahamSaid := over
#print axioms proved
end Go.Proofs.Ytcomohobkjkhiaa.fnGraham
