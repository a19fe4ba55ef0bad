/- For every input that can be read the law FnExactLongest returns true, and what it was handed reads as before. The frame is the kit's; the opening of the arguments and the walk are ours. -/
import Derived.Test.YtbnocnadlleibaaRows
import Derived.WalkKit
import Derived.ProofKit
import Derived.OpenShut
import Derived.ChangeOld
import Derived.Below
import Derived.Test.YtbnocnadlleibaaJobQI
import Derived.Test.YtbnocnadlleibaaRuleL
import Derived.Test.YtbnocnadlleibaaSelL
import Derived.Test.YtbnocnadlleibaaJobOpen
namespace Go.Proofs.Ytbnocnadlleibaa.fnExactLongest
open Go.ChangeShapes Go.WideShapes Go.ChangeAt Go.RowKit
set_option linter.unusedVariables false

theorem own : ownKnob Try.prog.godebug = none := by kernel_rfl
theorem laidOut : laidOutB Try.prog = true := by kernel_rfl

set_option maxHeartbeats 1000000 in
theorem walk (a0 : Option Addr) (n0 cap0 : Nat) (l0 : List Jb) (w : World) (L0 : JobS w a0 n0 cap0 l0) :
    Calls Try.prog 7 #[.slice a0 n0 cap0] w fun e w' => e = .returned (.bool true) ∧ Below w.heap.size w w' := by
  have hmx := L0.mx
  have hle := L0.le
  have hlen := L0.len
  by_cases hn : n0 ≤ 1048576
  · rcases hq : jsB l0 with _ | _
    · go_enter Try.func7, Try.ntmps7
      go_wp2_with fail
      refine (szJobS_any a0 n0 cap0 _ _ (by omega) (by omega) (by omega)).mono ?_
      rw [if_neg (by omega)]
      rintro e w1 ⟨rfl, rfl⟩
      go_wp2_with fail
      refine (toJobS_any a0 n0 cap0 l0 _ L0 hn).mono ?_
      rintro e w2 ⟨B1, rfl, hB1, hl1, U2⟩
      go_wp2_with fail
      refine (specLongestQ_any _ n0 n0 l0 _ (hl1.toS L0.len hn L0.wf)).mono ?_
      rintro e w3 ⟨v, m, cap', ys, rfl, J3, hQ, hb3⟩
      have U3 := U2.then hb3 U2.size
      obtain rfl : ys = [] := hQ.uniq antiLongest (Or.inl ⟨hq, rfl⟩)
      obtain rfl : m = 0 := J3.len.symm
      go_wp2_with fail
      refine (toJobS_any a0 n0 cap0 l0 _ (L0.below U3) hn).mono ?_
      rintro e w4 ⟨B2, rfl, hB2, hl2, hb4⟩
      have U4 := U3.then hb4 U3.size
      go_wp2_with fail
      refine (implLongest_no _ n0 n0 l0 _ (hl2.toS L0.len hn L0.wf) hq).mono ?_
      rintro e w5 ⟨rfl, hb5⟩
      have U5 := U4.then hb5 U4.size
      have Y5 := hb4.then hb5 hb4.size
      go_wp2_with fail
      refine (eqJobS_same none v 0 0 cap' [] _ (JobS.nil_ _) (J3.below Y5)).mono ?_
      rintro e w6 ⟨rfl, hb6⟩
      have U6 := U5.then hb6 U5.size
      have Y6 := Y5.then hb6 Y5.size
      go_wp2_with fail
      refine (toJobS_any a0 n0 cap0 l0 _ (L0.below U6) hn).mono ?_
      rintro e w7 ⟨B3, rfl, hB3, hl3, hb7⟩
      have U7 := U6.then hb7 U6.size
      have Y7 := Y6.then hb7 Y6.size
      have hx7 := ((hl2.below hb5).below hb6).below hb7
      go_wp2_with fail
      refine (eqJobS_same _ _ n0 n0 n0 l0 _ (hx7.toS L0.len hn L0.wf) (hl3.toS L0.len hn L0.wf)).mono ?_
      rintro e w8 ⟨rfl, hb8⟩
      have U8 := U7.then hb8 U7.size
      have Y8 := Y7.then hb8 Y7.size
      have hx8 := hx7.below hb8
      go_wp2_with fail
      refine (markJobS_any B2 n0 1 l0 _ hx8 hn (by omega) (by omega)).mono ?_
      rintro e w9 ⟨rfl, hm9, ho9⟩
      have hz3 := U3.size
      have U9 := U8.trans (ho9.below (by omega))
      have Y9 := Y8.trans (ho9.below hB2)
      have hk : ¬ ((1 : Int) + 7 * (n0 : Int) < 0) := by omega
      go_wp2_with fail
      refine (eqJobS_same none v 0 0 cap' [] _ (JobS.nil_ _) (J3.below Y9)).mono ?_
      rintro e w10 ⟨rfl, hb10⟩
      have U10 := U9.then hb10 U9.size
      have Y10 := Y9.then hb10 Y9.size
      go_wp2_with fail
      refine (markNilJ_any 1 _).mono ?_
      rintro e w11 ⟨rfl, rfl⟩
      go_wp2_with fail
      refine (heldNilJ_any 1 _).mono ?_
      rintro e w12 ⟨rfl, rfl⟩
      go_wp2_with fail
      refine (toJobS_any a0 n0 cap0 l0 _ (L0.below U10) hn).mono ?_
      rintro e w13 ⟨B4, rfl, hB4, hl4, hb13⟩
      have U13 := U10.then hb13 U10.size
      have Y13 := Y10.then hb13 Y10.size
      go_wp2_with fail
      refine (implLongest_no _ n0 n0 l0 _ (hl4.toS L0.len hn L0.wf) hq).mono ?_
      rintro e w14 ⟨rfl, hb14⟩
      have U14 := U13.then hb14 U13.size
      have Y14 := Y13.then hb14 Y13.size
      go_wp2_with fail
      refine (eqJobS_same none v 0 0 cap' [] _ (JobS.nil_ _) (J3.below Y14)).mono ?_
      rintro e w15 ⟨rfl, hb15⟩
      have U15 := U14.then hb15 U14.size
      go_wp2_with fail
      refine (heldNilJ_any 1 _).mono ?_
      rintro e w16 ⟨rfl, rfl⟩
      go_wp2
      go_ret
      exact ⟨rfl, U15⟩
    · have hn40 := (jsB_t hq).n
      go_enter Try.func7, Try.ntmps7
      go_wp2_with fail
      refine (szJobS_any a0 n0 cap0 _ _ (by omega) (by omega) (by omega)).mono ?_
      rw [if_neg (by omega)]
      rintro e w1 ⟨rfl, rfl⟩
      go_wp2_with fail
      refine (toJobS_any a0 n0 cap0 l0 _ L0 hn).mono ?_
      rintro e w2 ⟨B1, rfl, hB1, hl1, U2⟩
      go_wp2_with fail
      refine (specLongestQ_any _ n0 n0 l0 _ (hl1.toS L0.len hn L0.wf)).mono ?_
      rintro e w3 ⟨v, m, cap', ys, rfl, J3, hQ, hb3⟩
      have U3 := U2.then hb3 U2.size
      have wfy := hQ.wf (fun i hi => L0.wf i (by omega))
      go_wp2_with fail
      refine (toJobS_any a0 n0 cap0 l0 _ (L0.below U3) hn).mono ?_
      rintro e w4 ⟨B2, rfl, hB2, hl2, hb4⟩
      have U4 := U3.then hb4 U3.size
      go_wp2_with fail
      refine (implLongest_yes _ n0 n0 l0 _ (hl2.toS L0.len hn L0.wf) hq).mono ?_
      rintro e w5 ⟨B3, zs, rfl, hB3, hg5, hzl, hQz, hb5⟩
      obtain rfl := hQ.uniq antiLongest hQz
      obtain rfl : m = n0 := by rw [← J3.len, hzl]
      have wfn : ∀ i, i < m → jwf (jg ys i) := fun i hi => wfy i (by omega)
      have U5 := U4.then hb5 U4.size
      have Y5 := hb4.then hb5 hb4.size
      have hl24 := hl2.lt
      go_wp2_with fail
      refine (eqJobS_same _ v m m cap' ys _ (hg5.toS hzl hn wfn) (J3.below Y5)).mono ?_
      rintro e w6 ⟨rfl, hb6⟩
      have U6 := U5.then hb6 U5.size
      have Y6 := Y5.then hb6 Y5.size
      go_wp2_with fail
      refine (toJobS_any a0 m cap0 l0 _ (L0.below U6) hn).mono ?_
      rintro e w7 ⟨B4, rfl, hB4, hl4, hb7⟩
      have U7 := U6.then hb7 U6.size
      have Y7 := Y6.then hb7 Y6.size
      have hx7 := ((hl2.below hb5).below hb6).below hb7
      have hg7 := (hg5.below hb6).below hb7
      go_wp2_with fail
      refine (eqJobS_same _ _ m m m l0 _ (hx7.toS L0.len hn L0.wf) (hl4.toS L0.len hn L0.wf)).mono ?_
      rintro e w8 ⟨rfl, hb8⟩
      have U8 := U7.then hb8 U7.size
      have Y8 := Y7.then hb8 Y7.size
      have hx8 := hx7.below hb8
      have hg8 := hg7.below hb8
      go_wp2_with fail
      refine (markJobS_any B2 m 1 l0 _ hx8 hn (by omega) (by omega)).mono ?_
      rintro e w9 ⟨rfl, hm9, ho9⟩
      have hz3 := U3.size
      have hz4 := hb4.size
      have U9 := U8.trans (ho9.below (by omega))
      have Y9 := Y8.trans (ho9.below hB2)
      have hg9 := hg8.only ho9 (by omega)
      have hk : ¬ ((1 : Int) + 7 * (m : Int) < 0) := by omega
      go_wp2_with fail
      refine (eqJobS_same _ v m m cap' ys _ (hg9.toS hzl hn wfn) (J3.below Y9)).mono ?_
      rintro e w10 ⟨rfl, hb10⟩
      have U10 := U9.then hb10 U9.size
      have Y10 := Y9.then hb10 Y9.size
      go_wp2_with fail
      refine (markJobS_any B3 m 1 ys _ (hg9.below hb10) hn (by omega) (by omega)).mono ?_
      rintro e w11 ⟨rfl, hm11, ho11⟩
      have U11 := U10.trans (ho11.below (by omega))
      have Y11 := Y10.trans (ho11.below (by omega))
      go_wp2_with fail
      refine (heldJobS_any B3 m 1 _ hm11 hn (by omega) (by omega)).mono ?_
      rintro e w12 ⟨rfl, rfl⟩
      go_wp2_with fail
      refine (toJobS_any a0 m cap0 l0 _ (L0.below U11) hn).mono ?_
      rintro e w13 ⟨B5, rfl, hB5, hl5, hb13⟩
      have U13 := U11.then hb13 U11.size
      have Y13 := Y11.then hb13 Y11.size
      go_wp2_with fail
      refine (implLongest_yes _ m m l0 _ (hl5.toS L0.len hn L0.wf) hq).mono ?_
      rintro e w14 ⟨B6, zs, rfl, hB6, hg14, hzl2, hQ2, hb14⟩
      obtain rfl := hQ.uniq antiLongest hQ2
      have U14 := U13.then hb14 U13.size
      have Y14 := Y13.then hb14 Y13.size
      go_wp2_with fail
      refine (eqJobS_same _ v m m cap' ys _ (hg14.toS hzl hn wfn) (J3.below Y14)).mono ?_
      rintro e w15 ⟨rfl, hb15⟩
      have U15 := U14.then hb15 U14.size
      go_wp2_with fail
      refine (heldJobS_any B3 m 1 _ (((hm11.below hb13).below hb14).below hb15) hn (by omega) (by omega)).mono ?_
      rintro e w16 ⟨rfl, rfl⟩
      go_wp2
      go_ret
      exact ⟨rfl, U15⟩
  · go_enter Try.func7, Try.ntmps7
    go_wp2_with fail
    refine (szJobS_any a0 n0 cap0 _ _ (by omega) (by omega) (by omega)).mono ?_
    rw [if_pos (by omega)]
    rintro e w1 ⟨rfl, rfl⟩
    go_wp2
    go_ret
    exact ⟨rfl, Below.refl _ _⟩

set_option maxRecDepth 100000 in
theorem lifted (os : Os) (started : os.Started) (H : Type) (enc : TypeId × Value → H) :
    ReturnsInHanded {} Try.checked os 7 .any (Rows.fnExactLongestSpec.pre6 enc Try.prog Try.f7 Rows.fnExactLongestRow.domain false) (Rows.fnExactLongestSpec.post enc Try.prog Try.f7 false true false false) := by
  refine returnsInHanded_of_change (C := Try.checked) own started (by kernel_rfl) Try.func7
    (ChangeSpec.witness6 (enc := enc) (C := Try.checked) false ⟨#[], #[.slice none 0 0], []⟩ 8 (by kernel_rfl) (by kernel_rfl) (by kernel_rfl) (by kernel_rfl)) ?_
  intro W base args ds gs before hval0 hW hcnd _
  have hval : ∀ (j : Nat) t v, Try.f7.params[j]? = some t → args[j]? = some v → Value.okWide Try.prog W .any base t v := hval0
  have hW' := hW
  obtain ⟨p, q, hA0, hV, rfl, hfz, hnd⟩ := hW
  have hA : DataW.TrodAll enc Try.prog W 0 (fun _ => true) true Try.f7.params.toList args.toList ds p := hA0
  rw [Try.params7] at hA hval
  obtain ⟨v0, vs0, d0, ds0, p0, q0, hargs, rfl, rfl, h0, r0⟩ := trodAll_cons hA
  obtain ⟨rfl, rfl, rfl⟩ := trodAll_nil r0
  obtain rfl : args = #[v0] := by cases args; simp_all
  obtain ⟨rfl, rfl⟩ := trodVars_none hV
  have k0 := h0
  have lt0 : ∀ x ∈ p0, x.block < W.heap.size := by obtain ⟨m, hm⟩ := k0; exact DataW.trod_lt m _ _ _ hm
  obtain ⟨a0, n0, cap0, l0, rfl, L0⟩ := open_jobs (hval 0 38 v0 rfl rfl) h0
  clear hA0 hval0
  refine (walk a0 n0 cap0 l0 W L0).mono fun e W' ⟨he, bel⟩ => ?_
  subst he
  exact ⟨_, rfl, _, _, _, [], _, [], hW', trodAll_mk1 (shut_bool Try.underlying4 _), (trodAll_cons_mk (Below.trod laidOut (by kernel_rfl) (of_decide_eq_true (by kernel_rfl)) k0 bel lt0) trodAll_mk0), rfl, bel.frame _, fun h => by cases h⟩

theorem over : Rows.fnExactLongestRow.holds Try.pinned (OpenSpec.ofChange Rows.fnExactLongestSpec) :=
  OpenClaim.holds_of_wide 7 Try.f7 rfl rfl rfl rfl rfl rfl rfl ⟨rfl, rfl, rfl, rfl, rfl⟩ rfl rfl rfl rfl rfl (by kernel_rfl) Try.func7 (by kernel_rfl)
    (of_decide_eq_true (by kernel_rfl)) (by unfold Func.isWrapper; first | (rw [if_pos (by decide +kernel)]; kernel_rfl) | (rw [if_neg (by decide +kernel)]; exact ⟨rfl, rfl⟩))
    (fun os started H enc _ => lifted os started H enc)

/-- the given statement -/
theorem proved : Rows.FnExactLongestSaid := over
#print axioms proved
end Go.Proofs.Ytbnocnadlleibaa.fnExactLongest
