/- For every input that can be read the law FnHorn returns true, and what it was handed reads as before. The frame is the kit's; the opening of the arguments and the walk are ours. -/
import Derived.Test.YtmaojjjdepgaeaaRows
import Derived.WalkKit
import Derived.ProofKit
import Derived.OpenShut
import Derived.ChangeOld
import Derived.Below
import Derived.Test.YtmaojjjdepgaeaaTkC
import Derived.Test.YtmaojjjdepgaeaaTkK
import Derived.Test.YtmaojjjdepgaeaaTaskEr
import Derived.Test.YtmaojjjdepgaeaaTaskDr
import Derived.Test.YtmaojjjdepgaeaaEarK
import Derived.Test.YtmaojjjdepgaeaaLInt
import Derived.Test.YtmaojjjdepgaeaaBytesOpen
namespace Go.Proofs.Ytmaojjjdepgaeaa.fnHorn
open Go.ChangeShapes Go.WideShapes Go.ChangeAt Go.RowKit
open Go.Sort
set_option linter.unusedVariables false

theorem own : ownKnob Try.prog.godebug = none := by kernel_rfl
theorem laidOut : laidOutB Try.prog = true := by kernel_rfl

set_option maxRecDepth 8000 in
set_option maxHeartbeats 8000000 in
theorem walk (a0 : Option Addr) (n0 cap0 : Nat) (z0 : List Int) (w : World) (w0 : IsBytes w a0 n0 cap0 z0) :
    Calls Try.prog 4 #[.slice a0 n0 cap0] w fun e w' => e = .returned (.bool true) ∧ Below w.heap.size w w' := by
  have hmx := w0.mx
  have hle := w0.le
  by_cases hn : n0 ≤ 4096
  · go_enter Try.func4, Try.ntmps4
    go_wp2_with fail
    refine (big_any a0 n0 cap0 _ false (by simpa using hn)).mono ?_
    rintro e w' ⟨rfl, hq⟩; have hq' := hq.symm; clear hq; subst hq'
    go_wp2_with fail
    refine (drawCrowded_any a0 n0 cap0 z0 _ w0 hn).mono ?_
    rintro e w1 ⟨gl, cl, ls, rfl, hl5, J1, U1⟩
    go_wp2_with fail
    refine (implCrowded_any _ ls.length cl ls _ J1).mono ?_
    rintro e w2 ⟨x, y, t, rfl, hC, hb2⟩
    have HC : Hid (IsCrw ls x y t) := hC
    clear hC
    have U2 := U1.then hb2 U1.size
    have J2 := J1.below hb2
    go_wp2_with fail
    refine (implEarliest_any _ ls.length cl ls _ J2).mono ?_
    rintro e w3 ⟨v, c, ys, rfl, hE, hL, hb3⟩
    have HE : Hid (IsEar ls ys) := hE
    clear hE
    have U3 := U2.then hb3 U2.size
    have J3 := J2.below hb3
    have I3 : IntS w3 v ys.length c ys := hL.toS
    clear hL J1 J2
    go_wp2_with fail
    refine (drawKept_any a0 n0 cap0 z0 _ (w0.below U3) hn).mono ?_
    rintro e w4 ⟨ga, ca, la, gw, cw, wa, rfl, hla, hwa, Ja, Ia, hb4⟩
    have U4 := U3.then hb4 U3.size
    have J4 := J3.below hb4
    have I4 := I3.below hb4
    go_wp2_with fail
    refine (drawDemand_any a0 n0 cap0 z0 _ (w0.below U4) hn).mono ?_
    rintro e w5 ⟨gd, cd, ld, dx, dy, rfl, hld, hdx, hdy, Jd, hb5⟩
    have U5 := U4.then hb5 U4.size
    have J5 := J4.below hb5
    have I5 := I4.below hb5
    have Ja5 := Ja.below hb5
    have Ia5 := Ia.below hb5
    clear J3 J4 I3 I4 Ja Ia hdx hdy
    go_wp2_with fail
    refine (specCrowded_any _ ls.length cl ls _ J5).mono ?_
    rintro e w6 ⟨x2, y2, t2, rfl, hC2, hb6⟩
    obtain ⟨rfl, rfl, rfl⟩ := HC.out.uniq hC2
    clear hC2
    have U6 := U5.then hb6 U5.size
    have D6 := hb6
    have et : (t != t) = false := by simp
    have ex : (x != x) = false := by simp
    have ey : (y != y) = false := by simp
    go_wp2_with fail
    refine (specEarliest_any _ ls.length cl ls _ (J5.below D6)).mono ?_
    rintro e w7 ⟨gs, cs, ys2, rfl, hE2, hz8, OR, hb7⟩
    obtain rfl : ys = ys2 := HE.out.uniq hE2
    clear hE2
    have IS : IntS w7 (some ⟨gs, 0, none⟩) ys.length cs ys := (LInt.own OR).toS
    have U7 := U6.then hb7 U6.size
    have D7 := D6.then hb7 D6.size
    clear OR
    go_wp2_with fail
    refine (likeInts_same6 v (some ⟨gs, 0, none⟩) ys.length c cs ys _ (I5.below D7) IS).mono ?_
    rintro e w8 ⟨rfl, hb8⟩
    have U8 := U7.then hb8 U7.size
    have D8 := D7.then hb8 D7.size
    clear IS
    go_wp2_with fail
    refine (implKept_any _ _ la.length ca wa.length cw la wa _ (Ja5.below D8) (Ia5.below D8) (by omega)).mono ?_
    rintro e w9 ⟨rfl, hb9⟩
    have U9 := U8.then hb9 U8.size
    have D9 := D8.then hb9 D8.size
    go_wp2_with fail
    refine (specKept_any _ _ la.length ca wa.length cw la wa _ (Ja5.below D9) (Ia5.below D9) (by omega)).mono ?_
    rintro e w10 ⟨rfl, hb10⟩
    have U10 := U9.then hb10 U9.size
    have D10 := D9.then hb10 D9.size
    go_wp2_with fail
    refine (implDemand_any _ ld.length cd ld dx dy _ (Jd.below D10)).mono ?_
    rintro e w11 ⟨rfl, hb11⟩
    have U11 := U10.then hb11 U10.size
    have D11 := D10.then hb11 D10.size
    go_wp2_with fail
    refine (specDemand_any _ ld.length cd ld dx dy _ (Jd.below D11)).mono ?_
    rintro e w12 ⟨rfl, hb12⟩
    have U12 := U11.then hb12 U11.size
    have D12 := D11.then hb12 D11.size
    go_wp2_with fail
    refine (implTasksOk_any _ ls.length cl ls _ (J5.below D12)).mono ?_
    rintro e w13 ⟨rfl, hb13⟩
    have U13 := U12.then hb13 U12.size
    have D13 := D12.then hb13 D12.size
    go_wp2_with fail
    refine (specTasksOk_any _ ls.length cl ls _ (J5.below D13)).mono ?_
    rintro e w14 ⟨rfl, hb14⟩
    have U14 := U13.then hb14 U13.size
    have D14 := D13.then hb14 D13.size
    go_wp2_with fail
    refine (specTasksOk_any _ ls.length cl ls _ (J5.below D14)).mono ?_
    rintro e w15 ⟨rfl, hb15⟩
    have U15 := U14.then hb15 U14.size
    have D15 := D14.then hb15 D14.size
    have J15 := J5.below D15
    have I15 := I5.below D15
    clear J5 I5 Ja5 Ia5 Jd D6 D7 D8 D9 D10 D11 D12 D13 D14 D15 U1 U2 U3 U4 U5 U6 U7 U8 U9 U10 U11 U12 U13 U14 hb2 hb3 hb4 hb5 hb6 hb7 hb8 hb9 hb10 hb11 hb12 hb13 hb14 hb15
    rcases hq : tsB ls with _ | _
    · have hy0 : Hid (ys.length ≤ 0) := by
        rcases HE.out with ⟨_, rfl⟩ | ⟨h1, _⟩
        · exact Nat.le_refl _
        · rw [hq] at h1; cases h1
      obtain rfl : t = false := by
        rcases HC.out with ⟨_, _, _, h⟩ | ⟨h1, _⟩
        · exact h
        · rw [hq] at h1; cases h1
      obtain rfl : ys = [] := List.length_eq_zero_iff.1 (by have := hy0.out; omega)
      go_wp2
      go_ret
      exact ⟨rfl, U15⟩
    · have ho := tsB_t hq
      cases t with
      | true =>
        obtain ⟨hcw, hxy⟩ : Crwd ls x y ∧ (0 ≤ x ∧ x ≤ 200 ∧ 0 ≤ y ∧ y ≤ 200) := by
          rcases HC.out with ⟨h1, _⟩ | ⟨_, ⟨h1, _⟩ | ⟨_, h1, _⟩⟩
          · rw [hq] at h1; cases h1
          · cases h1
          · refine ⟨h1, ?_⟩
            obtain ⟨⟨i, hi, e1⟩, ⟨k, hk, e2⟩, _⟩ := h1
            have b1 := ho.bd hi
            have b2 := ho.bd hk
            omega
        have HD : Hid (max 0 (y - x) < demF ls x y) := by unfold Hid; rw [demF_t hq]; exact hcw.2.2
        have HK : Hid (kpB ls ys = false) := kept_none hcw.2.2
        obtain ⟨dm, hdm⟩ : ∃ dm, dm = demF ls x y := ⟨_, rfl⟩
        have HDM : Hid (dm = demF ls x y) := hdm
        have hlt : max 0 (y - x) < dm := by rw [hdm]; exact HD.out
        clear hdm hcw HD
        by_cases hr : y - x < 0
        · have hgt : (0 : Int) < dm := by omega
          go_wp2_with fail
          refine (implDemand_any _ ls.length cl ls x y _ J15).mono ?_
          rw [← HDM.out]
          rintro e w16 ⟨rfl, hb16⟩
          go_wp2_with fail
          refine (implKept_any _ v ls.length cl ys.length c ls ys _ (J15.below hb16) (I15.below hb16) (by omega)).mono ?_
          rw [HK.out]
          rintro e w17 ⟨rfl, hb17⟩
          go_wp2
          go_ret
          exact ⟨rfl, U15.then (hb16.then hb17 hb16.size) U15.size⟩
        · have hgt : y - x < dm := by omega
          go_wp2_with fail
          refine (implDemand_any _ ls.length cl ls x y _ J15).mono ?_
          rw [← HDM.out]
          rintro e w16 ⟨rfl, hb16⟩
          go_wp2_with fail
          refine (implKept_any _ v ls.length cl ys.length c ls ys _ (J15.below hb16) (I15.below hb16) (by omega)).mono ?_
          rw [HK.out]
          rintro e w17 ⟨rfl, hb17⟩
          go_wp2
          go_ret
          exact ⟨rfl, U15.then (hb16.then hb17 hb16.size) U15.size⟩
      | false =>
        have HK : Hid (kpB ls ys = true) := by
          have hno : ∀ a b, ¬ Crwd ls a b := by
            rcases HC.out with ⟨h1, _⟩ | ⟨_, ⟨_, _, _, h1⟩ | ⟨h1, _⟩⟩
            · rw [hq] at h1; cases h1
            · exact h1
            · cases h1
          refine ear_kept hq HE.out fun i k hi hk => ?_
          by_cases hc : max 0 ((jg ls k).due - (jg ls i).at_) < demV ls (jg ls i).at_ (jg ls k).due
          · exact absurd ⟨⟨i, hi, rfl⟩, ⟨k, hk, rfl⟩, hc⟩ (hno _ _)
          · omega
        go_wp2_with fail
        refine (implKept_any _ v ls.length cl ys.length c ls ys _ J15 I15 (by omega)).mono ?_
        rw [HK.out]
        rintro e w16 ⟨rfl, hb16⟩
        go_wp2
        go_ret
        exact ⟨rfl, U15.then hb16 U15.size⟩
  · go_enter Try.func4, Try.ntmps4
    go_wp2_with (go_at_call 12; refine (big_any a0 n0 cap0 _ true (by simpa using hn)).mono ?_; rintro e w' ⟨rfl, hq⟩; have hq' := hq.symm; clear hq; subst hq')
    go_ret
    exact ⟨rfl, Below.refl _ _⟩

set_option maxRecDepth 100000 in
theorem lifted (os : Os) (started : os.Started) (H : Type) (enc : TypeId × Value → H) :
    ReturnsInHanded {} Try.checked os 4 .any (Rows.fnHornSpec.pre6 enc Try.prog Try.f4 Rows.fnHornRow.domain false) (Rows.fnHornSpec.post enc Try.prog Try.f4 false true false false) := by
  refine returnsInHanded_of_change (C := Try.checked) own started (by kernel_rfl) Try.func4
    (ChangeSpec.witness6 (enc := enc) (C := Try.checked) false ⟨#[], #[.slice none 0 0], []⟩ 8 (by kernel_rfl) (by kernel_rfl) (by kernel_rfl) (by kernel_rfl)) ?_
  intro W base args ds gs before hval0 hW hcnd _
  have hval : ∀ (j : Nat) t v, Try.f4.params[j]? = some t → args[j]? = some v → Value.okWide Try.prog W .any base t v := hval0
  have hW' := hW
  obtain ⟨p, q, hA0, hV, rfl, hfz, hnd⟩ := hW
  have hA : DataW.TrodAll enc Try.prog W 0 (fun _ => true) true Try.f4.params.toList args.toList ds p := hA0
  rw [Try.params4] at hA hval
  obtain ⟨v0, vs0, d0, ds0, p0, q0, hargs, rfl, rfl, h0, r0⟩ := trodAll_cons hA
  obtain ⟨rfl, rfl, rfl⟩ := trodAll_nil r0
  obtain rfl : args = #[v0] := by cases args; simp_all
  obtain ⟨rfl, rfl⟩ := trodVars_none hV
  have k0 := h0
  have lt0 : ∀ x ∈ p0, x.block < W.heap.size := by obtain ⟨m, hm⟩ := k0; exact DataW.trod_lt m _ _ _ hm
  obtain ⟨a0, n0, cap0, z0, rfl, w0⟩ := open_bytes (hval 0 22 v0 rfl rfl) h0
  clear hA0 hval0
  refine (walk a0 n0 cap0 z0 W w0).mono fun e W' ⟨he, bel⟩ => ?_
  subst he
  exact ⟨_, rfl, _, _, _, [], _, [], hW', trodAll_mk1 (shut_bool Try.underlying4 _), (trodAll_cons_mk (Below.trod laidOut (by kernel_rfl) (of_decide_eq_true (by kernel_rfl)) k0 bel lt0) trodAll_mk0), rfl, bel.frame _, fun h => by cases h⟩

theorem over : Rows.fnHornRow.holds Try.pinned (OpenSpec.ofChange Rows.fnHornSpec) :=
  OpenClaim.holds_of_wide 4 Try.f4 rfl rfl rfl rfl rfl rfl rfl ⟨rfl, rfl, rfl, rfl, rfl⟩ rfl rfl rfl rfl rfl (by kernel_rfl) Try.func4 (by kernel_rfl)
    (of_decide_eq_true (by kernel_rfl)) (by unfold Func.isWrapper; first | (rw [if_pos (by decide +kernel)]; kernel_rfl) | (rw [if_neg (by decide +kernel)]; exact ⟨rfl, rfl⟩))
    (fun os started H enc _ => lifted os started H enc)

/-- the given statement -/
theorem proved : Rows.FnHornSaid := over
#print axioms proved
end Go.Proofs.Ytmaojjjdepgaeaa.fnHorn
