/- For every input that can be read the law FnDemands returns true, and what it was handed reads as before. The frame is the kit's; the opening of the arguments and the walk are ours. -/
import Derived.Test.YtmaojjjdepgaeaaRows
import Derived.WalkKit
import Derived.ProofKit
import Derived.OpenShut
import Derived.ChangeOld
import Derived.Below
import Derived.Test.YtmaojjjdepgaeaaTaskEr
import Derived.Test.YtmaojjjdepgaeaaTaskDr
import Derived.Test.YtmaojjjdepgaeaaEarK
import Derived.Test.YtmaojjjdepgaeaaLInt
import Derived.Test.YtmaojjjdepgaeaaBytesOpen
namespace Go.Proofs.Ytmaojjjdepgaeaa.fnDemands
open Go.ChangeShapes Go.WideShapes Go.ChangeAt Go.RowKit
open Go.Sort
set_option linter.unusedVariables false

theorem own : ownKnob Try.prog.godebug = none := by kernel_rfl
theorem laidOut : laidOutB Try.prog = true := by kernel_rfl

set_option maxRecDepth 8000 in
set_option maxHeartbeats 8000000 in
theorem walk (a0 : Option Addr) (n0 cap0 : Nat) (z0 : List Int) (w : World) (w0 : IsBytes w a0 n0 cap0 z0) :
    Calls Try.prog 5 #[.slice a0 n0 cap0] w fun e w' => e = .returned (.bool true) ∧ Below w.heap.size w w' := by
  have hmx := w0.mx
  have hle := w0.le
  by_cases hn : n0 ≤ 4096
  · go_enter Try.func5, Try.ntmps5
    go_wp2_with fail
    refine (big_any a0 n0 cap0 _ false (by simpa using hn)).mono ?_
    rintro e w' ⟨rfl, hq⟩; have hq' := hq.symm; clear hq; subst hq'
    go_wp2_with fail
    refine (drawDemand_any a0 n0 cap0 z0 _ w0 hn).mono ?_
    rintro e w1 ⟨gl, cl, ls, x, y, rfl, hl5, hx, hy, J1, U1⟩
    go_wp2_with fail
    refine (implDemand_any _ ls.length cl ls x y _ J1).mono ?_
    rintro e w2 ⟨rfl, hb2⟩
    have U2 := U1.then hb2 U1.size
    go_wp2_with fail
    refine (specDemand_any _ ls.length cl ls x y _ (J1.below hb2)).mono ?_
    rintro e w3 ⟨rfl, hb3⟩
    have U3 := U2.then hb3 U2.size
    have J3 := (J1.below hb2).below hb3
    clear J1 hb2 hb3 U1 U2
    rcases hq : tsB ls with _ | _
    · rw [demF_f hq]
      go_wp2_with fail
      refine (specTasksOk_any _ ls.length cl ls _ J3).mono ?_
      rw [hq]
      rintro e w4 ⟨rfl, hb4⟩
      go_wp2
      go_ret
      exact ⟨rfl, U3.then hb4 U3.size⟩
    · have ho := tsB_t hq
      rw [demF_t hq]
      have hd0 := demK_bd ho x y ls.length (Nat.le_refl _)
      have hd1 := dem_le ho x y
      have HDX : Hid (∀ m, (∀ i, i < ls.length → (jg ls i).at_ ≤ (jg ls i).due) → x < m → m < y → demV ls x m + demV ls (m + 1) y ≤ demV ls x y) := fun m hp h1 h2 => dem_apart ho hp h1 h2
      have HBD : Hid (∀ u z, 0 ≤ demV ls u z ∧ demV ls u z ≤ 250) := fun u z => by
        have := demK_bd ho u z ls.length (Nat.le_refl _)
        unfold demV; omega
      obtain ⟨d, hd⟩ : ∃ d, d = demV ls x y := ⟨_, rfl⟩
      have hd0' : 0 ≤ d := by rw [hd]; exact hd0.1
      rw [← hd] at hd1 HDX ⊢
      clear hd0 hd
      have hdn : ¬ d < 0 := by omega
      go_wp2_with fail
      refine (pick_any a0 n0 cap0 z0 1 40 _ (w0.below U3) hn (by omega) (by omega) (by omega) (by omega)).mono ?_
      rintro e w4 ⟨m, rfl, m0, m1, hw4⟩
      have U4 : Below w.heap.size w w4 := by rw [hw4]; exact U3
      have J4 : JobS w4 (some ⟨gl, 0, none⟩) ls.length cl ls := by rw [hw4]; exact J3
      clear J3 U3 hw4
      have abd : ∀ k, k ≤ ls.length → 0 ≤ allN ls k ∧ allN ls k ≤ 50 * k := by
        intro k
        induction k with
        | zero => intro _; exact ⟨Int.le_refl _, Int.le_refl _⟩
        | succ k ih =>
          intro hk
          have h1 := ih (by omega)
          have h2 := ho.bd (i := k) (by omega)
          have h3 : allN ls (k + 1) = allN ls k + (jg ls k).long := rfl
          omega
      obtain ⟨N, hN⟩ : ∃ N, N = ls.length := ⟨_, rfl⟩
      have HN : Hid (N = ls.length) := hN
      rw [← hN] at J4 hl5 abd hd1 ⊢
      clear hN
      have J4l := J4
      go_wp2
      go_loopw [8, 9] (fun s i wr => ∃ k : Nat, k ≤ N ∧ i = .int .i64 k ∧ s = .int .i64 (allN ls k) ∧ Below w4.heap.size w4 wr) (fun _ i _ => N - (intOf i).toNat)
      case atStart => exact ⟨0, by omega, rfl, rfl, Below.refl _ _⟩
      case round =>
        obtain ⟨k, hk, rfl, rfl, hw⟩ := hrel
        rename World => wr
        by_cases hlt : k < N
        · have hkl : k < ls.length := by have := HN.out; omega
          obtain ⟨b, off, he, hbw, hat⟩ := (J4.below hw).at_ (by omega)
          obtain ⟨rfl, rfl⟩ : gl = b ∧ 0 = off := by simpa using he
          have hi0 := (hat.job (i := k) hkl).2.2.1
          simp only [Nat.zero_add] at hi0
          have hlt' : (k : Int) < (N : Int) := by omega
          have b1 := abd k (by omega)
          have b2 := ho.bd hkl
          have HS : Hid (allN ls (k + 1) = allN ls k + (jg ls k).long) := rfl
          clear hat he
          go_wp2
          go_roundw
          case rel => exact ⟨k + 1, by omega, by go_num, by rw [HS.out], hw⟩
          case measure => simp [intOf]; omega
        · obtain rfl : k = N := by omega
          have U5 := U4.then hw U4.size
          have J5 := J4.below hw
          clear J4 U4 hw
          go_wp2_with fail
          refine (implEarliest_any _ k cl ls _ J5).mono ?_
          rintro e w6 ⟨v, c, ys, rfl, hE, hL, hb6⟩
          have HCN : Hid (cntN ys ys.length = allN ls k) := by unfold Hid; rw [HN.out]; exact ear_cnt hq hE
          have HD0 : Hid (demF ls 0 200 = allN ls k) := by unfold Hid; rw [HN.out, demF_t hq]; exact dem_all ho
          have U6 := U5.then hb6 U5.size
          have J6 := J5.below hb6
          have I6 : IntS w6 v ys.length c ys := hL.toS
          have hy0 := I6.le
          have hy1 := I6.mx
          clear J5 U5 hb6 hE hL
          have cbd : ∀ q, 0 ≤ cntN ys q ∧ cntN ys q ≤ q := by
            intro q
            induction q with
            | zero => exact ⟨Int.le_refl _, Int.le_refl _⟩
            | succ q ih =>
              have h3 : cntN ys (q + 1) = cntN ys q + if zg ys q = 0 then 0 else 1 := rfl
              split at h3 <;> omega
          unfold maxLen at hy1
          obtain ⟨M, hM⟩ : ∃ M, M = ys.length := ⟨_, rfl⟩
          have HM : Hid (M = ys.length) := hM
          rw [← hM] at I6 hy0 HCN ⊢
          clear hM
          obtain ⟨AL, hAL⟩ : ∃ AL, AL = allN ls k := ⟨_, rfl⟩
          rw [← hAL] at hd1 HCN HD0 ⊢
          clear hAL
          go_wp2
          go_loopw [10, 12] (fun s i wr => ∃ q : Nat, q ≤ M ∧ i = .int .i64 q ∧ s = .int .i64 (cntN ys q) ∧ Below w6.heap.size w6 wr) (fun _ i _ => M - (intOf i).toNat)
          case atStart => exact ⟨0, by omega, rfl, rfl, Below.refl _ _⟩
          case round =>
            obtain ⟨q, hqM, rfl, rfl, hw6⟩ := hrel
            rename World => wt
            by_cases hlq : q < M
            · obtain ⟨b, off, rfl, hbw, hat⟩ := (I6.below hw6).at_ (by omega)
              have hi0 := hat q hlq
              have hlq' : (q : Int) < (M : Int) := by omega
              have cb := cbd q
              have h3 : cntN ys (q + 1) = cntN ys q + if zg ys q = 0 then 0 else 1 := rfl
              by_cases hz : zg ys q = 0
              · have hz' : (zg ys q != 0) = false := by simpa using hz
                rw [if_pos hz, Int.add_zero] at h3
                have HS : Hid (cntN ys (q + 1) = cntN ys q) := h3
                clear h3 hz hat
                go_wp2
                go_roundw
                case rel => exact ⟨q + 1, by omega, by go_num, by rw [HS.out], hw6⟩
                case measure => simp [intOf]; omega
              · have hz' : (zg ys q != 0) = true := by simpa using hz
                rw [if_neg hz] at h3
                have HS : Hid (cntN ys (q + 1) = cntN ys q + 1) := h3
                clear h3 hz hat
                go_wp2
                go_roundw
                case rel => exact ⟨q + 1, by omega, by go_num, by rw [HS.out], hw6⟩
                case measure => simp [intOf]; omega
            · obtain rfl : q = M := by omega
              have U7 := U6.then hw6 U6.size
              have J7 := J6.below hw6
              rw [HCN.out]
              clear J6 U6 hw6 I6 cbd
              go_wp2
              go_loopw [13, 14] (fun s i wr => ∃ (r : Nat) (pb : Bool), r ≤ k ∧ i = .int .i64 r ∧ s = .bool pb ∧ (pb = true → ∀ i, i < r → (jg ls i).at_ ≤ (jg ls i).due) ∧ Below wt.heap.size wt wr) (fun _ i _ => k - (intOf i).toNat)
              case atStart => exact ⟨0, true, by omega, rfl, rfl, fun _ i hi => by omega, Below.refl _ _⟩
              case round =>
                obtain ⟨r, pb, hrk, rfl, rfl, hpl, hw7⟩ := hrel
                rename World => wu
                have HPL : Hid (pb = true → ∀ i, i < r → (jg ls i).at_ ≤ (jg ls i).due) := hpl
                clear hpl
                by_cases hlr : r < k
                · have hrl : r < ls.length := by have := HN.out; omega
                  obtain ⟨b, off, he, hbw, hat⟩ := (J7.below hw7).at_ (by omega)
                  obtain ⟨rfl, rfl⟩ : gl = b ∧ 0 = off := by simpa using he
                  obtain ⟨_, _, _, hi3, _, _, hi6⟩ := hat.job (i := r) hrl
                  simp only [Nat.zero_add] at hi3 hi6
                  have hlr' : (r : Int) < (k : Int) := by omega
                  clear hat he
                  cases pb with
                  | false =>
                    go_wp2
                    go_quiet (fail)
                    go_wp2
                    go_roundw
                    case rel => exact ⟨r + 1, false, by omega, by go_num, rfl, (fun h => by cases h), hw7.drewN _⟩
                    case measure => simp [intOf]; omega
                  | true =>
                    by_cases hle : (jg ls r).at_ ≤ (jg ls r).due
                    · have g1 : decide ((jg ls r).at_ ≤ (jg ls r).due) = true := decide_eq_true hle
                      have HP2 : Hid (∀ i, i < r + 1 → (jg ls i).at_ ≤ (jg ls i).due) := fun i hi => by
                        by_cases e : i = r
                        · subst e; exact hle
                        · exact HPL.out rfl i (by omega)
                      go_wp2
                      go_quiet (fail)
                      go_wp2
                      go_roundw
                      case rel => exact ⟨r + 1, true, by omega, by go_num, rfl, fun _ => HP2.out, hw7.drewN _⟩
                      case measure => simp [intOf]; omega
                    · have g1 : decide ((jg ls r).at_ ≤ (jg ls r).due) = false := decide_eq_false hle
                      go_wp2
                      go_quiet (fail)
                      go_wp2
                      go_roundw
                      case rel => exact ⟨r + 1, false, by omega, by go_num, rfl, (fun h => by cases h), hw7.drewN _⟩
                      case measure => simp [intOf]; omega
                · obtain rfl : r = k := by omega
                  have U8 := U7.then hw7 U7.size
                  have J8 := J7.below hw7
                  clear J7 U7 hw7
                  cases pb with
                  | false =>
                    have U9 := U8
                    have J9 := J8
                    clear U8 J8
                    go_wp2_with (first
                      | (go_at_call 37; refine (implDemand_any _ r cl ls 0 200 _ J9).mono ?_; rw [HD0.out]; rintro e w20 ⟨rfl, hb20⟩; have U20 := U9.then hb20 U9.size))
                    go_ret
                    exact ⟨rfl, U20⟩
                  | true =>
                    by_cases h1 : x < m
                    · by_cases h2 : m < y
                      · have HPX : Hid (demF ls x m + demF ls (m + 1) y ≤ d) := by
                          unfold Hid
                          rw [demF_t hq, demF_t hq]
                          exact HDX.out m (fun i hi => HPL.out rfl i (by have := HN.out; omega)) h1 h2
                        have c1 : 0 ≤ demF ls x m ∧ demF ls x m ≤ 250 := by rw [demF_t hq]; exact HBD.out _ _
                        have c2 : 0 ≤ demF ls (m + 1) y ∧ demF ls (m + 1) y ≤ 250 := by rw [demF_t hq]; exact HBD.out _ _
                        obtain ⟨A1, hA1⟩ : ∃ A1, A1 = demF ls x m := ⟨_, rfl⟩
                        obtain ⟨A2, hA2⟩ : ∃ A2, A2 = demF ls (m + 1) y := ⟨_, rfl⟩
                        have HA1 : Hid (A1 = demF ls x m) := hA1
                        have HA2 : Hid (A2 = demF ls (m + 1) y) := hA2
                        rw [← hA1] at HPX c1
                        rw [← hA2] at HPX c2
                        have hng : ¬ d < A1 + A2 := by have := HPX.out; omega
                        have gng : decide (d < A1 + A2) = false := decide_eq_false hng
                        clear hA1 hA2
                        go_wp2_with fail
                        refine (implDemand_any _ r cl ls x m _ J8).mono ?_
                        rw [← HA1.out]
                        rintro e w17 ⟨rfl, hb17⟩
                        go_wp2_with fail
                        refine (implDemand_any _ r cl ls (m + 1) y _ (J8.below hb17)).mono ?_
                        rw [← HA2.out]
                        rintro e w18 ⟨rfl, hb18⟩
                        have U9 := U8.then (hb17.then hb18 hb17.size) U8.size
                        have J9 := (J8.below hb17).below hb18
                        clear U8 J8 hb17 hb18
                        go_wp2_with (first
                          | (go_at_call 37; refine (implDemand_any _ r cl ls 0 200 _ J9).mono ?_; rw [HD0.out]; rintro e w20 ⟨rfl, hb20⟩; have U20 := U9.then hb20 U9.size))
                        go_ret
                        exact ⟨rfl, U20⟩
                      · have U9 := U8
                        have J9 := J8
                        clear U8 J8
                        go_wp2_with (first
                          | (go_at_call 37; refine (implDemand_any _ r cl ls 0 200 _ J9).mono ?_; rw [HD0.out]; rintro e w20 ⟨rfl, hb20⟩; have U20 := U9.then hb20 U9.size))
                        go_ret
                        exact ⟨rfl, U20⟩
                    · have U9 := U8
                      have J9 := J8
                      clear U8 J8
                      go_wp2_with (first
                        | (go_at_call 37; refine (implDemand_any _ r cl ls 0 200 _ J9).mono ?_; rw [HD0.out]; rintro e w20 ⟨rfl, hb20⟩; have U20 := U9.then hb20 U9.size))
                      go_ret
                      exact ⟨rfl, U20⟩
  · go_enter Try.func5, Try.ntmps5
    go_wp2_with (go_at_call 12; refine (big_any a0 n0 cap0 _ true (by simpa using hn)).mono ?_; rintro e w' ⟨rfl, hq⟩; have hq' := hq.symm; clear hq; subst hq')
    go_ret
    exact ⟨rfl, Below.refl _ _⟩

set_option maxRecDepth 100000 in
theorem lifted (os : Os) (started : os.Started) (H : Type) (enc : TypeId × Value → H) :
    ReturnsInHanded {} Try.checked os 5 .any (Rows.fnDemandsSpec.pre6 enc Try.prog Try.f5 Rows.fnDemandsRow.domain false) (Rows.fnDemandsSpec.post enc Try.prog Try.f5 false true false false) := by
  refine returnsInHanded_of_change (C := Try.checked) own started (by kernel_rfl) Try.func5
    (ChangeSpec.witness6 (enc := enc) (C := Try.checked) false ⟨#[], #[.slice none 0 0], []⟩ 8 (by kernel_rfl) (by kernel_rfl) (by kernel_rfl) (by kernel_rfl)) ?_
  intro W base args ds gs before hval0 hW hcnd _
  have hval : ∀ (j : Nat) t v, Try.f5.params[j]? = some t → args[j]? = some v → Value.okWide Try.prog W .any base t v := hval0
  have hW' := hW
  obtain ⟨p, q, hA0, hV, rfl, hfz, hnd⟩ := hW
  have hA : DataW.TrodAll enc Try.prog W 0 (fun _ => true) true Try.f5.params.toList args.toList ds p := hA0
  rw [Try.params5] at hA hval
  obtain ⟨v0, vs0, d0, ds0, p0, q0, hargs, rfl, rfl, h0, r0⟩ := trodAll_cons hA
  obtain ⟨rfl, rfl, rfl⟩ := trodAll_nil r0
  obtain rfl : args = #[v0] := by cases args; simp_all
  obtain ⟨rfl, rfl⟩ := trodVars_none hV
  have k0 := h0
  have lt0 : ∀ x ∈ p0, x.block < W.heap.size := by obtain ⟨m, hm⟩ := k0; exact DataW.trod_lt m _ _ _ hm
  obtain ⟨a0, n0, cap0, z0, rfl, w0⟩ := open_bytes (hval 0 22 v0 rfl rfl) h0
  clear hA0 hval0
  refine (walk a0 n0 cap0 z0 W w0).mono fun e W' ⟨he, bel⟩ => ?_
  subst he
  exact ⟨_, rfl, _, _, _, [], _, [], hW', trodAll_mk1 (shut_bool Try.underlying4 _), (trodAll_cons_mk (Below.trod laidOut (by kernel_rfl) (of_decide_eq_true (by kernel_rfl)) k0 bel lt0) trodAll_mk0), rfl, bel.frame _, fun h => by cases h⟩

theorem over : Rows.fnDemandsRow.holds Try.pinned (OpenSpec.ofChange Rows.fnDemandsSpec) :=
  OpenClaim.holds_of_wide 5 Try.f5 rfl rfl rfl rfl rfl rfl rfl ⟨rfl, rfl, rfl, rfl, rfl⟩ rfl rfl rfl rfl rfl (by kernel_rfl) Try.func5 (by kernel_rfl)
    (of_decide_eq_true (by kernel_rfl)) (by unfold Func.isWrapper; first | (rw [if_pos (by decide +kernel)]; kernel_rfl) | (rw [if_neg (by decide +kernel)]; exact ⟨rfl, rfl⟩))
    (fun os started H enc _ => lifted os started H enc)

/-- the given statement -/
theorem proved : Rows.FnDemandsSaid := over
#print axioms proved
end Go.Proofs.Ytmaojjjdepgaeaa.fnDemands
