/- For every input that can be read the law FnMachines returns true, and what it was handed reads as before. The frame is the kit's; the opening of the arguments and the walk are ours. -/
import Derived.Test.YtbnocnadlleibaaRows
import Derived.WalkKit
import Derived.ProofKit
import Derived.OpenShut
import Derived.ChangeOld
import Derived.Below
import Derived.Test.YtbnocnadlleibaaMachM
import Derived.Test.YtbnocnadlleibaaL6D
import Derived.Test.YtbnocnadlleibaaBytesOpen
import Derived.Deep.RegionHeld3
namespace Go.Proofs.Ytbnocnadlleibaa.fnMachines
open Go.ChangeShapes Go.WideShapes Go.ChangeAt Go.RowKit
set_option linter.unusedVariables false

theorem own : ownKnob Try.prog.godebug = none := by kernel_rfl
theorem laidOut : laidOutB Try.prog = true := by kernel_rfl

set_option maxRecDepth 8000 in
set_option maxHeartbeats 4000000 in
theorem walk (a0 : Option Addr) (n0 cap0 : Nat) (z0 : List Int) (w : World) (w0 : IsBytes w a0 n0 cap0 z0) :
    Calls Try.prog 4 #[.slice a0 n0 cap0] w fun e w' => e = .returned (.bool true) ∧ Below w.heap.size w w' := by
  have hmx := w0.mx
  have hle := w0.le
  by_cases hn : n0 ≤ 4096
  · go_enter Try.func4, Try.ntmps4
    go_wp2_with fail
    refine (big_any a0 n0 cap0 _ false (by simpa using hn)).mono ?_
    rintro e w' ⟨rfl, hq⟩; have hq' := hq.symm; clear hq; subst hq'
    go_wp2_with fail
    refine (drawOptimum_any a0 n0 cap0 z0 _ w0 hn).mono ?_
    rintro e w1 ⟨g, c, ys, m, rfl, m0, m1, O, hy, hA, U1⟩
    have J1 : JobS w1 (some ⟨g, 0, none⟩) ys.length c ys := O.toS (fun i hi => (hA _ (by rw [jg_get hi]; exact List.getElem_mem hi)).wf)
    have hgb := O.base
    have hcl := O.le
    have hcm := O.mx
    unfold maxLen at hcm
    obtain ⟨N, hN⟩ : ∃ N, ys.length = N := ⟨_, rfl⟩
    have HN : Hid (ys.length = N) := hN
    rw [hN] at J1 hy hcl ⊢
    clear hA O hN
    go_wp2_with fail
    refine (implOptimum_any _ N c ys m _ J1).mono ?_
    rintro e w2 ⟨rfl, hb2⟩
    have U2 := U1.then hb2 U1.size
    have J2 := J1.below hb2
    clear J1
    go_wp2_with fail
    refine (specOptimum_any _ N c ys m _ J2).mono ?_
    rintro e w3 ⟨rfl, hb3⟩
    have U3 := U2.then hb3 U2.size
    have J3 := J2.below hb3
    clear J2
    by_cases ho : optI ys m < 0
    · go_wp2
      go_ret
      exact ⟨rfl, U3⟩
    · obtain ⟨q, rfl, hjs, hn7, hq1, hq4, he⟩ := opt_some ho
      rw [he] at ho ⊢
      have hmore := opt_more6 hjs hn7 hq1
      have hone := opt_one6 hjs hn7
      have hbnd := bnd_opt hjs hq1
      have hshb : shB ys q = true := shB_mk (jsB_mk hjs) (by omega) (by omega)
      have htop := opt_top hjs hn7 hq1
      have hst := sumTo_bd hjs.ok ys.length (Nat.le_refl _)
      obtain ⟨T, hT⟩ : ∃ T, optV (longs ys) q = T := ⟨_, rfl⟩
      obtain ⟨M, hM⟩ : ∃ M, optI ys ((q : Int) + 1) = M := ⟨_, rfl⟩
      have HT : Hid _ := hT
      rw [hT] at ho hmore hbnd htop ⊢
      rw [hM] at hmore
      have HM : Hid _ := hM
      have HONE : Hid _ := hone
      clear hT hM hone he
      go_wp2_with fail
      refine (implOptimum_any _ N c ys _ _ J3).mono ?_
      rw [HM.out]
      rintro e w4 ⟨rfl, hb4⟩
      have U4 := U3.then hb4 U3.size
      have J4 := J3.below hb4
      clear J3
      have hN7 : N ≤ 7 := by rw [← HN.out]; exact hn7
      have ok : jokTo ys N := by rw [← HN.out]; exact hjs.ok
      have hst' : 0 ≤ sumTo ys N ∧ sumTo ys N ≤ 70000 := by have := HN.out; rw [← this]; omega
      have HST : Hid (optI ys 1 = sumTo ys N) := by have := HONE.out; rw [HN.out] at this; exact this
      have HBD : Hid (bndV ys q ≤ T) := hbnd
      have HMR : Hid (M ≤ T) := hmore
      clear hst hn7 hbnd hmore HONE
      go_wp2
      go_loop [7, 8] (fun s i => ∃ k : Nat, k ≤ N ∧ i = .int .i64 k ∧ s = .int .i64 (sumTo ys k)) (fun _ i => N - (intOf i).toNat)
      case atStart => exact ⟨0, by omega, rfl, rfl⟩
      case round =>
        obtain ⟨k, hk, rfl, rfl⟩ := hrel
        by_cases hlt : k < N
        · obtain ⟨b, off, hbo, hbw, hat⟩ := J4.at_ (by omega)
          injection hbo with hbo
          injection hbo with e1 e2 _
          subst e1 e2
          obtain ⟨_, _, hc2, _, _, _, _⟩ := hat.job (i := k) (by rw [HN.out]; exact hlt)
          have hlt' : (k : Int) < (N : Int) := by omega
          have bd := sumTo_bd ok k (by omega)
          have jb := jok_bd (ok k hlt).1
          have HS : Hid (sumTo ys (k + 1) = sumTo ys k + (jg ys k).long) := rfl
          rw [show 0 + k * 7 = k * 7 by omega] at hc2
          clear hat
          go_wp2
          go_round
          case rel => exact ⟨k + 1, by omega, by go_num, by rw [HS.out]⟩
          case measure => simp [intOf]; omega
        · have e : k = N := by omega
          subst e
          obtain ⟨S, hS⟩ : ∃ S, sumTo ys k = S := ⟨_, rfl⟩
          rw [hS] at HST hst' ⊢
          have hmr := HMR.out
          have dm : decide (T < M) = false := decide_eq_false (by omega)
          obtain ⟨BV, hBV⟩ : ∃ BV, bndV ys q = BV := ⟨_, rfl⟩
          have hbv := HBD.out
          rw [hBV] at hbv
          have db : decide (T < BV) = false := decide_eq_false (by omega)
          have dS : (S != S) = false := by simp
          have C1 : Calls Try.prog 12 #[.slice (some ⟨g, 0, none⟩) k c, .int .i64 1] w4 fun e w' => e = .returned (.int .i64 S) ∧ Below w4.heap.size w4 w' := by
            have := implOptimum_any _ k c ys 1 _ J4; rwa [HST.out] at this
          clear hS
          go_wp2_with (first
            | (go_at_call 12; refine C1.mono ?_; rintro e w5 ⟨rfl, hb5⟩
               have U5 := U4.then hb5 U4.size
               have J5 := J4.below hb5
               have CB : Calls Try.prog 15 #[.slice (some ⟨g, 0, none⟩) k c, .int .i64 q] w5 fun e w' => e = .returned (.int .i64 BV) ∧ Below w5.heap.size w5 w' := by
                 have := implBound_yes _ k c ys q _ J5 hshb; rwa [hBV] at this
               clear C1 J4)
            | (go_at_call 15; refine CB.mono ?_; rintro e w6 ⟨rfl, hb6⟩
               have U6 := U5.then hb6 U5.size
               have J6 := J5.below hb6
               clear CB J5))
          clear dm db dS
          by_cases h0 : k = 0
          · subst h0
            have d0 : (((0 : Nat) : Int) == 0) = true := rfl
            go_quiet (fail)
            go_wp2
            go_ret
            exact ⟨rfl, U6.drewNI _⟩
          · obtain ⟨k, rfl⟩ : ∃ k', k = k' + 1 := ⟨k - 1, by omega⟩
            obtain ⟨x, ls, rfl⟩ : ∃ x ls, ys = x :: ls := by
              cases ys with
              | nil => exact absurd HN.out (by simp)
              | cons x ls => exact ⟨x, ls, rfl⟩
            have hls := opt_less6 hjs (by rw [HN.out]; exact hN7) hq1 hq4
            rw [HT.out] at hls
            obtain ⟨b, off, hbo, hbw, hat⟩ := J6.at_ (by omega)
            injection hbo with hbo
            injection hbo with e1 e2 _
            subst e1 e2
            obtain ⟨_, _, hc2, _, _, _, _⟩ := hat.job (i := 0) (by simp)
            rw [jg_zero, show 0 + 0 * 7 + 2 = 2 by omega] at hc2
            have jb := jok_bd (ok 0 (by omega)).1
            rw [jg_zero] at jb
            obtain ⟨ad, had⟩ : ∃ ad : Option Addr, (if c = 1 then some (⟨g, 0, none⟩ : Addr) else some ⟨g, 0 + 7, none⟩) = ad := ⟨_, rfl⟩
            have CT : ∀ W, Below w6.heap.size w6 W → Calls Try.prog 12 #[.slice ad k (c - 1), .int .i64 q] W fun e w' => e = .returned (.int .i64 (optI ls q)) ∧ Below W.heap.size W w' := fun W hW => by
              have := (J6.below hW).rest
              rw [had] at this
              exact implOptimum_any _ k (c - 1) ls q W this
            rw [show 0 + 7 = 7 by omega] at had
            obtain ⟨V, hV⟩ : ∃ V, optI ls q = V := ⟨_, rfl⟩
            rw [hV] at hls CT
            obtain ⟨x2, hx2⟩ : ∃ x2, x.long = x2 := ⟨_, rfl⟩
            rw [hx2] at hc2 jb hls
            obtain ⟨v0, v1, v2⟩ := hls
            have dV : decide (V ≤ T) = true := decide_eq_true v1
            have d0 : ((k : Int) + 1 == 0) = false := by rw [beq_eq_false_iff_ne]; omega
            have hk1 : (1 : Int) ≤ (k : Int) + 1 := by omega
            have hkc : (k : Int) + 1 ≤ (c : Int) := by omega
            have wv : IntKind.i64.wrap (V + x2) = V + x2 := by rw [IntKind.wrap_i64]; omega
            have dW : decide (T ≤ V + x2) = true := decide_eq_true v2
            have hgl := hbw
            have HKK : Hid (∀ W, Below w6.heap.size w6 W → (Below w6.heap.size w6 W ∧ W.cell? ⟨g, 2, none⟩ = some (.int .i64 x2))) := fun W hW => ⟨hW, (hW.cell (p := ⟨g, 2, none⟩) hgl).trans hc2⟩
            have KB : ∀ {W}, (Below w6.heap.size w6 W ∧ W.cell? ⟨g, 2, none⟩ = some (.int .i64 x2)) → Below w6.heap.size w6 W := fun h => h.1
            have B0 : Below w6.heap.size w6 w6 := Below.refl _ _
            have C6 := HKK.out _ B0
            clear hat hV hx2 ok hjs J6 hN7 hshb hst'
            go_region_held3 (fun w' => Below w6.heap.size w6 w' ∧ w'.cell? ⟨g, 2, none⟩ = some (.int .i64 x2)) ((refine HKK.out _ ?_; first | with_reducible exact SB | with_reducible exact SB.drew | with_reducible exact B0.drew | with_reducible exact B0)) (first
              | (go_at_call 12
                 refine (CT _ (KB (by assumption))).mono ?_
                 rintro e y1 ⟨rfl, hb⟩
                 have SB : Below w6.heap.size w6 y1 := (KB (by assumption)).then hb (KB (by assumption)).size))
            all_goals
              go_wp2
              go_ret
              exact ⟨rfl, U6.then SB U6.size⟩
  · go_enter Try.func4, Try.ntmps4
    go_wp2_with fail
    refine (big_any a0 n0 cap0 _ true (by simp; omega)).mono ?_
    rintro e w' ⟨rfl, hq⟩; have hq' := hq.symm; clear hq; subst hq'
    go_wp2
    go_ret
    exact ⟨rfl, Below.refl _ _⟩

set_option maxRecDepth 100000 in
theorem lifted (os : Os) (started : os.Started) (H : Type) (enc : TypeId × Value → H) :
    ReturnsInHanded {} Try.checked os 4 .any (Rows.fnMachinesSpec.pre6 enc Try.prog Try.f4 Rows.fnMachinesRow.domain false) (Rows.fnMachinesSpec.post enc Try.prog Try.f4 false true false false) := by
  refine returnsInHanded_of_change (C := Try.checked) own started (by kernel_rfl) Try.func4
    (ChangeSpec.witness6 (enc := enc) (C := Try.checked) false ⟨#[], #[.slice none 0 0], []⟩ 8 (by kernel_rfl) (by kernel_rfl) (by kernel_rfl) (by kernel_rfl)) ?_
  intro W base args ds gs before hval0 hW hcnd _
  have hval : ∀ (j : Nat) t v, Try.f4.params[j]? = some t → args[j]? = some v → Value.okWide Try.prog W .any base t v := hval0
  have hW' := hW
  obtain ⟨p, q, hA0, hV, rfl, hfz, hnd⟩ := hW
  have hA : DataW.TrodAll enc Try.prog W 0 (fun _ => true) true Try.f4.params.toList args.toList ds p := hA0
  rw [Try.params4] at hA hval
  obtain ⟨v0, vs0, d0, ds0, p0, q0, hargs, rfl, rfl, h0, r0⟩ := trodAll_cons hA
  obtain ⟨rfl, rfl, rfl⟩ := trodAll_nil r0
  obtain rfl : args = #[v0] := by cases args; simp_all
  obtain ⟨rfl, rfl⟩ := trodVars_none hV
  have k0 := h0
  have lt0 : ∀ x ∈ p0, x.block < W.heap.size := by obtain ⟨m, hm⟩ := k0; exact DataW.trod_lt m _ _ _ hm
  obtain ⟨a0, n0, cap0, z0, rfl, w0⟩ := open_bytes (hval 0 22 v0 rfl rfl) h0
  clear hA0 hval0
  refine (walk a0 n0 cap0 z0 W w0).mono fun e W' ⟨he, bel⟩ => ?_
  subst he
  exact ⟨_, rfl, _, _, _, [], _, [], hW', trodAll_mk1 (shut_bool Try.underlying4 _), (trodAll_cons_mk (Below.trod laidOut (by kernel_rfl) (of_decide_eq_true (by kernel_rfl)) k0 bel lt0) trodAll_mk0), rfl, bel.frame _, fun h => by cases h⟩

theorem over : Rows.fnMachinesRow.holds Try.pinned (OpenSpec.ofChange Rows.fnMachinesSpec) :=
  OpenClaim.holds_of_wide 4 Try.f4 rfl rfl rfl rfl rfl rfl rfl ⟨rfl, rfl, rfl, rfl, rfl⟩ rfl rfl rfl rfl rfl (by kernel_rfl) Try.func4 (by kernel_rfl)
    (of_decide_eq_true (by kernel_rfl)) (by unfold Func.isWrapper; first | (rw [if_pos (by decide +kernel)]; kernel_rfl) | (rw [if_neg (by decide +kernel)]; exact ⟨rfl, rfl⟩))
    (fun os started H enc _ => lifted os started H enc)

/-- the given statement -/
theorem proved : Rows.FnMachinesSaid := over
#print axioms proved
end Go.Proofs.Ytbnocnadlleibaa.fnMachines
