/- For every input that can be read the law FnHodgson returns true, and what it was handed reads as before. The frame is the kit's; the opening of the arguments and the walk are ours. -/
import Derived.Test.YtnbeaeekfahijaaRows
import Derived.WalkKit
import Derived.ProofKit
import Derived.OpenShut
import Derived.ChangeOld
import Derived.Below
import Derived.Test.YtnbeaeekfahijaaHodTurn
import Derived.Test.YtnbeaeekfahijaaOptV
import Derived.Test.YtnbeaeekfahijaaBytesOpen
import Derived.Deep.Cut
import Derived.Deep.CutRange
namespace Go.Proofs.Ytnbeaeekfahijaa.fnHodgson
open Go.ChangeShapes Go.WideShapes Go.ChangeAt Go.RowKit
open Go.Sort
set_option linter.unusedVariables false

theorem own : ownKnob Try.prog.godebug = none := by kernel_rfl
theorem laidOut : laidOutB Try.prog = true := by kernel_rfl

set_option maxRecDepth 8000 in
set_option maxHeartbeats 40000000 in
theorem walk (a0 : Option Addr) (n0 cap0 : Nat) (z0 : List Int) (w : World) (w0 : IsBytes w a0 n0 cap0 z0) :
    Calls Try.prog 4 #[.slice a0 n0 cap0] w fun e w' => e = .returned (.bool true) ∧ Below w.heap.size w w' := by
  have hmx := w0.mx
  have hle := w0.le
  by_cases hn : n0 ≤ 4096
  · go_enter Try.func4, Try.ntmps4
    go_wp2_with fail
    refine (big_any a0 n0 cap0 _ false (by simpa using hn)).mono ?_
    rintro e w' ⟨rfl, hq⟩; have hq' := hq.symm; clear hq; subst hq'
    go_wp2_with fail
    refine (drawHodgson_any a0 n0 cap0 z0 _ w0 hn).mono ?_
    rintro e w1 ⟨g, c, ys, rfl, O, hy, hA, U1⟩
    have J1 : JobS w1 (some ⟨g, 0, none⟩) ys.length c ys := O.toS (fun i hi => (hA _ (by rw [jg_get hi]; exact List.getElem_mem hi)).wf)
    clear hA O
    go_wp2_with fail
    refine (implHodgson_any _ ys.length c ys _ J1).mono ?_
    rintro e w2 ⟨vh, ch, zs, rfl, LH, HH, hb2⟩
    have U2 := U1.then hb2 U1.size
    have J2 := J1.below hb2
    have wfy : ∀ i, i < ys.length → jwf (jg ys i) := fun i hi => J1.wf i hi
    have JH2 : JobS w2 vh zs.length ch zs := LH.toS (HH.wf wfy)
    clear LH J1
    go_wp2_with fail
    refine (drawTurns_any a0 n0 cap0 z0 _ (w0.below U2) hn).mono ?_
    rintro e w3 ⟨n, rfl, nn0, nn1, hb3⟩
    have U3 := U2.then hb3 U2.size
    have J3 := J2.below hb3
    have JH3 := JH2.below hb3
    clear J2 JH2
    go_wp2_with fail
    refine (implTurns_any n _).mono ?_
    rintro e w4 ⟨v, X, rfl, RX, hX, hb4⟩
    have U4 := U3.then hb4 U3.size
    have J4 := J3.below hb4
    have JH4 := JH3.below hb4
    have SX4 := RX.toS
    rw [hX] at SX4
    clear J3 JH3 RX
    go_wp2_with fail
    refine (specHodgson_any _ ys.length c ys _ J4).mono ?_
    rintro e w5 ⟨g5, c5, zs', rfl, O5, H5, hb5⟩
    obtain rfl := H5.uniq HH
    have U5 := U4.then hb5 U4.size
    have J5 := J4.below hb5
    have JH5 := JH4.below hb5
    have SX5 := SX4.below hb5
    have JS5 := O5.toS (HH.wf wfy)
    clear J4 JH4 SX4 O5 H5
    go_wp2_with fail
    refine (likeJobs_same vh (some ⟨g5, 0, none⟩) zs'.length ch c5 zs' _ JH5 JS5).mono ?_
    rintro e w6 ⟨rfl, hb6⟩
    have U6 := U5.then hb6 U5.size
    have J6 := J5.below hb6
    have JH6 := JH5.below hb6
    have SX6 := SX5.below hb6
    clear J5 JH5 SX5 JS5
    go_wp2_with fail
    refine (specTurns_any n _).mono ?_
    rintro e w7 ⟨u, Y, rfl, RY, hY, _, hb7⟩
    have U7 := U6.then hb7 U6.size
    have J7 := J6.below hb7
    have JH7 := JH6.below hb7
    have SX7 := SX6.below hb7
    have SY7 := RY.toS
    rw [hY] at SY7
    clear J6 JH6 SX6 RY
    obtain ⟨ax, cx, rfl, hcx, hmx2, hatx⟩ := SX7.sh
    obtain ⟨ay, cy, rfl, hcy, hmy2, haty⟩ := SY7.sh
    have hXY : Y.length = X.length := by have := congrArg List.length (hX.trans hY.symm); simpa using this.symm
    have hx720 := (turns_tot hX).1
    have HXL : Hid (∀ i (h1 : i < X.length) (h2 : i < Y.length), Y[i].l = X[i].l) := fun i h1 h2 => by
      have : (Y.map (·.l))[i]? = (X.map (·.l))[i]? := by rw [hX, hY]
      simpa [h1, h2] using this
    have HCNT : Hid (0 ≤ n → n ≤ 6 → X.length = factN n.toNat) := fun h1 h2 => by
      have h3 := congrArg List.length hX
      unfold turnsV at h3
      rw [if_pos ⟨h1, h2⟩, turnsL_len _ _ (upN_len _)] at h3
      simpa using h3
    have HAX : Hid _ := hatx
    have HAY : Hid _ := haty
    have HOX : Hid _ := SX7.ok
    have HOY : Hid _ := SY7.ok
    unfold maxLen at hmx2 hmy2
    rw [hXY]
    have XY1 : X.length ≤ Y.length := by omega
    have XY2 : Y.length ≤ X.length := by omega
    obtain ⟨N, hN⟩ : ∃ N, N = X.length := ⟨_, rfl⟩
    have N1 : N ≤ X.length := by omega
    have N2 : X.length ≤ N := by omega
    have HNX : Hid (N = X.length) := hN
    rw [← hN]
    clear hatx haty SX7 SY7 hX hY hXY hN
    go_wp2_with fail
    go_loop [8, 9] (fun a i => ∃ j : Nat, 2 ≤ j ∧ j ≤ 8 ∧ ((j : Int) ≤ n + 1 ∨ j = 2) ∧ i = .int .i64 j ∧ a = .int .i64 (factN (j - 1))) (fun _ i => 9 - (intOf i).toNat)
    case atStart => exact ⟨2, by omega, by omega, Or.inr rfl, rfl, rfl⟩
    case round =>
      obtain ⟨j, j2, j8, jn, rfl, rfl⟩ := hrel
      have hf := factN_le8 (j - 1) (by omega)
      by_cases hj : (j : Int) ≤ n
      · have hfs : factN (j + 1 - 1) = factN (j - 1) * j := by
          obtain ⟨q, rfl⟩ : ∃ q, j = q + 1 := ⟨j - 1, by omega⟩
          show (q + 1) * factN q = factN q * (q + 1)
          exact Nat.mul_comm _ _
        have hm1 : factN (j - 1) * j ≤ 5040 * 8 := Nat.mul_le_mul hf j8
        have wm : IntKind.i64.wrap ((factN (j - 1) : Int) * (j : Int)) = ((factN (j - 1) * j : Nat) : Int) := by
          rw [← Int.natCast_mul, IntKind.wrap_i64]; omega
        have HFS : Hid _ := hfs
        clear hfs
        go_wp2
        go_round
        case rel => exact ⟨j + 1, by omega, by omega, Or.inl (by omega), by go_num, by rw [HFS.out, Int.natCast_mul]⟩
        case measure => simp [intOf]; omega
      · have hj' : n < (j : Int) := by omega
        have HALL : Hid (0 ≤ n → n ≤ 6 → factN (j - 1) = factN n.toNat) := fun h1 h2 => by
          by_cases c1 : n ≤ 1
          · have e : j = 2 := by omega
            subst e
            have : n.toNat = 0 ∨ n.toNat = 1 := by omega
            rcases this with e | e <;> rw [e] <;> rfl
          · have e : j - 1 = n.toNat := by omega
            rw [e]
        generalize hall : factN (j - 1) = all at HALL hf ⊢
        clear hall
        go_wp2_with fail
        go_loopw [10] (fun i wr => ∃ k : Nat, k ≤ N ∧ i = .int .i64 k ∧ Below w7.heap.size w7 wr) (fun i _ => N - (intOf i).toNat)
        case atStart => exact ⟨0, by omega, rfl, Below.refl _ _⟩
        case round =>
          obtain ⟨k, hk, rfl, hw⟩ := hrel
          by_cases hlt : k < N
          · obtain ⟨b, rfl, hbw, hce⟩ := HAX.out (by omega)
            obtain ⟨b', rfl, hbw', hce'⟩ := HAY.out (by omega)
            have q0 := (hw.cell (p := ⟨b, k, none⟩) hbw).trans (hce k (by omega))
            have q1 := (hw.cell (p := ⟨b', k, none⟩) hbw').trans (hce' k (by omega))
            unfold Rw.val at q0 q1
            have i0 := (HOX.out k (by omega)).below hw
            have i1 := (HOY.out k (by omega)).below hw
            have e := HXL.out k (by omega) (by omega)
            rw [e] at q1 i1
            have hlt' : (k : Int) < (N : Int) := by omega
            clear hce hce'
            go_wp2_with fail
            go_region_with ((go_at_call 30; refine (likeInts_same _ _ _ _ _ _ _ i0.drewI i1.drewI).mono ?_; rintro e w2' ⟨rfl, hb2'⟩))
            all_goals
              go_wp2
              go_roundw
              case rel => exact ⟨k + 1, by omega, by go_num, hw.drew.trans (hb2'.mono hw.size)⟩
              case measure => simp [intOf]; omega
          · have e : k = N := by omega
            subst e
            rename World => w8
            have U8 := U7.then hw U7.size
            have J8 := J7.below hw
            have JH8 := JH7.below hw
            have HCN : Hid (0 ≤ n → n ≤ 6 → k = all) := fun h1 h2 => by rw [HNX.out, HCNT.out h1 h2, HALL.out h1 h2]
            clear U7 J7 JH7 hw
            go_upto_region 22 with fail
            go_cut [72] from 61 (fun s72 wx => s72 = .bool false ∧ Below w8.heap.size w8 wx)
            case first =>
              by_cases c0 : 0 ≤ n
              · by_cases c6 : n ≤ 6
                · have hka := HCN.out c0 c6
                  subst hka
                  go_wp2_with fail
                  go_meet
                  exact ⟨by simp, Below.refl _ _⟩
                · have c6' : decide (n ≤ 6) = false := decide_eq_false c6
                  go_wp2_with fail
                  go_meet
                  exact ⟨by simp, Below.refl _ _⟩
              · have c0' : decide (n ≥ 0) = false := decide_eq_false (by omega)
                go_wp2_with fail
                go_meet
                exact ⟨by simp, Below.refl _ _⟩
            case rest =>
              obtain ⟨rfl, B22⟩ := hcut
              rename World => w8b
              replace U8 := U8.then B22 U8.size
              replace J8 := J8.below B22
              replace JH8 := JH8.below B22
              clear HCN HAX HAY HOX HOY HXL HCNT HNX HALL N1 N2 XY1 XY2
              rcases hq : jsB ys with _ | _
              · go_wp2_with fail
                refine (specJobsOk_any _ ys.length c ys _ J8).mono ?_
                rw [hq]
                rintro e w9 ⟨rfl, hb9⟩
                obtain rfl : zs' = [] := HH.uniq (Or.inl ⟨hq, rfl⟩)
                have U9 := U8.then hb9 U8.size
                go_wp2
                go_ret
                exact ⟨rfl, U9⟩
              · have hy40 : ys.length ≤ 40 := (jsB_t hq).n
                go_wp2_with fail
                refine (specJobsOk_any _ ys.length c ys _ J8).mono ?_
                rw [hq]
                rintro e w9 ⟨rfl, hb9⟩
                have U9 := U8.then hb9 U8.size
                have J9 := J8.below hb9
                have JH9 := JH8.below hb9
                have hperm := HH.perm hq
                have hzl := hperm.length_eq
                rw [hzl] at JH9 ⊢
                clear hzl
                go_wp2_with fail
                refine (together_any vh (some ⟨g, 0, none⟩) ys.length ch c zs' ys _ JH9 J9 (fun y hy => hperm.subset hy)).mono ?_
                rintro e w10 ⟨rfl, hb10⟩
                have U10 := U9.then hb10 U9.size
                have J10 := J9.below hb10
                clear J8 J9 JH8 JH9 U8 U9 HH hperm hb9 hb10
                have hcy40 : ys.length ≤ c := J10.le
                have hcm40 : c ≤ maxLen := J10.mx
                unfold maxLen at hcm40
                by_cases h5 : 5 < ys.length
                · have h5' : (5 : Int) < (ys.length : Int) := by omega
                  have h5c : (5 : Int) ≤ (c : Int) := by omega
                  have JF := J10.take (m := 5) (by omega)
                  have hqF : jsB (ys.take 5) = true := jsB_mk ((jsB_t hq).sub (List.take_sublist _ _))
                  have wfF : ∀ i, i < (ys.take 5).length → jwf (jg (ys.take 5) i) := fun i hi => JF.wf i (by have := JF.len; omega)
                  have hFl : Hid ((ys.take 5).length = 5) := JF.len
                  obtain ⟨fw, hfw⟩ : ∃ fw, fw = ys.take 5 := ⟨_, rfl⟩
                  rw [← hfw] at JF hqF wfF hFl
                  clear hfw J10 hq wfy
                  go_wp2_with fail
                  refine (implHodgson_any (some ⟨g, 0, none⟩) 5 c fw _ JF).mono ?_
                  rintro e x1 ⟨vf, cf, hs, rfl, Lf, Hf, hx1⟩
                  have R1 := U10.then hx1 U10.size
                  have Jf : JobS x1 vf hs.length cf hs := Lf.toS (Hf.wf wfF)
                  have JF1 := JF.below hx1
                  go_wp2_with fail
                  refine (specTardy_any vf hs.length cf hs _ Jf).mono ?_
                  rintro e x2 ⟨rfl, hx2⟩
                  have R2 := R1.then hx2 R1.size
                  have JF2 := JF1.below hx2
                  have HBEST : Hid (∀ qs : List Jb, qs.Perm fw → ¬ sumV gTardy qs < sumV gTardy hs) := fun qs hp => Hf.best hqF hp
                  have HWF : Hid _ := wfF
                  generalize sumV gTardy hs = best at HBEST ⊢
                  clear Lf Jf Hf JF1
                  go_wp2_with fail
                  refine (specTurns_any 5 _).mono ?_
                  rintro e x3 ⟨vt, Z, rfl, RZ, hZ, _, hx3⟩
                  have R3 := R2.then hx3 R2.size
                  have JF3 := JF2.below hx3
                  obtain ⟨az, cz, rfl, hcz, hmz, hatz⟩ := RZ.toS.sh
                  have HAZ : Hid _ := hatz
                  have HOK : Hid (∀ i (hi : i < Z.length), IntS x3 Z[i].a Z[i].l.length Z[i].c Z[i].l) := RZ.toS.ok
                  have HZL : Hid (∀ i (hi : i < Z.length), Z[i].l.Perm (upN 5) ∧ Z[i].l.length ≤ 6) := fun i hi => by
                    have hmem : Z[i].l ∈ turnsV 5 := by rw [← hZ]; exact List.mem_map.2 ⟨Z[i], List.getElem_mem hi, rfl⟩
                    refine ⟨?_, (turnsV_bd _).2 _ hmem⟩
                    unfold turnsV at hmem
                    rw [if_pos (by omega)] at hmem
                    simpa using turnsL_perm _ _ (upN_len _) _ hmem
                  have hz720 := (turns_tot hZ).1
                  unfold maxLen at hmz
                  obtain ⟨NZ, hNZ⟩ : ∃ NZ, NZ = Z.length := ⟨_, rfl⟩
                  have NZ1 : NZ ≤ Z.length := by omega
                  have NZ2 : Z.length ≤ NZ := by omega
                  rw [← hNZ]
                  clear hatz RZ hZ hNZ
                  go_wp2_with fail
                  go_loopw [14] (fun i wr => ∃ k : Nat, k ≤ NZ ∧ i = .int .i64 k ∧ Below x3.heap.size x3 wr) (fun i _ => NZ - (intOf i).toNat)
                  case atStart => exact ⟨0, by omega, rfl, Below.refl _ _⟩
                  case round =>
                    obtain ⟨k, hk, rfl, hwr⟩ := hrel
                    rename World => wk
                    by_cases hlt : k < NZ
                    · have hlt' : (k : Int) < (NZ : Int) := by omega
                      have hkZ : k < Z.length := by omega
                      obtain ⟨bz, rfl, hbz, hcz2⟩ := HAZ.out (by omega)
                      have q0 := (hwr.cell (p := ⟨bz, k, none⟩) hbz).trans (hcz2 k hkZ)
                      unfold Rw.val at q0
                      have I0 := (HOK.out k hkZ).below hwr
                      obtain ⟨hp, h6⟩ := HZL.out k hkZ
                      have JFk := JF3.below hwr
                      have RK := R3.then hwr R3.size
                      have hbd : ∀ z ∈ Z[k].l, 0 ≤ z ∧ z < (5 : Nat) := fun z hz => by
                        have := hp.subset hz
                        unfold upN at this
                        obtain ⟨i, hi, rfl⟩ := List.mem_map.1 this
                        have := List.mem_range.1 hi
                        omega
                      have HTP : Hid ((turnedL fw Z[k].l).Perm fw) := turnedL_perm (by rw [JF3.len]; exact hp)
                      have HTL : Hid (Z[k].l.length = (turnedL fw Z[k].l).length) := (turnedL_len _ _).symm
                      obtain ⟨tk, htk⟩ : ∃ tk, tk = Z[k] := ⟨_, rfl⟩
                      rw [← htk] at q0 I0 h6 hbd HTP HTL
                      clear htk hp hcz2
                      go_wp2_with fail
                      refine (turned_any (some ⟨g, 0, none⟩) 5 c fw tk.a tk.l.length tk.c tk.l _ JFk I0 hbd (by omega)).mono ?_
                      rintro e x4 ⟨gk, ck, rfl, OK, hx4⟩
                      have RK4 := RK.then hx4 RK.size
                      have JT0 := OK.toS (fun i hi => by
                        obtain ⟨j, hj', e⟩ := List.getElem_of_mem (HTP.out.subset (show jg (turnedL fw tk.l) i ∈ _ by rw [jg_get hi]; exact List.getElem_mem hi))
                        rw [← e, ← jg_get hj']; exact HWF.out j hj')
                      rw [← HTL.out] at JT0
                      go_wp2_with fail
                      refine (specTardy_any _ tk.l.length ck _ _ JT0).mono ?_
                      rintro e x5 ⟨rfl, hx5⟩
                      have L1 := HBEST.out _ HTP.out
                      generalize sumV gTardy (turnedL fw tk.l) = mine at L1 ⊢
                      have d1 : decide (mine < best) = false := decide_eq_false (by omega)
                      have BK : Hid (Below x3.heap.size x3 x5) := (hwr.then hx4 hwr.size).then hx5 (hwr.then hx4 hwr.size).size
                      clear OK JT0 q0 I0 hbd RK RK4 JFk hx4 hx5 hwr
                      go_wp2
                      go_roundw
                      case rel => exact ⟨k + 1, by omega, by go_num, BK.out⟩
                      case measure => simp [intOf]; omega
                    · have e : k = NZ := by omega
                      subst e
                      have RK := R3.then hwr R3.size
                      go_wp2
                      go_ret
                      exact ⟨rfl, RK⟩
                · have h5' : ¬ ((5 : Int) < (ys.length : Int)) := by omega
                  obtain ⟨M, hM⟩ : ∃ M, M = ys.length := ⟨_, rfl⟩
                  rw [← hM] at J10 h5' hcy40 ⊢
                  have hM5 : M ≤ 5 := by omega
                  clear hM
                  go_wp2_with fail
                  refine (implHodgson_any (some ⟨g, 0, none⟩) M c ys _ J10).mono ?_
                  rintro e x1 ⟨vf, cf, hs, rfl, Lf, Hf, hx1⟩
                  have R1 := U10.then hx1 U10.size
                  have Jf : JobS x1 vf hs.length cf hs := Lf.toS (Hf.wf wfy)
                  have JF1 := J10.below hx1
                  go_wp2_with fail
                  refine (specTardy_any vf hs.length cf hs _ Jf).mono ?_
                  rintro e x2 ⟨rfl, hx2⟩
                  have R2 := R1.then hx2 R1.size
                  have JF2 := JF1.below hx2
                  have HBEST : Hid (∀ qs : List Jb, qs.Perm ys → ¬ sumV gTardy qs < sumV gTardy hs) := fun qs hp => Hf.best hq hp
                  have HWF : Hid _ := wfy
                  generalize sumV gTardy hs = best at HBEST ⊢
                  clear Lf Jf Hf JF1
                  go_wp2_with fail
                  refine (specTurns_any M _).mono ?_
                  rintro e x3 ⟨vt, Z, rfl, RZ, hZ, _, hx3⟩
                  have R3 := R2.then hx3 R2.size
                  have JF3 := JF2.below hx3
                  obtain ⟨az, cz, rfl, hcz, hmz, hatz⟩ := RZ.toS.sh
                  have HAZ : Hid _ := hatz
                  have HOK : Hid (∀ i (hi : i < Z.length), IntS x3 Z[i].a Z[i].l.length Z[i].c Z[i].l) := RZ.toS.ok
                  have HZL : Hid (∀ i (hi : i < Z.length), Z[i].l.Perm (upN M) ∧ Z[i].l.length ≤ 6) := fun i hi => by
                    have hmem : Z[i].l ∈ turnsV (M : Int) := by rw [← hZ]; exact List.mem_map.2 ⟨Z[i], List.getElem_mem hi, rfl⟩
                    refine ⟨?_, (turnsV_bd _).2 _ hmem⟩
                    unfold turnsV at hmem
                    rw [if_pos (by omega)] at hmem
                    simpa using turnsL_perm _ _ (upN_len _) _ hmem
                  have hz720 := (turns_tot hZ).1
                  unfold maxLen at hmz
                  obtain ⟨NZ, hNZ⟩ : ∃ NZ, NZ = Z.length := ⟨_, rfl⟩
                  have NZ1 : NZ ≤ Z.length := by omega
                  have NZ2 : Z.length ≤ NZ := by omega
                  rw [← hNZ]
                  clear hatz RZ hZ hNZ
                  go_wp2_with fail
                  go_loopw [14] (fun i wr => ∃ k : Nat, k ≤ NZ ∧ i = .int .i64 k ∧ Below x3.heap.size x3 wr) (fun i _ => NZ - (intOf i).toNat)
                  case atStart => exact ⟨0, by omega, rfl, Below.refl _ _⟩
                  case round =>
                    obtain ⟨k, hk, rfl, hwr⟩ := hrel
                    rename World => wk
                    by_cases hlt : k < NZ
                    · have hlt' : (k : Int) < (NZ : Int) := by omega
                      have hkZ : k < Z.length := by omega
                      obtain ⟨bz, rfl, hbz, hcz2⟩ := HAZ.out (by omega)
                      have q0 := (hwr.cell (p := ⟨bz, k, none⟩) hbz).trans (hcz2 k hkZ)
                      unfold Rw.val at q0
                      have I0 := (HOK.out k hkZ).below hwr
                      obtain ⟨hp, h6⟩ := HZL.out k hkZ
                      have JFk := JF3.below hwr
                      have RK := R3.then hwr R3.size
                      have hbd : ∀ z ∈ Z[k].l, 0 ≤ z ∧ z < (M : Nat) := fun z hz => by
                        have := hp.subset hz
                        unfold upN at this
                        obtain ⟨i, hi, rfl⟩ := List.mem_map.1 this
                        have := List.mem_range.1 hi
                        omega
                      have HTP : Hid ((turnedL ys Z[k].l).Perm ys) := turnedL_perm (by rw [JF3.len]; exact hp)
                      have HTL : Hid (Z[k].l.length = (turnedL ys Z[k].l).length) := (turnedL_len _ _).symm
                      obtain ⟨tk, htk⟩ : ∃ tk, tk = Z[k] := ⟨_, rfl⟩
                      rw [← htk] at q0 I0 h6 hbd HTP HTL
                      clear htk hp hcz2
                      go_wp2_with fail
                      refine (turned_any (some ⟨g, 0, none⟩) M c ys tk.a tk.l.length tk.c tk.l _ JFk I0 hbd (by omega)).mono ?_
                      rintro e x4 ⟨gk, ck, rfl, OK, hx4⟩
                      have RK4 := RK.then hx4 RK.size
                      have JT0 := OK.toS (fun i hi => by
                        obtain ⟨j, hj', e⟩ := List.getElem_of_mem (HTP.out.subset (show jg (turnedL ys tk.l) i ∈ _ by rw [jg_get hi]; exact List.getElem_mem hi))
                        rw [← e, ← jg_get hj']; exact HWF.out j hj')
                      rw [← HTL.out] at JT0
                      go_wp2_with fail
                      refine (specTardy_any _ tk.l.length ck _ _ JT0).mono ?_
                      rintro e x5 ⟨rfl, hx5⟩
                      have L1 := HBEST.out _ HTP.out
                      generalize sumV gTardy (turnedL ys tk.l) = mine at L1 ⊢
                      have d1 : decide (mine < best) = false := decide_eq_false (by omega)
                      have BK : Hid (Below x3.heap.size x3 x5) := (hwr.then hx4 hwr.size).then hx5 (hwr.then hx4 hwr.size).size
                      clear OK JT0 q0 I0 hbd RK RK4 JFk hx4 hx5 hwr
                      go_wp2
                      go_roundw
                      case rel => exact ⟨k + 1, by omega, by go_num, BK.out⟩
                      case measure => simp [intOf]; omega
                    · have e : k = NZ := by omega
                      subst e
                      have RK := R3.then hwr R3.size
                      go_wp2
                      go_ret
                      exact ⟨rfl, RK⟩
  · have c0 : decide (4096 < n0) = true := by simpa using hn
    go_enter Try.func4, Try.ntmps4
    go_wp2_with fail
    refine (big_any a0 n0 cap0 _ true c0.symm).mono ?_
    rintro e w' ⟨rfl, hq⟩; have hq' := hq.symm; clear hq; subst hq'
    go_wp2
    go_ret
    exact ⟨rfl, Below.refl _ _⟩

set_option maxRecDepth 100000 in
theorem lifted (os : Os) (started : os.Started) (H : Type) (enc : TypeId × Value → H) :
    ReturnsInHanded {} Try.checked os 4 .any (Rows.fnHodgsonSpec.pre6 enc Try.prog Try.f4 Rows.fnHodgsonRow.domain false) (Rows.fnHodgsonSpec.post enc Try.prog Try.f4 false true false false) := by
  refine returnsInHanded_of_change (C := Try.checked) own started (by kernel_rfl) Try.func4
    (ChangeSpec.witness6 (enc := enc) (C := Try.checked) false ⟨#[], #[.slice none 0 0], []⟩ 8 (by kernel_rfl) (by kernel_rfl) (by kernel_rfl) (by kernel_rfl)) ?_
  intro W base args ds gs before hval0 hW hcnd _
  have hval : ∀ (j : Nat) t v, Try.f4.params[j]? = some t → args[j]? = some v → Value.okWide Try.prog W .any base t v := hval0
  have hW' := hW
  obtain ⟨p, q, hA0, hV, rfl, hfz, hnd⟩ := hW
  have hA : DataW.TrodAll enc Try.prog W 0 (fun _ => true) true Try.f4.params.toList args.toList ds p := hA0
  rw [Try.params4] at hA hval
  obtain ⟨v0, vs0, d0, ds0, p0, q0, hargs, rfl, rfl, h0, r0⟩ := trodAll_cons hA
  obtain ⟨rfl, rfl, rfl⟩ := trodAll_nil r0
  obtain rfl : args = #[v0] := by cases args; simp_all
  obtain ⟨rfl, rfl⟩ := trodVars_none hV
  have k0 := h0
  have lt0 : ∀ x ∈ p0, x.block < W.heap.size := by obtain ⟨m, hm⟩ := k0; exact DataW.trod_lt m _ _ _ hm
  obtain ⟨a0, n0, cap0, z0, rfl, w0⟩ := open_bytes (hval 0 22 v0 rfl rfl) h0
  clear hA0 hval0
  refine (walk a0 n0 cap0 z0 W w0).mono fun e W' ⟨he, bel⟩ => ?_
  subst he
  exact ⟨_, rfl, _, _, _, [], _, [], hW', trodAll_mk1 (shut_bool Try.underlying4 _), (trodAll_cons_mk (Below.trod laidOut (by kernel_rfl) (of_decide_eq_true (by kernel_rfl)) k0 bel lt0) trodAll_mk0), rfl, bel.frame _, fun h => by cases h⟩

theorem over : Rows.fnHodgsonRow.holds Try.pinned (OpenSpec.ofChange Rows.fnHodgsonSpec) :=
  OpenClaim.holds_of_wide 4 Try.f4 rfl rfl rfl rfl rfl rfl rfl ⟨rfl, rfl, rfl, rfl, rfl⟩ rfl rfl rfl rfl rfl (by kernel_rfl) Try.func4 (by kernel_rfl)
    (of_decide_eq_true (by kernel_rfl)) (by unfold Func.isWrapper; first | (rw [if_pos (by decide +kernel)]; kernel_rfl) | (rw [if_neg (by decide +kernel)]; exact ⟨rfl, rfl⟩))
    (fun os started H enc _ => lifted os started H enc)

/-- the given statement -/
theorem proved : Rows.FnHodgsonSaid := over
#print axioms proved
end Go.Proofs.Ytnbeaeekfahijaa.fnHodgson
