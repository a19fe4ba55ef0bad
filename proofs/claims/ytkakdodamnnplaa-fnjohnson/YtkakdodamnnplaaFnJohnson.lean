/- For every input that can be read the law FnJohnson returns true, and what it was handed reads as before. The frame is the kit's; the opening of the arguments and the walk are ours. -/
import Derived.Test.YtkakdodamnnplaaRows
import Derived.WalkKit
import Derived.ProofKit
import Derived.OpenShut
import Derived.ChangeOld
import Derived.Below
import Derived.Test.YtkakdodamnnplaaPassLaw
import Derived.Test.YtkakdodamnnplaaPassDraw
import Derived.Test.YtkakdodamnnplaaPassI
import Derived.Test.YtkakdodamnnplaaPassQS
import Derived.Test.YtkakdodamnnplaaTurnS3
import Derived.Test.YtkakdodamnnplaaBytesOpen
namespace Go.Proofs.Ytkakdodamnnplaa.fnJohnson
open Go.ChangeShapes Go.WideShapes Go.ChangeAt Go.RowKit
open Go.Sort
set_option linter.unusedVariables false

theorem own : ownKnob Try.prog.godebug = none := by kernel_rfl
theorem laidOut : laidOutB Try.prog = true := by kernel_rfl

set_option maxRecDepth 8000 in
set_option maxHeartbeats 8000000 in
theorem walk (a0 : Option Addr) (n0 cap0 : Nat) (z0 : List Int) (w : World) (w0 : IsBytes w a0 n0 cap0 z0) :
    Calls Try.prog 3 #[.slice a0 n0 cap0] w fun e w' => e = .returned (.bool true) ∧ Below w.heap.size w w' := by
  have hmx := w0.mx
  have hle := w0.le
  by_cases hn : n0 ≤ 4096
  · go_enter Try.func3, Try.ntmps3
    go_wp2_with fail
    refine (big_any a0 n0 cap0 _ false (by simpa using hn)).mono ?_
    rintro e w' ⟨rfl, hq⟩; have hq' := hq.symm; clear hq; subst hq'
    go_wp2_with fail
    refine (drawJohnson_any a0 n0 cap0 z0 _ w0 hn).mono ?_
    rintro e w1 ⟨g, c, ys, rfl, O, hy, hA, U1⟩
    have J1 : PassS w1 (some ⟨g, 0, none⟩) ys.length c ys := O.toS hA.wf
    have wfy := hA.wf
    clear O hA
    go_wp2_with fail
    refine (implJohnson_any _ ys.length c ys _ J1).mono ?_
    rintro e w2 ⟨v, cz, zs, rfl, LZ, HZ, hb2⟩
    have U2 := U1.then hb2 U1.size
    have J2 := J1.below hb2
    have JZ2 : PassS w2 v zs.length cz zs := LZ.toS (HZ.wf wfy)
    clear LZ J1
    go_wp2_with fail
    refine (specJohnson_any _ ys.length c ys _ J2).mono ?_
    rintro e w3 ⟨v3, m3, cs, zs2, rfl, J3s, hQ, hb3⟩
    obtain rfl := HZ.uniq hQ
    obtain rfl : m3 = zs.length := J3s.len.symm
    have U3 := U2.then hb3 U2.size
    have J3 := J2.below hb3
    have JZ3 := JZ2.below hb3
    clear J2 JZ2 hQ
    go_wp2_with fail
    refine (likePasses_same v v3 zs.length cz cs zs _ JZ3 J3s).mono ?_
    rintro e w4 ⟨rfl, hb4⟩
    have U4 := U3.then hb4 U3.size
    have J4 := J3.below hb4
    have JZ4 := JZ3.below hb4
    clear J3 JZ3 J3s
    go_wp2_with fail
    refine (implThrough_any _ ys.length c ys _ J4).mono ?_
    rintro e w5 ⟨rfl, hb5⟩
    have U5 := U4.then hb5 U4.size
    have J5 := J4.below hb5
    go_wp2_with fail
    refine (specThrough_any _ ys.length c ys _ J5).mono ?_
    rintro e w6 ⟨rfl, hb6⟩
    have U6 := U5.then hb6 U5.size
    have J6 := J5.below hb6
    go_wp2_with fail
    refine (implIdle_any _ ys.length c ys _ J6).mono ?_
    rintro e w7 ⟨rfl, hb7⟩
    have U7 := U6.then hb7 U6.size
    have J7 := J6.below hb7
    go_wp2_with fail
    refine (specIdle_any _ ys.length c ys _ J7).mono ?_
    rintro e w8 ⟨rfl, hb8⟩
    have U8 := U7.then hb8 U7.size
    have J8 := J7.below hb8
    go_wp2_with fail
    refine (implPassesOk_any _ ys.length c ys _ J8).mono ?_
    rintro e w9 ⟨rfl, hb9⟩
    have U9 := U8.then hb9 U8.size
    have J9 := J8.below hb9
    go_wp2_with fail
    refine (specPassesOk_any _ ys.length c ys _ J9).mono ?_
    rintro e w10 ⟨rfl, hb10⟩
    have U10 := U9.then hb10 U9.size
    have J10 := J9.below hb10
    go_wp2_with fail
    refine (specPassesOk_any _ ys.length c ys _ J10).mono ?_
    rintro e w11 ⟨rfl, hb11⟩
    have U11 := U10.then hb11 U10.size
    have J11 := J10.below hb11
    have JZ11 := ((((((JZ4.below hb5).below hb6).below hb7).below hb8).below hb9).below hb10).below hb11
    clear J4 J5 J6 J7 J8 J9 J10 JZ4 hb2 hb3 hb4 hb5 hb6 hb7 hb8 hb9 hb10 hb11 U1 U2 U3 U4 U5 U6 U7 U8 U9 U10
    rcases hq : psB ys with _ | _
    · obtain rfl : zs = [] := by
        rcases HZ with ⟨_, rfl⟩ | ⟨h9, _⟩
        · rfl
        · rw [hq] at h9; cases h9
      go_wp2
      go_ret
      exact ⟨rfl, U11⟩
    · obtain ⟨hthr, hidl, hsb, hzl, ht0, ht1⟩ := HZ.thr hq
      have ho := psB_t hq
      have HBEST : Hid (∀ qs : List Pz, qs.Perm ys → thrV zs ≤ thrF qs) := fun qs hp => by rw [← hthr]; exact HZ.best hq hp
      obtain ⟨T, hT⟩ : ∃ T, T = thrV zs := ⟨_, rfl⟩
      rw [← hT] at hthr hidl hsb ht0 ht1 HBEST
      clear hT
      have hsb0 := (drop_bd ho 0).2.2
      rw [List.drop_zero] at hsb0
      obtain ⟨sb0, sb1⟩ := hsb0
      obtain ⟨N, hN⟩ : ∃ N, N = ys.length := ⟨_, rfl⟩
      have HN : Hid (N = ys.length) := hN
      have HZN : Hid (zs.length = N) := by unfold Hid; omega
      rw [← hN] at J11 hy ⊢
      clear hN
      rw [HZN.out] at JZ11 ⊢
      have h5' : ¬ ((5 : Int) < (N : Int)) := by omega
      have HTH : Hid (thrF zs = T) := hthr
      have HID : Hid (idlF zs = T - sumB ys) := hidl
      clear hthr hidl hzl HZ
      go_wp2_with fail
      refine (implThrough_any v N cz zs _ JZ11).mono ?_
      rw [HTH.out]
      rintro e w12 ⟨rfl, hb12⟩
      have U12 := U11.then hb12 U11.size
      have J12 := J11.below hb12
      have JZ12 := JZ11.below hb12
      clear J11 JZ11 U11
      go_wp2
      go_loopw [6, 7] (fun s i wr => ∃ k : Nat, k ≤ N ∧ i = .int .i64 k ∧ s = .int .i64 (sumB (ys.take k)) ∧ wr = w12) (fun _ i _ => N - (intOf i).toNat)
      case atStart => exact ⟨0, by omega, rfl, by simp [sumB], rfl⟩
      case round =>
        obtain ⟨k, hk, rfl, rfl, rfl⟩ := hrel
        rename World => w12
        by_cases hlt : k < N
        · have hky : k < ys.length := by have := HN.out; omega
          obtain ⟨b, off, he, hbw, hat⟩ := J12.at_ (by omega)
          obtain ⟨rfl, rfl⟩ : g = b ∧ 0 = off := by simpa using he
          obtain ⟨hc0, hc1, hc2⟩ := hat.row (i := k) hky
          rw [Nat.zero_add] at hc0 hc1 hc2
          obtain ⟨d0, d1, d2, d3⟩ := pz_bd ho hky
          obtain ⟨b0, b1, b2, b3, b4, b5⟩ := thr_bd ho (k := k) (by omega)
          have hlt' : (k : Int) < (N : Int) := by omega
          have SB := sumB_step hky
          go_wp2
          go_roundw
          case rel => exact ⟨k + 1, by omega, by go_num, by rw [SB], trivial⟩
          case measure => simp [intOf]; omega
        · obtain rfl : k = N := by omega
          rw [show ys.take k = ys from List.take_of_length_le (by have := HN.out; omega)]
          go_wp2_with fail
          refine (specTurns_any (k : Int) _).mono ?_
          rintro e x3 ⟨vt, Z, rfl, RZ, hZ, _, hx3⟩
          have U13 := U12.then hx3 U12.size
          have J13 := J12.below hx3
          have JZ13 := JZ12.below hx3
          obtain ⟨az, caz, rfl, hcz, hmz, hatz⟩ := RZ.toS.sh
          have HAZ : Hid _ := hatz
          have HOK : Hid (∀ i (hi : i < Z.length), IntS x3 Z[i].a Z[i].l.length Z[i].c Z[i].l) := RZ.toS.ok
          have HZL : Hid (∀ i (hi : i < Z.length), Z[i].l.Perm (upN k) ∧ Z[i].l.length ≤ 6) := fun i hi => by
            have hmem : Z[i].l ∈ turnsV (k : Int) := by rw [← hZ]; exact List.mem_map.2 ⟨Z[i], List.getElem_mem hi, rfl⟩
            refine ⟨?_, (turnsV_bd _).2 _ hmem⟩
            unfold turnsV at hmem
            rw [if_pos (by omega)] at hmem
            simpa using turnsL_perm _ _ (upN_len _) _ hmem
          have hz720 : Z.length ≤ 720 := by have := congrArg List.length hZ; have h2 := (turnsV_bd (k : Int)).1; rw [List.length_map] at this; omega
          unfold maxLen at hmz
          obtain ⟨NZ, hNZ⟩ : ∃ NZ, NZ = Z.length := ⟨_, rfl⟩
          have NZ1 : NZ ≤ Z.length := by omega
          have NZ2 : Z.length ≤ NZ := by omega
          rw [← hNZ]
          clear hatz RZ hZ hNZ J12 JZ12 U12 hx3
          obtain ⟨SB, hSB⟩ : ∃ SB, SB = sumB ys := ⟨_, rfl⟩
          rw [← hSB] at hsb sb0 sb1 HID ⊢
          clear hSB
          go_wp2
          go_loopw [9] (fun i wr => ∃ q : Nat, q ≤ NZ ∧ i = .int .i64 q ∧ Below x3.heap.size x3 wr) (fun i _ => NZ - (intOf i).toNat)
          case atStart => exact ⟨0, by omega, rfl, Below.refl _ _⟩
          case round =>
            obtain ⟨q, hq2, rfl, hwr⟩ := hrel
            rename World => wk
            have zk := hwr.size
            by_cases hlt : q < NZ
            · have hlt' : (q : Int) < (NZ : Int) := by omega
              have hqZ : q < Z.length := by omega
              obtain ⟨bz, rfl, hbz, hcz2⟩ := HAZ.out (by omega)
              have q00 := (hwr.cell (p := ⟨bz, q, none⟩) hbz).trans (hcz2 q hqZ)
              unfold Rw.val at q00
              have I00 := (HOK.out q hqZ).below hwr
              obtain ⟨ta, M, tc, tl, q0, I0, hp, h6⟩ : ∃ (ta : Option Addr) (M tc : Nat) (tl : List Int), wk.cell? ⟨bz, q, none⟩ = some (.slice ta M tc) ∧ IntS wk ta M tc tl ∧ tl.Perm (upN k) ∧ M ≤ 6 := ⟨_, _, _, _, q00, I00, (HZL.out q hqZ).1, (HZL.out q hqZ).2⟩
              clear q00 I00 hcz2
              have hbzk : bz < wk.heap.size := by omega
              have Jk := J13.below hwr
              have hco := I0.le
              have hcox := I0.mx
              have htn := I0.len
              unfold maxLen at hcox
              have HTL : Hid (tl.length = M) := htn
              have HMk : Hid (M = k) := by unfold Hid; rw [← htn, hp.length_eq, upN_len]
              clear htn
              have hbd : Hid (∀ z ∈ tl, 0 ≤ z ∧ z < (k : Nat)) := fun z hz => by
                have := hp.subset hz
                unfold upN at this
                obtain ⟨i, hi, rfl⟩ := List.mem_map.1 this
                have := List.mem_range.1 hi
                omega
              have HTP : Hid ((turnedP ys tl).Perm ys) := turnedP_perm (by rw [← HN.out]; exact hp)
              obtain ⟨i1, hj, hj0, hj1, hj2⟩ := info_parts infoPass
              have ownI : OwnPass (wk.alloc (.cells #[] 31)) wk.heap.size wk.heap.size 0 [] := ownPass_nil wk
              clear hp
              go_wp2
              go_loopw [10, 11] (fun u i wr => ∃ (m gx cx : Nat), m ≤ M ∧ i = .int .i64 m ∧ u = .slice (some ⟨gx, 0, none⟩) m cx ∧ Hid (OwnPass wr wk.heap.size gx cx (turnedP ys (tl.take m))) ∧ Below wk.heap.size wk wr) (fun _ i _ => M - (intOf i).toNat)
              case atStart => exact ⟨0, _, 0, by omega, rfl, rfl, ownI, box_below0⟩
              case round =>
                obtain ⟨m, gx, cx, hm, rfl, rfl, HO, hwi⟩ := hrel
                rename World => wr
                have zr := hwi.size
                have q0r := (hwi.cell (p := ⟨bz, q, none⟩) hbzk).trans q0
                by_cases hmt : m < M
                · have hmt' : (m : Int) < (M : Int) := by omega
                  obtain ⟨bo, oo, rfl, hbo, hat⟩ := (I0.below hwi).at_ (by omega)
                  have c0 := hat m hmt
                  have hkt : m < tl.length := by have := HTL.out; omega
                  have hz := hbd.out _ (List.getElem_mem hkt)
                  rw [← zg_get hkt] at hz
                  obtain ⟨p, hpz⟩ := Int.eq_ofNat_of_zero_le hz.1
                  rw [hpz] at c0
                  have hpk : p < k := by omega
                  have hpk' : (p : Int) < (k : Int) := by omega
                  obtain ⟨b, off, he, hbw, hjt⟩ := (Jk.below hwi).at_ (by omega)
                  obtain ⟨rfl, rfl⟩ : g = b ∧ 0 = off := by simpa using he
                  obtain ⟨e0, e1, e2⟩ := hjt.row (i := p) (by have := HN.out; omega)
                  rw [Nat.zero_add] at e0 e1 e2
                  have hl : (turnedP ys (tl.take m)).length = m := by rw [turnedP_len, List.length_take]; omega
                  have HX : Hid (pzcells (turnedP ys (tl.take m)) ++ pzl (pzg ys p) = pzcells (turnedP ys (tl.take (m + 1)))) := by
                    unfold Hid
                    have e : turnedP ys (tl.take (m + 1)) = turnedP ys (tl.take m) ++ [pzg ys p] := by
                      unfold turnedP
                      rw [List.take_succ_eq_append_getElem hkt, List.map_append, ← zg_get hkt, hpz]
                      rfl
                    rw [e, pzcells_app]
                    rfl
                  have HL1 : Hid ((turnedP ys (tl.take (m + 1))).length = m + 1) := by unfold Hid; rw [turnedP_len, List.length_take]; omega
                  have OA := (HO.out.below (box_below (cs := #[.int .i64 (pzg ys p).id, .int .i64 (pzg ys p).a, .int .i64 (pzg ys p).b]) (T := 31))).own
                  rw [hl] at OA
                  have HNw : Hid _ := newPass_plain wr (pzg ys p) 31
                  have bK := HO.out.base
                  clear hat hjt hz hl hpz he
                  go_wp2_with (at_builtin; refine wpList_append_own_at _ rfl (.tmp 94) (.tmp 105) 24 rfl wk.heap.size 31 i1 (.agg #[.int .i64 0, .int .i64 0, .int .i64 0]) 3 24 Try.underlying24 hj hj0 hj1 hj2 rfl (by decide) _ _ _ rfl OA ⟨wr.heap.size, 0, none⟩ 1 1 (pzl (pzg ys p)) rfl rfl HNw.out (pzl_one (pzg ys p)) (by unfold maxLen; omega) (by omega) (by simp; omega) ?_)
                  intro v5 w5 own5 grow5 nil5 at5
                  obtain ⟨g5, c5, rfl, O5⟩ := ownPass_of' (ys := turnedP ys (tl.take (m + 1))) own5 (by rw [HL1.out]) HX.out (fun e => by first | exact nil5 e | (have := (nil5.1 e).2; omega))
                  have B5 : Hid (Below wk.heap.size wk w5) := (hwi.alloc zr _).grown grow5 (by simp; omega) (fun r e => by have e' : gx = r := Option.some.inj e; omega)
                  have HO5 : Hid _ := O5
                  clear own5 grow5 nil5 at5 OA HNw HX O5 e0 e1 e2 c0
                  go_wp2
                  go_roundw
                  case rel => exact ⟨m + 1, g5, c5, by omega, by go_num, rfl, HO5.out, B5.out⟩
                  case measure => simp [intOf]; omega
                · obtain rfl : m = M := by omega
                  have HE : Hid (tl.take m = tl) := by unfold Hid; exact List.take_of_length_le (by have := HTL.out; omega)
                  rw [HE.out] at HO
                  have HQL : Hid ((turnedP ys tl).length = m) := by unfold Hid; rw [turnedP_len]; exact HTL.out
                  have JT0 := HO.out.toS (fun i hi => by
                    obtain ⟨j, hj', e⟩ := List.getElem_of_mem (HTP.out.subset (show pzg (turnedP ys tl) i ∈ _ by rw [pzg_get hi]; exact List.getElem_mem hi))
                    rw [← e, ← pzg_get hj']; exact wfy j hj')
                  rw [HQL.out] at JT0
                  have L1 := HBEST.out _ HTP.out
                  have B5 : Hid (Below x3.heap.size x3 wr) := hwr.then hwi zk
                  clear HO
                  go_wp2_with fail
                  refine (specThrough_any _ m cx _ _ JT0).mono ?_
                  rintro e x5 ⟨rfl, hx5⟩
                  generalize thrF (turnedP ys tl) = mine at L1 ⊢
                  have d1 : ¬ mine < T := by omega
                  have BK : Hid (Below x3.heap.size x3 x5) := B5.out.then hx5 B5.out.size
                  clear JT0 q0 I0 hx5 q0r hwr hwi
                  go_wp2
                  go_roundw
                  case rel => exact ⟨q + 1, by omega, by go_num, BK.out⟩
                  case measure => simp [intOf]; omega
            · obtain rfl : q = NZ := by omega
              have JZk := JZ13.below hwr
              have UK := U13.then hwr U13.size
              go_wp2_with (go_at_call 16; refine (implIdle_any v k cz zs _ JZk).mono ?_; rw [HID.out]; rintro e w20 ⟨rfl, hb20⟩)
              go_ret
              exact ⟨rfl, UK.then hb20 UK.size⟩
  · go_enter Try.func3, Try.ntmps3
    go_wp2_with (go_at_call 9; refine (big_any a0 n0 cap0 _ true (by simpa using hn)).mono ?_; rintro e w' ⟨rfl, hq⟩; have hq' := hq.symm; clear hq; subst hq')
    go_ret
    exact ⟨rfl, Below.refl _ _⟩

set_option maxRecDepth 100000 in
theorem lifted (os : Os) (started : os.Started) (H : Type) (enc : TypeId × Value → H) :
    ReturnsInHanded {} Try.checked os 3 .any (Rows.fnJohnsonSpec.pre6 enc Try.prog Try.f3 Rows.fnJohnsonRow.domain false) (Rows.fnJohnsonSpec.post enc Try.prog Try.f3 false true false false) := by
  refine returnsInHanded_of_change (C := Try.checked) own started (by kernel_rfl) Try.func3
    (ChangeSpec.witness6 (enc := enc) (C := Try.checked) false ⟨#[], #[.slice none 0 0], []⟩ 8 (by kernel_rfl) (by kernel_rfl) (by kernel_rfl) (by kernel_rfl)) ?_
  intro W base args ds gs before hval0 hW hcnd _
  have hval : ∀ (j : Nat) t v, Try.f3.params[j]? = some t → args[j]? = some v → Value.okWide Try.prog W .any base t v := hval0
  have hW' := hW
  obtain ⟨p, q, hA0, hV, rfl, hfz, hnd⟩ := hW
  have hA : DataW.TrodAll enc Try.prog W 0 (fun _ => true) true Try.f3.params.toList args.toList ds p := hA0
  rw [Try.params3] at hA hval
  obtain ⟨v0, vs0, d0, ds0, p0, q0, hargs, rfl, rfl, h0, r0⟩ := trodAll_cons hA
  obtain ⟨rfl, rfl, rfl⟩ := trodAll_nil r0
  obtain rfl : args = #[v0] := by cases args; simp_all
  obtain ⟨rfl, rfl⟩ := trodVars_none hV
  have k0 := h0
  have lt0 : ∀ x ∈ p0, x.block < W.heap.size := by obtain ⟨m, hm⟩ := k0; exact DataW.trod_lt m _ _ _ hm
  obtain ⟨a0, n0, cap0, z0, rfl, w0⟩ := open_bytes (hval 0 22 v0 rfl rfl) h0
  clear hA0 hval0
  refine (walk a0 n0 cap0 z0 W w0).mono fun e W' ⟨he, bel⟩ => ?_
  subst he
  exact ⟨_, rfl, _, _, _, [], _, [], hW', trodAll_mk1 (shut_bool Try.underlying4 _), (trodAll_cons_mk (Below.trod laidOut (by kernel_rfl) (of_decide_eq_true (by kernel_rfl)) k0 bel lt0) trodAll_mk0), rfl, bel.frame _, fun h => by cases h⟩

theorem over : Rows.fnJohnsonRow.holds Try.pinned (OpenSpec.ofChange Rows.fnJohnsonSpec) :=
  OpenClaim.holds_of_wide 3 Try.f3 rfl rfl rfl rfl rfl rfl rfl ⟨rfl, rfl, rfl, rfl, rfl⟩ rfl rfl rfl rfl rfl (by kernel_rfl) Try.func3 (by kernel_rfl)
    (of_decide_eq_true (by kernel_rfl)) (by unfold Func.isWrapper; first | (rw [if_pos (by decide +kernel)]; kernel_rfl) | (rw [if_neg (by decide +kernel)]; exact ⟨rfl, rfl⟩))
    (fun os started H enc _ => lifted os started H enc)

/-- the given statement -/
theorem proved : Rows.FnJohnsonSaid := over
#print axioms proved
end Go.Proofs.Ytkakdodamnnplaa.fnJohnson
