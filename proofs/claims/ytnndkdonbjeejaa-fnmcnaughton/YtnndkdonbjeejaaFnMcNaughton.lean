/- For every input that can be read the law FnMcNaughton returns true, and what it was handed reads as before. The frame is the kit's; the opening of the arguments and the walk are ours. -/
import Derived.Test.YtnndkdonbjeejaaRows
import Derived.WalkKit
import Derived.ProofKit
import Derived.OpenShut
import Derived.ChangeOld
import Derived.Below
import Derived.Test.YtnndkdonbjeejaaPkS
import Derived.Test.YtnndkdonbjeejaaDrs8
import Derived.Test.YtnndkdonbjeejaaPieceOkS
import Derived.Test.YtnndkdonbjeejaaPieceI
import Derived.Test.YtnndkdonbjeejaaPieceOkI
import Derived.Test.YtnndkdonbjeejaaPieceFin
import Derived.Test.YtnndkdonbjeejaaBytesOpen
namespace Go.Proofs.Ytnndkdonbjeejaa.fnMcNaughton
open Go.ChangeShapes Go.WideShapes Go.ChangeAt Go.RowKit
open Go.Sort
set_option linter.unusedVariables false

theorem own : ownKnob Try.prog.godebug = none := by kernel_rfl
theorem laidOut : laidOutB Try.prog = true := by kernel_rfl

set_option maxRecDepth 8000 in
set_option maxHeartbeats 8000000 in
theorem walk (a0 : Option Addr) (n0 cap0 : Nat) (z0 : List Int) (w : World) (w0 : IsBytes w a0 n0 cap0 z0) :
    Calls Try.prog 3 #[.slice a0 n0 cap0] w fun e w' => e = .returned (.bool true) ∧ Below w.heap.size w w' := by
  have hmx := w0.mx
  have hle := w0.le
  by_cases hn : n0 ≤ 4096
  · go_enter Try.func3, Try.ntmps3
    go_wp2_with fail
    refine (big_any a0 n0 cap0 _ false (by simpa using hn)).mono ?_
    rintro e w' ⟨rfl, hq⟩; have hq' := hq.symm; clear hq; subst hq'
    go_wp2_with fail
    refine (drawPieces_any a0 n0 cap0 z0 _ w0 hn).mono ?_
    rintro e w1 ⟨gl, cl, ls, x, rfl, hl40, x0, x1, J1, U1⟩
    go_wp2_with fail
    refine (implPieces_any _ ls.length cl ls x _ J1).mono ?_
    rintro e w2 ⟨v, c, ys, rfl, LP, hys, hb2⟩
    have U2 := U1.then hb2 U1.size
    have J2 := J1.below hb2
    have wfy : ∀ i, i < ys.length → pcwf (pcg ys i) := by rw [hys]; exact (pcsF_wf ls x).wf
    have P2 : PieceS w2 v ys.length c ys := LP.toS wfy
    have yl : ys.length ≤ 80 := by rw [hys]; exact pcsF_len ls x
    have HYS : Hid (ys = pcsF ls x) := hys
    clear LP J1 hys
    go_wp2_with fail
    refine (drawPiecesOk_any a0 n0 cap0 z0 _ (w0.below U2) hn).mono ?_
    rintro e w3 ⟨ga, ca, la, xa, va, na, cpa, pa, rfl, hla, hna, xa0, xa1, Ja, Pa, hb3⟩
    have U3 := U2.then hb3 U2.size
    have J3 := J2.below hb3
    have P3 := P2.below hb3
    go_wp2_with fail
    refine (drawFinish_any a0 n0 cap0 z0 _ (w0.below U3) hn).mono ?_
    rintro e w4 ⟨vf, nf, cf, pf, rfl, hnf, hUf, Pf, hb4⟩
    have U4 := U3.then hb4 U3.size
    have J4 := J3.below hb4
    have P4 := P3.below hb4
    have Ja4 := Ja.below hb4
    have Pa4 := Pa.below hb4
    clear J2 J3 P2 P3 Ja Pa
    go_wp2_with fail
    refine (drawParts_any a0 n0 cap0 z0 _ (w0.below U4) hn).mono ?_
    rintro e w5 ⟨vg, ng, cg, pg, id, rfl, hng, id0, id1, Pg, hb5⟩
    have U5 := U4.then hb5 U4.size
    have J5 := J4.below hb5
    have P5 := P4.below hb5
    have Ja5 := Ja4.below hb5
    have Pa5 := Pa4.below hb5
    have Pf5 := Pf.below hb5
    clear J4 P4 Ja4 Pa4 Pf
    go_wp2_with fail
    refine (specPieces_any _ ls.length cl ls x _ J5).mono ?_
    rintro e w6 ⟨gs, cs, ys2, rfl, OS, hys2, hb6⟩
    obtain rfl : ys2 = ys := hys2.trans HYS.out.symm
    clear hys2
    have PS := OS.toS wfy
    have U6 := U5.then hb6 U5.size
    have P6 := P5.below hb6
    go_wp2_with fail
    refine (likePieces_same v (some ⟨gs, 0, none⟩) ys2.length c cs ys2 _ P6 PS).mono ?_
    rintro e w7 ⟨rfl, hb7⟩
    have U7 := U6.then hb7 U6.size
    have D7 := hb6.then hb7 hb6.size
    clear OS PS P6
    go_wp2_with fail
    refine (implPiecesOk_any _ va la.length ca na cpa la xa pa _ (Ja5.below D7) (Pa5.below D7) (by omega)).mono ?_
    rintro e w8 ⟨rfl, hb8⟩
    have U8 := U7.then hb8 U7.size
    have D8 := D7.then hb8 D7.size
    go_wp2_with fail
    refine (specPiecesOk_any _ va la.length ca na cpa la xa pa _ (Ja5.below D8) (Pa5.below D8) (by omega)).mono ?_
    rintro e w9 ⟨rfl, hb9⟩
    have U9 := U8.then hb9 U8.size
    have D9 := D8.then hb9 D8.size
    go_wp2_with fail
    refine (implFinish_any vf nf cf pf _ (Pf5.below D9) hUf).mono ?_
    rintro e w10 ⟨rfl, hb10⟩
    have U10 := U9.then hb10 U9.size
    have D10 := D9.then hb10 D9.size
    go_wp2_with fail
    refine (specFinish_any vf nf cf pf _ (Pf5.below D10)).mono ?_
    rintro e w11 ⟨rfl, hb11⟩
    have U11 := U10.then hb11 U10.size
    have D11 := D10.then hb11 D10.size
    go_wp2_with fail
    refine (implParts_any vg ng cg pg id _ (Pg.below D11)).mono ?_
    rintro e w12 ⟨rfl, hb12⟩
    have U12 := U11.then hb12 U11.size
    have D12 := D11.then hb12 D11.size
    go_wp2_with fail
    refine (specParts_any vg ng cg pg id _ (Pg.below D12)).mono ?_
    rintro e w13 ⟨rfl, hb13⟩
    have U13 := U12.then hb13 U12.size
    have D13 := D12.then hb13 D12.size
    have J13 := J5.below D13
    have P13 := P5.below D13
    clear J5 P5 Ja5 Pa5 Pf5 Pg D7 D8 D9 D10 D11 D12 D13 hb2 hb3 hb4 hb5 hb6 hb7 hb8 hb9 hb10 hb11 hb12 hb13 U1 U2 U3 U4 U5 U6 U7 U8 U9 U10 U11 U12
    go_wp2_with fail
    refine (specJobsOk_any _ ls.length cl ls _ J13).mono ?_
    rintro e w14 ⟨rfl, hb14⟩
    have U14 := U13.then hb14 U13.size
    have J14 := J13.below hb14
    have P14 := P13.below hb14
    clear J13 P13 U13 hb14
    rcases hs : shB ls x with _ | _
    · have hnil : ys2 = [] := by rw [HYS.out]; exact pcsF_f hs
      subst hnil
      rcases hj : jsB ls with _ | _
      · go_wp2
        go_ret
        exact ⟨rfl, U14⟩
      · unfold shB at hs
        rw [hj, Bool.true_and] at hs
        by_cases hx1 : x < 1
        · go_wp2
          go_ret
          exact ⟨rfl, U14⟩
        · have hx2 : 10 < x := by
            by_cases h9 : 10 < x
            · exact h9
            · have : inB x 1 10 = true := by unfold inB; simp; omega
              rw [hs] at this; cases this
          go_wp2
          go_ret
          exact ⟨rfl, U14⟩
    · obtain ⟨hj0, m1, m2⟩ := shB_t hs
      have hj := jsB_mk hj0
      have HL := mc_law hs
      have HPB : Hid (∀ k, k ≤ ls.length → 0 ≤ partedV ys2 (jp (ls.take k)) ∧ partedV ys2 (jp (ls.take k)) ≤ k) := by rw [HYS.out]; exact parted_bd hs
      have HPT : Hid (∀ i, i < ls.length → 1 ≤ partsOf (jg ls i).id ys2 ∧ partsOf (jg ls i).id ys2 ≤ 2) := fun i hi => by rw [HYS.out]; exact mc_parts hs hi
      have HUY : Hid (∀ p ∈ ys2, 0 ≤ p.up) := fun p hp => by rw [HYS.out] at hp; exact (pcsF_small p hp).2.2.2.2.2.2.1
      have HOK : Hid (pkB ls x ys2 = true) := by rw [HYS.out]; exact pkB_mk (pcsF_ok hs)
      rw [← HYS.out] at HL
      obtain ⟨HF, HM⟩ := HL
      have HB : Hid ((if shB ls x = true then bndV ls x else -1) = finV ys2) := by unfold Hid; rw [hs, if_pos rfl]; exact HF.symm
      have nx1 : ¬ x < 1 := by omega
      have nx2 : ¬ 10 < x := by omega
      obtain ⟨N, hN⟩ : ∃ N, N = ls.length := ⟨_, rfl⟩
      have HN : Hid (N = ls.length) := hN
      rw [← hN] at J14 hl40 ⊢
      clear hN HYS HF
      go_wp2
      go_loopw [12, 13] (fun s i wr => ∃ k : Nat, k ≤ N ∧ i = .int .i64 k ∧ s = .int .i64 (partedV ys2 (jp (ls.take k))) ∧ Below w14.heap.size w14 wr) (fun _ i _ => N - (intOf i).toNat)
      case atStart => exact ⟨0, by omega, rfl, by simp [jp, partedV], Below.refl _ _⟩
      case round =>
        obtain ⟨k, hk, rfl, rfl, hw⟩ := hrel
        rename World => wr
        obtain ⟨p0, p1⟩ := HPB.out k (by have := HN.out; omega)
        by_cases hlt : k < N
        · have hkl : k < ls.length := by have := HN.out; omega
          obtain ⟨b, off, he, hbw, hat⟩ := (J14.below hw).at_ (by omega)
          obtain ⟨rfl, rfl⟩ : gl = b ∧ 0 = off := by simpa using he
          have hi0 := hat k hkl 0 (by omega)
          simp only [jc, Nat.add_zero, Nat.zero_add] at hi0
          have hlt' : (k : Int) < (N : Int) := by omega
          obtain ⟨q0, q1⟩ := HPT.out k hkl
          have ST := parted_step (all := ys2) hkl
          obtain ⟨PK, hPK⟩ : ∃ PK, PK = partsOf (jg ls k).id ys2 := ⟨_, rfl⟩
          rw [← hPK] at q0 q1 ST
          have HPK : Hid (PK = partsOf (jg ls k).id ys2) := hPK
          have HST : Hid _ := ST
          clear hPK hat he ST
          have d1 : ¬ PK < 1 := by omega
          have d2 : ¬ 2 < PK := by omega
          go_wp2_with (go_at_call 19; refine (implParts_any v ys2.length c ys2 _ _ (P14.below hw)).mono ?_; rw [← HPK.out]; rintro e w15 ⟨rfl, hb15⟩)
          go_roundw
          case rel => exact ⟨k + 1, by omega, by go_num, by rw [HST.out]; exact congrArg (Value.int .i64) (by omega), hw.then hb15 hw.size⟩
          case measure => simp [intOf]; omega
        · obtain rfl : k = N := by omega
          rw [show ls.take k = ls from List.take_of_length_le (by have := HN.out; omega)] at p0 p1 ⊢
          obtain ⟨PV, hPV⟩ : ∃ PV, PV = partedV ys2 (jp ls) := ⟨_, rfl⟩
          rw [← hPV] at p0 p1 HM ⊢
          clear hPV
          have U15 := U14.then hw U14.size
          have J15 := J14.below hw
          have P15 := P14.below hw
          clear J14 P14
          go_wp2_with (first
            | (go_at_call 15; refine (implPiecesOk_any _ v k cl ys2.length c ls x ys2 _ J15 P15 (by omega)).mono ?_; rw [HOK.out]; rintro e w16 ⟨rfl, hb16⟩)
            | (go_at_call 17; refine (implFinish_any v ys2.length c ys2 _ (P15.below hb16) HUY.out).mono ?_; rintro e w17 ⟨rfl, hb17⟩; have B17 := hb16.then hb17 hb16.size)
            | (go_at_call 22; refine (implBound_any _ k cl ls x _ (J15.below B17)).mono ?_; rw [HB.out]; rintro e w18 ⟨rfl, hb18⟩))
          go_ret
          exact ⟨rfl, U15.then (B17.then hb18 B17.size) U15.size⟩
  · go_enter Try.func3, Try.ntmps3
    go_wp2_with (go_at_call 7; refine (big_any a0 n0 cap0 _ true (by simpa using hn)).mono ?_; rintro e w' ⟨rfl, hq⟩; have hq' := hq.symm; clear hq; subst hq')
    go_ret
    exact ⟨rfl, Below.refl _ _⟩

set_option maxRecDepth 100000 in
theorem lifted (os : Os) (started : os.Started) (H : Type) (enc : TypeId × Value → H) :
    ReturnsInHanded {} Try.checked os 3 .any (Rows.fnMcNaughtonSpec.pre6 enc Try.prog Try.f3 Rows.fnMcNaughtonRow.domain false) (Rows.fnMcNaughtonSpec.post enc Try.prog Try.f3 false true false false) := by
  refine returnsInHanded_of_change (C := Try.checked) own started (by kernel_rfl) Try.func3
    (ChangeSpec.witness6 (enc := enc) (C := Try.checked) false ⟨#[], #[.slice none 0 0], []⟩ 8 (by kernel_rfl) (by kernel_rfl) (by kernel_rfl) (by kernel_rfl)) ?_
  intro W base args ds gs before hval0 hW hcnd _
  have hval : ∀ (j : Nat) t v, Try.f3.params[j]? = some t → args[j]? = some v → Value.okWide Try.prog W .any base t v := hval0
  have hW' := hW
  obtain ⟨p, q, hA0, hV, rfl, hfz, hnd⟩ := hW
  have hA : DataW.TrodAll enc Try.prog W 0 (fun _ => true) true Try.f3.params.toList args.toList ds p := hA0
  rw [Try.params3] at hA hval
  obtain ⟨v0, vs0, d0, ds0, p0, q0, hargs, rfl, rfl, h0, r0⟩ := trodAll_cons hA
  obtain ⟨rfl, rfl, rfl⟩ := trodAll_nil r0
  obtain rfl : args = #[v0] := by cases args; simp_all
  obtain ⟨rfl, rfl⟩ := trodVars_none hV
  have k0 := h0
  have lt0 : ∀ x ∈ p0, x.block < W.heap.size := by obtain ⟨m, hm⟩ := k0; exact DataW.trod_lt m _ _ _ hm
  obtain ⟨a0, n0, cap0, z0, rfl, w0⟩ := open_bytes (hval 0 22 v0 rfl rfl) h0
  clear hA0 hval0
  refine (walk a0 n0 cap0 z0 W w0).mono fun e W' ⟨he, bel⟩ => ?_
  subst he
  exact ⟨_, rfl, _, _, _, [], _, [], hW', trodAll_mk1 (shut_bool Try.underlying4 _), (trodAll_cons_mk (Below.trod laidOut (by kernel_rfl) (of_decide_eq_true (by kernel_rfl)) k0 bel lt0) trodAll_mk0), rfl, bel.frame _, fun h => by cases h⟩

theorem over : Rows.fnMcNaughtonRow.holds Try.pinned (OpenSpec.ofChange Rows.fnMcNaughtonSpec) :=
  OpenClaim.holds_of_wide 3 Try.f3 rfl rfl rfl rfl rfl rfl rfl ⟨rfl, rfl, rfl, rfl, rfl⟩ rfl rfl rfl rfl rfl (by kernel_rfl) Try.func3 (by kernel_rfl)
    (of_decide_eq_true (by kernel_rfl)) (by unfold Func.isWrapper; first | (rw [if_pos (by decide +kernel)]; kernel_rfl) | (rw [if_neg (by decide +kernel)]; exact ⟨rfl, rfl⟩))
    (fun os started H enc _ => lifted os started H enc)

/-- the given statement -/
theorem proved : Rows.FnMcNaughtonSaid := over
#print axioms proved
end Go.Proofs.Ytnndkdonbjeejaa.fnMcNaughton
