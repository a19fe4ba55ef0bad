/- For every input that can be read the law FnExactNewState returns true, and what it was handed reads as before. The frame is the kit's; the opening of the arguments and the walk are ours. -/
import Derived.Test.YthgdjecbaomffaaRows
import Derived.WalkKit
import Derived.ProofKit
import Derived.OpenShut
import Derived.ChangeOld
import Derived.Below
import Derived.Test.YthgdjecbaomffaaStI10
import Derived.Test.YthgdjecbaomffaaNodeOpen
import Derived.Test.YthgdjecbaomffaaStateMk0
namespace Go.Proofs.Ythgdjecbaomffaa.fnExactNewState
open Go.ChangeShapes Go.WideShapes Go.ChangeAt Go.RowKit
set_option linter.unusedVariables false

theorem own : ownKnob Try.prog.godebug = none := by kernel_rfl
theorem laidOut : laidOutB Try.prog = true := by kernel_rfl

set_option maxRecDepth 8000 in
set_option maxHeartbeats 4000000 in
theorem walk (a0 : Option Addr) (n0 cap0 : Nat) (l0 : List Nd) (w : World) (L0 : NodeS w a0 n0 cap0 l0) :
    Calls Try.prog 4 #[.slice a0 n0 cap0] w fun e w' => e = .returned (.bool true) ∧ Below w.heap.size w w' := by
  have hmx := L0.mx
  have hle := L0.le
  by_cases hn : n0 ≤ 1048576
  · have CS := fun B W h => specNewState_any (some ⟨B, 0, none⟩) n0 n0 l0 W h
    have CI := fun B W h => implNewState_any (some ⟨B, 0, none⟩) n0 n0 l0 W h
    have HWF : Hid (∀ i, i < (nsS l0).nodes.length → ndwf (ndg (nsS l0).nodes i)) := nsS_wf (by rw [L0.len]; exact L0.wf)
    have hy8 := nsS_len l0
    generalize (nsS l0).nodes = ys at CS CI HWF hy8
    generalize (nsS l0).next = y at CS CI
    generalize nsB l0 = ok at CS CI
    have CE : ∀ (v v' : Option Addr) (c c' : Nat) (ea ea' : Option Addr) (ec ec' : Nat) (W : World), NodeS W v ys.length c ys → EntS W ea 0 ec [] → NodeS W v' ys.length c' ys → EntS W ea' 0 ec' [] → Calls Try.prog 11 #[.agg #[.int .i64 0, .slice v ys.length c, .slice ea 0 ec, .int .i64 y, .int .i64 0], .agg #[.int .i64 0, .slice v' ys.length c', .slice ea' 0 ec', .int .i64 y, .int .i64 0]] W fun e w' => e = .returned (.bool true) ∧ Below W.heap.size W w' := fun v v' c c' ea ea' ec ec' W h1 h2 h3 h4 => eqState_same ⟨0, ys, [], y, 0⟩ v c ea ec v' c' ea' ec' W ⟨h1, h2⟩ ⟨h3, h4⟩
    generalize hN : ys.length = N at CS CI CE hy8
    have HNN : Hid (ys.length = N) := hN
    clear hN
    go_enter Try.func4, Try.ntmps4
    go_wp2_with fail
    refine (szNodeS_any a0 n0 cap0 _ _ (by omega) (by omega) (by omega)).mono ?_
    rw [if_neg (by omega)]
    rintro e w1 ⟨rfl, hq1⟩
    have hq1' := hq1.symm
    clear hq1
    subst hq1'
    go_wp2_with fail
    refine (toNodeS_any a0 n0 cap0 l0 _ L0 hn).mono ?_
    rintro e w2 ⟨B1, rfl, hB1, hl1, U2⟩
    go_wp2_with fail
    refine (CS B1 _ (hl1.toS L0.len hn L0.wf)).mono ?_
    rintro e w3 ⟨v3, c3, rfl, LN3, hb3⟩
    have U3 := U2.then hb3 U2.size
    obtain ⟨w4, hw4⟩ : ∃ w4, w4 = w3.alloc (.cells #[.int .i64 0, .slice v3 N c3, .slice none 0 0, .int .i64 y, .int .i64 0] 31) := ⟨_, rfl⟩
    have U4 : Below w.heap.size w w4 := by rw [hw4]; exact U3.alloc U3.size _
    have x4 : w4.heap[w3.heap.size]? = some (.cells #[.int .i64 0, .slice v3 N c3, .slice none 0 0, .int .i64 y, .int .i64 0] 31 (0, 0)) := by rw [hw4]; exact heap_alloc_new _ _
    have l4 := lt_of_block x4
    have HX4 : Hid (∀ W, Below w4.heap.size w4 W → Box5 W w3.heap.size (.int .i64 0) (.slice v3 N c3) (.slice none 0 0) (.int .i64 y) (.int .i64 0)) := fun W hW => box5 ((hW.block _ l4).trans x4)
    have HN4 : Hid (∀ W, Below w4.heap.size w4 W → NodeS W v3 N c3 ys) := fun W hW => by
      have := (LN3.below (w' := w4) (by rw [hw4]; exact box_below0)).below hW
      exact this.toS HWF.out
    go_upto_region 6 with fail
    rw [← hw4]
    clear hw4 x4 LN3 hb3
    generalize w3.heap.size = P3 at HX4 l4 ⊢
    go_wp2_with fail
    refine (toNodeS_any a0 n0 cap0 l0 _ (L0.below U4) hn).mono ?_
    rintro e w5 ⟨B2, rfl, hB2, hl2, hb5⟩
    have U5 := U4.then hb5 U4.size
    have hB25 : B2 < w5.heap.size := hl2.lt
    go_wp2_with fail
    refine (CI B2 _ (hl2.toS L0.len hn L0.wf)).mono ?_
    rintro e w6 ⟨v6, c6, ea6, ec6, rfl, LN6, EN6, hb6⟩
    have A6 := hb5.then hb6 hb5.size
    obtain ⟨w7, hw7⟩ : ∃ w7, w7 = w6.alloc (.cells #[.int .i64 0, .slice v6 N c6, .slice ea6 0 ec6, .int .i64 y, .int .i64 0] 31) := ⟨_, rfl⟩
    have h67 : Below w6.heap.size w6 w7 := by rw [hw7]; exact box_below0
    have x7 : w7.heap[w6.heap.size]? = some (.cells #[.int .i64 0, .slice v6 N c6, .slice ea6 0 ec6, .int .i64 y, .int .i64 0] 31 (0, 0)) := by rw [hw7]; exact heap_alloc_new _ _
    have l7 := lt_of_block x7
    have A7 := A6.then h67 A6.size
    have HL7 : Hid (LNode w7 w5.heap.size v6 N c6 ys) := LN6.below h67
    have HG7 : Hid (∀ g, v6 = some ⟨g, 0, none⟩ → g < w6.heap.size) := LN6.lt
    have EN7 := EN6.below h67
    have z57 : w5.heap.size ≤ w6.heap.size := hb6.size
    go_upto_region 8 with fail
    rw [← hw7]
    clear hw7 LN6 EN6
    have H47 : Hid (Below w4.heap.size w4 w7) := A7
    have H57 : Hid (Below w5.heap.size w5 w7) := hb6.then h67 hb6.size
    have HB2 : Hid (NodeB w5 B2 n0 n0 l0) := hl2
    have E7 := CE v6 v3 c6 c3 ea6 none ec6 0 w7 (HL7.out.toS HWF.out) EN7 (HN4.out w7 A7) (EntS.nil_ w7)
    have HE : Hid (∀ W, EntS W ea6 0 ec6 []) := fun W => ⟨rfl, EN7.le, EN7.mx, EN7.nil, fun i hi => absurd hi (Nat.not_lt_zero _), fun h => absurd h (Nat.not_lt_zero _)⟩
    have z45 : w4.heap.size ≤ w5.heap.size := hb5.size
    have HX7 : Hid (w7.heap[w6.heap.size]? = some (.cells #[.int .i64 0, .slice v6 N c6, .slice ea6 0 ec6, .int .i64 y, .int .i64 0] 31 (0, 0))) := x7
    generalize w6.heap.size = P7 at x7 l7 HX7 HG7 z57 ⊢
    obtain ⟨p0, p1, p2, p3, p4, _, _, _, _, _⟩ := HX4.out w7 A7
    obtain ⟨q0, q1, q2, q3, q4, _, _, _, _, _⟩ := box5 x7
    clear x7 hl2 EN7 A6 hb5 hb6 h67 A7
    have U4h : Hid (Below w.heap.size w w4) := U4
    have zU := U4.size
    go_upto_region 10 with (go_at_call 11; refine E7.mono ?_; rintro e w8 ⟨rfl, hb8⟩)
    have H48 : Hid (Below w4.heap.size w4 w8) := H47.out.then hb8 H47.out.size
    have H78 : Hid (Below w7.heap.size w7 w8) := hb8
    have H58 : Hid (Below w5.heap.size w5 w8) := H57.out.then hb8 H57.out.size
    clear p0 p1 p2 p3 p4 q0 q1 q2 q3 q4 E7 hb8
    go_upto_region 12 with (first
      | (go_at_call 14; refine (toNodeS_any a0 n0 cap0 l0 _ (L0.below (U4h.out.then H48.out zU)) hn).mono ?_; rintro e w9 ⟨B3, rfl, _, hl3, hb9⟩; have hs3 := hl3.toS L0.len hn L0.wf; have H59 : Hid (Below w5.heap.size w5 w9) := H58.out.then hb9 H58.out.size; have H89 : Hid (Below w8.heap.size w8 w9) := hb9; clear hl3 hb9)
      | (go_at_call 16; refine (eqNodeS_same _ _ _ _ _ l0 _ ((HB2.out.below H59.out).toS L0.len hn L0.wf) hs3).mono ?_; rintro e w10 ⟨rfl, hb10⟩))
    have H810 : Hid (Below w8.heap.size w8 w10) := H89.out.then hb10 H89.out.size
    have H710 : Hid (Below w7.heap.size w7 w10) := H78.out.then H810.out H78.out.size
    have H410 : Hid (Below w4.heap.size w4 w10) := H47.out.then H710.out H47.out.size
    have H510 : Hid (Below w5.heap.size w5 w10) := H57.out.then H710.out H57.out.size
    clear hb10 hs3
    have CM := markNodeS_any B2 n0 1 l0 w10 (HB2.out.below H510.out) hn (by omega) (by omega)
    have hk1 : ¬ ((1 : Int) + 2 * (n0 : Int) < 0) := by omega
    go_upto_region 14 with (go_at_call 17; refine CM.mono ?_; rintro e w11 ⟨rfl, _, o11⟩)
    clear CM
    have H411 : Hid (Below w4.heap.size w4 w11) := H410.out.trans (o11.below hB2)
    have HL11 : Hid (LNode w11 w5.heap.size v6 N c6 ys) := (HL7.out.below H710.out).keepB (fun g hg _ => o11.block g (by omega)) (Nat.le_of_eq o11.size.symm)
    have x11 : w11.heap[P7]? = some (.cells #[.int .i64 0, .slice v6 N c6, .slice ea6 0 ec6, .int .i64 y, .int .i64 0] 31 (0, 0)) := (o11.block P7 (by omega)).trans ((H710.out.block _ l7).trans HX7.out)
    have l11 := lt_of_block x11
    have HX11 : Hid (w11.heap[P7]? = some (.cells #[.int .i64 0, .slice v6 N c6, .slice ea6 0 ec6, .int .i64 y, .int .i64 0] 31 (0, 0))) := x11
    have z511 : w5.heap.size ≤ w11.heap.size := by have := H510.out.size; have := o11.size; omega
    obtain ⟨p0, p1, p2, p3, p4, _, _, _, _, _⟩ := HX4.out w11 H411.out
    obtain ⟨q0, q1, q2, q3, q4, _, _, _, _, _⟩ := box5 x11
    clear o11 x11
    have E11 := CE v6 v3 c6 c3 ea6 none ec6 0 w11 (HL11.out.toS HWF.out) (HE.out _) (HN4.out w11 H411.out) (EntS.nil_ w11)
    go_upto_region 16 with (go_at_call 11; refine E11.mono ?_; rintro e w12 ⟨rfl, hb12⟩)
    clear p0 p1 p2 p3 p4 q0 q1 q2 q3 q4 E11
    have H412 : Hid (Below w4.heap.size w4 w12) := H411.out.then hb12 H411.out.size
    have HL12 : Hid (LNode w12 w5.heap.size v6 N c6 ys) := HL11.out.below hb12
    have x12 : w12.heap[P7]? = some (.cells #[.int .i64 0, .slice v6 N c6, .slice ea6 0 ec6, .int .i64 y, .int .i64 0] 31 (0, 0)) := (hb12.block _ l11).trans HX11.out
    have z1112 := hb12.size
    have l12 := lt_of_block x12
    have HX12 : Hid (w12.heap[P7]? = some (.cells #[.int .i64 0, .slice v6 N c6, .slice ea6 0 ec6, .int .i64 y, .int .i64 0] 31 (0, 0))) := x12
    obtain ⟨q0, q1, q2, q3, q4, _, _, _, _, _⟩ := box5 x12
    clear hb12 x12
    have CM2 := markState0_any w5.heap.size 0 y 0 v6 N c6 ea6 ec6 ys 1 w12 HL12.out (by omega) (by omega) (by omega) (by omega)
    go_upto_region 18 with (go_at_call 18; refine CM2.mono ?_; rintro e w13 ⟨rfl, hh13, hb13, hk13⟩)
    clear q0 q1 q2 q3 q4 CM2
    have H413 : Hid (Below w4.heap.size w4 w13) := H412.out.trans (hb13.mono z45)
    have x13 : w13.heap[P7]? = some (.cells #[.int .i64 0, .slice v6 N c6, .slice ea6 0 ec6, .int .i64 y, .int .i64 0] 31 (0, 0)) := (hk13 _ l12 (fun g hg => by have := HG7.out g hg; omega)).trans HX12.out
    have HH13 : Hid (NHeld w13 v6 N c6 1) := hh13
    have l13 := lt_of_block x13
    have HX13 : Hid (∀ W, Below w13.heap.size w13 W → Box5 W P7 (.int .i64 0) (.slice v6 N c6) (.slice ea6 0 ec6) (.int .i64 y) (.int .i64 0)) := fun W hW => box5 ((hW.block _ l13).trans x13)
    clear hh13 hb13 hk13 x13
    have hkN : ¬ ((1 : Int) + 2 * (N : Int) < 0) := by omega
    obtain ⟨q0, q1, q2, q3, q4, _, _, _, _, _⟩ := HX13.out w13 (Below.refl _ _)
    go_upto_region 24 with (go_at_call 19; refine (heldState0_any 0 y 0 v6 N c6 ea6 ec6 1 _ HH13.out (by omega) (by omega) (by omega)).mono ?_; rintro e w14 ⟨rfl, hb14⟩)
    have H1314 : Hid (Below w13.heap.size w13 w14) := hb14
    have H414 : Hid (Below w4.heap.size w4 w14) := H413.out.then hb14 H413.out.size
    clear q0 q1 q2 q3 q4 hb14
    go_wp2_with fail
    refine (toNodeS_any a0 n0 cap0 l0 _ (L0.below (U4h.out.then H414.out zU)) hn).mono ?_
    rintro e w15 ⟨B4, rfl, _, hl4, hb15⟩
    go_wp2_with fail
    refine (CI B4 _ (hl4.toS L0.len hn L0.wf)).mono ?_
    rintro e w16 ⟨v16, c16, ea16, ec16, rfl, LN16, EN16, hb16⟩
    have H1416 : Hid (Below w14.heap.size w14 w16) := hb15.then hb16 hb15.size
    have H1316 : Hid (Below w13.heap.size w13 w16) := H1314.out.then H1416.out H1314.out.size
    have H416 : Hid (Below w4.heap.size w4 w16) := H413.out.then H1316.out H413.out.size
    obtain ⟨w17, hw17⟩ : ∃ w17, w17 = w16.alloc (.cells #[.int .i64 0, .slice v16 N c16, .slice ea16 0 ec16, .int .i64 y, .int .i64 0] 31) := ⟨_, rfl⟩
    have h1617 : Below w16.heap.size w16 w17 := by rw [hw17]; exact box_below0
    have x17 : w17.heap[w16.heap.size]? = some (.cells #[.int .i64 0, .slice v16 N c16, .slice ea16 0 ec16, .int .i64 y, .int .i64 0] 31 (0, 0)) := by rw [hw17]; exact heap_alloc_new _ _
    have l17 := lt_of_block x17
    have H1317 : Hid (Below w13.heap.size w13 w17) := H1316.out.then h1617 H1316.out.size
    have H417 : Hid (Below w4.heap.size w4 w17) := H413.out.then H1317.out H413.out.size
    have E17 := CE v16 v3 c16 c3 ea16 none ec16 0 w17 ((LN16.below h1617).toS HWF.out) (EN16.below h1617) (HN4.out w17 H417.out) (EntS.nil_ w17)
    clear hl4 hb15 hb16 LN16 EN16 h1617
    go_upto_region 25 with fail
    rw [← hw17]
    clear hw17
    generalize w16.heap.size = P17 at x17 l17 ⊢
    obtain ⟨p0, p1, p2, p3, p4, _, _, _, _, _⟩ := HX4.out w17 H417.out
    obtain ⟨q0, q1, q2, q3, q4, _, _, _, _, _⟩ := box5 x17
    clear x17
    go_upto_region 27 with (go_at_call 11; refine E17.mono ?_; rintro e w18 ⟨rfl, hb18⟩)
    clear p0 p1 p2 p3 p4 q0 q1 q2 q3 q4 E17
    have H1318 : Hid (Below w13.heap.size w13 w18) := H1317.out.then hb18 H1317.out.size
    clear hb18
    obtain ⟨q0, q1, q2, q3, q4, _, _, _, _, _⟩ := HX13.out w18 H1318.out
    go_wp2_with (go_at_call 19; refine (heldState0_any 0 y 0 v6 N c6 ea6 ec6 1 _ (HH13.out.below H1318.out) (by omega) (by omega) (by omega)).mono ?_; rintro e w19 ⟨rfl, hb19⟩)
    have H1319 : Below w13.heap.size w13 w19 := H1318.out.then hb19 H1318.out.size
    go_ret
    exact ⟨rfl, U4h.out.then (H413.out.then H1319 H413.out.size) zU⟩
  · go_enter Try.func4, Try.ntmps4
    go_wp2_with fail
    refine (szNodeS_any a0 n0 cap0 _ _ (by omega) (by omega) (by omega)).mono ?_
    rw [if_pos (by omega)]
    rintro e w1 ⟨rfl, rfl⟩
    go_wp2
    go_ret
    exact ⟨rfl, Below.refl _ _⟩

set_option maxRecDepth 100000 in
theorem lifted (os : Os) (started : os.Started) (H : Type) (enc : TypeId × Value → H) :
    ReturnsInHanded {} Try.checked os 4 .any (Rows.fnExactNewStateSpec.pre6 enc Try.prog Try.f4 Rows.fnExactNewStateRow.domain false) (Rows.fnExactNewStateSpec.post enc Try.prog Try.f4 false true false false) := by
  refine returnsInHanded_of_change (C := Try.checked) own started (by kernel_rfl) Try.func4
    (ChangeSpec.witness6 (enc := enc) (C := Try.checked) false ⟨#[], #[.slice none 0 0], []⟩ 8 (by kernel_rfl) (by kernel_rfl) (by kernel_rfl) (by kernel_rfl)) ?_
  intro W base args ds gs before hval0 hW hcnd _
  have hval : ∀ (j : Nat) t v, Try.f4.params[j]? = some t → args[j]? = some v → Value.okWide Try.prog W .any base t v := hval0
  have hW' := hW
  obtain ⟨p, q, hA0, hV, rfl, hfz, hnd⟩ := hW
  have hA : DataW.TrodAll enc Try.prog W 0 (fun _ => true) true Try.f4.params.toList args.toList ds p := hA0
  rw [Try.params4] at hA hval
  obtain ⟨v0, vs0, d0, ds0, p0, q0, hargs, rfl, rfl, h0, r0⟩ := trodAll_cons hA
  obtain ⟨rfl, rfl, rfl⟩ := trodAll_nil r0
  obtain rfl : args = #[v0] := by cases args; simp_all
  obtain ⟨rfl, rfl⟩ := trodVars_none hV
  have k0 := h0
  have lt0 : ∀ x ∈ p0, x.block < W.heap.size := by obtain ⟨m, hm⟩ := k0; exact DataW.trod_lt m _ _ _ hm
  obtain ⟨a0, n0, cap0, l0, rfl, L0⟩ := open_nds (hval 0 22 v0 rfl rfl) h0
  clear hA0 hval0
  refine (walk a0 n0 cap0 l0 W L0).mono fun e W' ⟨he, bel⟩ => ?_
  subst he
  exact ⟨_, rfl, _, _, _, [], _, [], hW', trodAll_mk1 (shut_bool Try.underlying4 _), (trodAll_cons_mk (Below.trod laidOut (by kernel_rfl) (of_decide_eq_true (by kernel_rfl)) k0 bel lt0) trodAll_mk0), rfl, bel.frame _, fun h => by cases h⟩

theorem over : Rows.fnExactNewStateRow.holds Try.pinned (OpenSpec.ofChange Rows.fnExactNewStateSpec) :=
  OpenClaim.holds_of_wide 4 Try.f4 rfl rfl rfl rfl rfl rfl rfl ⟨rfl, rfl, rfl, rfl, rfl⟩ rfl rfl rfl rfl rfl (by kernel_rfl) Try.func4 (by kernel_rfl)
    (of_decide_eq_true (by kernel_rfl)) (by unfold Func.isWrapper; first | (rw [if_pos (by decide +kernel)]; kernel_rfl) | (rw [if_neg (by decide +kernel)]; exact ⟨rfl, rfl⟩))
    (fun os started H enc _ => lifted os started H enc)

/-- the given statement -/
theorem proved : Rows.FnExactNewStateSaid := over
#print axioms proved
end Go.Proofs.Ythgdjecbaomffaa.fnExactNewState
