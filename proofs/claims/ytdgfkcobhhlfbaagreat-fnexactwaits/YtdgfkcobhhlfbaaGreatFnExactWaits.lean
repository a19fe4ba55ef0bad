/- For every input that can be read the law FnExactWaits returns true, and what it was handed reads as before. The frame is the kit's; the opening of the arguments and the walk are ours. -/
import Derived.Test.YtdgfkcobhhlfbaaGreatRows
import Derived.WalkKit
import Derived.ProofKit
import Derived.OpenShut
import Derived.ChangeOld
import Derived.Below
import Derived.Test.YtdgfkcobhhlfbaaGreatStateOpen
import Derived.Test.YtdgfkcobhhlfbaaGreatStI12
import Derived.Test.YtdgfkcobhhlfbaaGreatStateS6
import Derived.Test.YtdgfkcobhhlfbaaGreatIntMk
import Derived.Test.YtdgfkcobhhlfbaaGreatJobMk
import Derived.Deep.RegionHeld3
import Derived.Deep.RegionHeldLaw
namespace Go.Proofs.YtdgfkcobhhlfbaaGreat.fnExactWaits
open Go.ChangeShapes Go.WideShapes Go.ChangeAt Go.RowKit
set_option linter.unusedVariables false

theorem own : ownKnob Tryz.prog.godebug = none := by kernel_rfl
theorem laidOut : laidOutB Tryz.prog = true := by kernel_rfl

set_option maxRecDepth 8000 in
set_option maxHeartbeats 4000000 in
theorem walk (s0 : St) (na0 : Option Addr) (nc0 : Nat) (ea0 : Option Addr) (ec0 : Nat) (w : World) (L0 : StS w s0 na0 nc0 ea0 ec0) :
    Calls Tryz.prog 3 #[stV s0 na0 nc0 ea0 ec0] w fun e w' => e = .returned (.bool true) ∧ Below w.heap.size w w' := by
  have HL : Hid (∀ W, Below w.heap.size w W → StS W s0 na0 nc0 ea0 ec0) := fun W hW => L0.below hW
  have CZ := fun W hW => szState_any s0 na0 nc0 ea0 ec0 W hW
  have CT := fun W hW => toState_any s0 na0 nc0 ea0 ec0 W hW
  have CE := fun Bn Be Bn' Be' W => eqState_same s0 (some ⟨Bn, 0, none⟩) s0.nodes.length (some ⟨Be, 0, none⟩) s0.ents.length (some ⟨Bn', 0, none⟩) s0.nodes.length (some ⟨Be', 0, none⟩) s0.ents.length W
  have CS := fun Bn Be W hW => specWaits_any s0 (some ⟨Bn, 0, none⟩) s0.nodes.length (some ⟨Be, 0, none⟩) s0.ents.length W hW
  have CI := fun Bn Be W hW hs ys hy => implWaits_any s0 (some ⟨Bn, 0, none⟩) s0.nodes.length (some ⟨Be, 0, none⟩) s0.ents.length W hW hs ys hy
  unfold stV at CZ CT CE CS CI ⊢
  have HTS : Hid (∀ W base hi Bn Be H, StO W base hi s0 Bn s0.nodes.length Be s0.ents.length H → stSmall s0 → StS W s0 (some ⟨Bn, 0, none⟩) s0.nodes.length (some ⟨Be, 0, none⟩) s0.ents.length) := fun W base hi Bn Be H h hs => h.toS hs L0
  obtain ⟨W0, hW0⟩ : ∃ W0, W0 = w.alloc (.cells #[.int .i64 s0.now, .slice na0 s0.nodes.length nc0, .slice ea0 s0.ents.length ec0, .int .i64 s0.next, .int .i64 s0.eps] 25) := ⟨_, rfl⟩
  have B0 : Below w.heap.size w W0 := by rw [hW0]; exact box_below0
  have x0 : W0.heap[w.heap.size]? = some (.cells #[.int .i64 s0.now, .slice na0 s0.nodes.length nc0, .slice ea0 s0.ents.length ec0, .int .i64 s0.next, .int .i64 s0.eps] 25 (0, 0)) := by rw [hW0]; exact heap_alloc_new _ _
  have l0 := lt_of_block x0
  have HX : Hid (∀ W, Below W0.heap.size W0 W → Box5 W w.heap.size (.int .i64 s0.now) (.slice na0 s0.nodes.length nc0) (.slice ea0 s0.ents.length ec0) (.int .i64 s0.next) (.int .i64 s0.eps)) := fun W hW => box5 ((hW.block _ l0).trans x0)
  obtain ⟨c0, c1, c2, c3, c4, _, _, _, _, _⟩ := box5 x0
  clear L0
  go_enter Tryz.func3, Tryz.ntmps3
  go_upto_region 1 with fail
  rw [← hW0]
  clear hW0 x0
  go_upto_region 3 with (go_at_call 4; refine (CZ _ (HL.out _ B0)).mono ?_; rintro e w1 ⟨r, rfl, hr, hb1⟩)
  clear c0 c1 c2 c3 c4 CZ
  have H1 : Hid (Below W0.heap.size W0 w1) := hb1
  clear hb1
  obtain ⟨c0, c1, c2, c3, c4, _, _, _, _, _⟩ := HX.out _ H1.out
  rcases hr with hneg | ⟨hpos, hs⟩
  · go_wp2
    go_ret
    exact ⟨rfl, B0.then H1.out B0.size⟩
  · have hnn : ¬ r < 0 := by omega
    have HSM : Hid (stSmall s0) := hs
    clear hpos hs
    go_upto_region 5 with fail
    go_upto_region 6 with (first
      | (go_at_call 6; refine (CT _ (HL.out _ (B0.then H1.out B0.size)) HSM.out).mono ?_; rintro e w2 ⟨Bn, Be, H, rfl, O2, hb2⟩; have HS2 := HTS.out _ _ _ _ _ _ O2 HSM.out; have H2 : Hid (Below W0.heap.size W0 w2) := H1.out.then hb2 H1.out.size; clear O2 hb2)
      | (go_at_call 5; refine (CS Bn Be _ HS2 HSM.out).mono ?_; rintro e w3 ⟨v3, m3, c3', u, rfl, J3, Q3, hb3⟩; have hm3 : m3 = u.length := J3.len.symm; subst hm3; have HL3 : Hid (JobS w3 v3 u.length c3' u) := J3; have HQ3 : Hid (IsW s0 u) := Q3; clear J3 Q3; have H3 : Hid (Below W0.heap.size W0 w3) := H2.out.then hb3 H2.out.size; clear hb3))
    clear c0 c1 c2 c3 c4 HS2 CS
    obtain ⟨c0, c1, c2, c3, c4, _, _, _, _, _⟩ := HX.out _ H3.out
    go_wp2_with (go_at_call 6; refine (CT _ (HL.out _ (B0.then H3.out B0.size)) HSM.out).mono ?_; rintro e w4 ⟨Bn2, Be2, H', rfl, O4, hb4⟩; have HS4 := HTS.out _ _ _ _ _ _ O4 HSM.out; have HO4 : Hid (StO w4 w3.heap.size w4.heap.size s0 Bn2 s0.nodes.length Be2 s0.ents.length H') := O4; have H34 : Hid (Below w3.heap.size w3 w4) := hb4; have H4 : Hid (Below W0.heap.size W0 w4) := H3.out.then hb4 H3.out.size; clear O4 hb4)
    refine (CI Bn2 Be2 _ (HS4.below box_below0) HSM.out u HQ3.out).mono ?_
    rintro e w5 ⟨v5, c5, rfl, L5, hb5⟩
    have HUL2 : u.length ≤ 1048576 := by have := HQ3.out.len; omega
    have HWF : Hid (∀ i, i < u.length → jwf (jg u i)) := HL3.out.wf
    have HL5' : Hid (LJb w5 (w4.heap.size + 1) v5 u.length c5 u) := by have := L5; rw [World.size_alloc] at this; exact this
    have H35 : Hid (Below w3.heap.size w3 w5) := (H34.out.alloc H34.out.size _).then hb5 (H34.out.alloc H34.out.size _).size
    have H45 : Hid (Below w4.heap.size w4 w5) := ((Below.refl _ _).alloc (Nat.le_refl _) _).then hb5 (by simp)
    have HO5 : Hid (StO w5 w3.heap.size w4.heap.size s0 Bn2 s0.nodes.length Be2 s0.ents.length H') := HO4.out.later H45.out (Nat.le_refl _)
    have z45 : w4.heap.size + 1 ≤ w5.heap.size := by have := hb5.size; simpa using this
    have z34 : w3.heap.size ≤ w4.heap.size := H34.out.size
    clear L5 HO4 H34 H45
    have y4 : w5.heap[w4.heap.size]? = some (.cells #[.int .i64 s0.now, .slice (some ⟨Bn2, 0, none⟩) s0.nodes.length s0.nodes.length, .slice (some ⟨Be2, 0, none⟩) s0.ents.length s0.ents.length, .int .i64 s0.next, .int .i64 s0.eps] 32 (0, 0)) := (hb5.block _ (by simp)).trans (heap_alloc_new _ _)
    have H5 : Hid (Below W0.heap.size W0 w5) := (H4.out.alloc H4.out.size _).then hb5 (H4.out.alloc H4.out.size _).size
    have HS5 : Hid (∀ W, Below w5.heap.size w5 W → StS W s0 (some ⟨Bn2, 0, none⟩) s0.nodes.length (some ⟨Be2, 0, none⟩) s0.ents.length) := fun W hW => ((HS4.below box_below0).below hb5).below hW
    have HL5 : Hid (∀ W, Below w5.heap.size w5 W → StS W s0 na0 nc0 ea0 ec0) := fun W hW => HL.out W ((B0.then H5.out B0.size).then hW (B0.then H5.out B0.size).size)
    clear HS4 hb5
    have l5 := lt_of_block y4
    generalize w4.heap.size = P at y4 l5 HL5' HO5 z45 z34 ⊢
    have HKK : Hid (∀ W, Below w5.heap.size w5 W → (W.cell? ⟨w.heap.size, 0, none⟩ = some (.int .i64 s0.now) ∧ W.cell? ⟨w.heap.size, 1, none⟩ = some (.slice na0 s0.nodes.length nc0) ∧ W.cell? ⟨w.heap.size, 2, none⟩ = some (.slice ea0 s0.ents.length ec0) ∧ W.cell? ⟨w.heap.size, 3, none⟩ = some (.int .i64 s0.next) ∧ W.cell? ⟨w.heap.size, 4, none⟩ = some (.int .i64 s0.eps) ∧ W.cell? ⟨P, 0, none⟩ = some (.int .i64 s0.now) ∧ W.cell? ⟨P, 1, none⟩ = some (.slice (some ⟨Bn2, 0, none⟩) s0.nodes.length s0.nodes.length) ∧ W.cell? ⟨P, 2, none⟩ = some (.slice (some ⟨Be2, 0, none⟩) s0.ents.length s0.ents.length) ∧ W.cell? ⟨P, 3, none⟩ = some (.int .i64 s0.next) ∧ W.cell? ⟨P, 4, none⟩ = some (.int .i64 s0.eps) ∧ Below w5.heap.size w5 W)) := fun W hW => by
      obtain ⟨d0, d1, d2, d3, d4, _, _, _, _, _⟩ := HX.out _ (H5.out.then hW H5.out.size)
      obtain ⟨e0, e1, e2, e3, e4, _, _, _, _, _⟩ := box5 ((hW.block _ l5).trans y4)
      exact ⟨d0, d1, d2, d3, d4, e0, e1, e2, e3, e4, hW⟩
    have KB : ∀ {W}, (W.cell? ⟨w.heap.size, 0, none⟩ = some (.int .i64 s0.now) ∧ W.cell? ⟨w.heap.size, 1, none⟩ = some (.slice na0 s0.nodes.length nc0) ∧ W.cell? ⟨w.heap.size, 2, none⟩ = some (.slice ea0 s0.ents.length ec0) ∧ W.cell? ⟨w.heap.size, 3, none⟩ = some (.int .i64 s0.next) ∧ W.cell? ⟨w.heap.size, 4, none⟩ = some (.int .i64 s0.eps) ∧ W.cell? ⟨P, 0, none⟩ = some (.int .i64 s0.now) ∧ W.cell? ⟨P, 1, none⟩ = some (.slice (some ⟨Bn2, 0, none⟩) s0.nodes.length s0.nodes.length) ∧ W.cell? ⟨P, 2, none⟩ = some (.slice (some ⟨Be2, 0, none⟩) s0.ents.length s0.ents.length) ∧ W.cell? ⟨P, 3, none⟩ = some (.int .i64 s0.next) ∧ W.cell? ⟨P, 4, none⟩ = some (.int .i64 s0.eps) ∧ Below w5.heap.size w5 W) → Below w5.heap.size w5 W := fun h => h.2.2.2.2.2.2.2.2.2.2
    have HG0 : Hid (Below w5.heap.size w5 w5) := Below.refl _ _
    obtain ⟨d0, d1, d2, d3, d4, e0, e1, e2, e3, e4, _⟩ := HKK.out w5 (Below.refl _ _)
    clear c0 c1 c2 c3 c4 y4
    have E5 : ∀ W (hW : Below w5.heap.size w5 W), Calls Tryz.prog 8 #[.slice v5 u.length c5, .slice v3 u.length c3'] W fun e w' => e = .returned (.bool true) ∧ Below W.heap.size W w' := fun W hW => eqJobS_same v5 v3 u.length c5 c3' u W ((HL5'.out.toS HWF.out).below hW) (HL3.out.below (H35.out.then hW H35.out.size))
    go_upto_region 10 with (go_at_call 8; refine (E5 _ (Below.refl _ _)).mono ?_; rintro e w6 ⟨rfl, hb6⟩)
    have HG0 : Hid (Below w5.heap.size w5 w6) := hb6
    clear hb6 E5
    clear d0 d1 d2 d3 d4 e0 e1 e2 e3 e4
    go_region_held3 (fun w' => w'.cell? ⟨w.heap.size, 0, none⟩ = some (.int .i64 s0.now) ∧ w'.cell? ⟨w.heap.size, 1, none⟩ = some (.slice na0 s0.nodes.length nc0) ∧ w'.cell? ⟨w.heap.size, 2, none⟩ = some (.slice ea0 s0.ents.length ec0) ∧ w'.cell? ⟨w.heap.size, 3, none⟩ = some (.int .i64 s0.next) ∧ w'.cell? ⟨w.heap.size, 4, none⟩ = some (.int .i64 s0.eps) ∧ w'.cell? ⟨P, 0, none⟩ = some (.int .i64 s0.now) ∧ w'.cell? ⟨P, 1, none⟩ = some (.slice (some ⟨Bn2, 0, none⟩) s0.nodes.length s0.nodes.length) ∧ w'.cell? ⟨P, 2, none⟩ = some (.slice (some ⟨Be2, 0, none⟩) s0.ents.length s0.ents.length) ∧ w'.cell? ⟨P, 3, none⟩ = some (.int .i64 s0.next) ∧ w'.cell? ⟨P, 4, none⟩ = some (.int .i64 s0.eps) ∧ Below w5.heap.size w5 w') ((refine HKK.out _ ?_; repeat (first | with_reducible exact SB7 | with_reducible exact SB6 | with_reducible exact HG0.out | (with_reducible refine Below.drew ?_)))) (first
      | (go_at_call 6
         refine (CT _ (HL5.out _ (KB (by assumption))) HSM.out).mono ?_
         rintro e w6 ⟨Bn3, Be3, H6, rfl, O6, hb6⟩
         have HS6 := HTS.out _ _ _ _ _ _ O6 HSM.out
         have SB6 : Below w5.heap.size w5 w6 := (KB (by assumption)).then hb6 (KB (by assumption)).size
         clear O6 hb6)
      | (go_at_call 9
         refine (CE _ _ _ _ _ (HS5.out _ (KB (by assumption))) (by first | exact HS6 | exact HS6.below (Below.refl _ _).drew)).mono ?_
         rintro e w7 ⟨rfl, hb7⟩
         have SB7 : Below w5.heap.size w5 w7 := (KB (by assumption)).then hb7 (KB (by assumption)).size))
    obtain ⟨_, _, _, _, _, e0, e1, e2, e3, e4, _⟩ := HKK.out w7 SB7
    have z57 := SB7.size
    have z35 := H35.out.size
    have CM := markState_any w3.heap.size P s0 Bn2 Be2 H' 1 w7 (HO5.out.later SB7 (by omega)) HSM.out (by omega) (by omega) (by omega)
    unfold stV at CM
    have hm0 : 0 ≤ mkSt s0 1 := mkSt_pos s0 HSM.out
    generalize mkSt s0 1 = r8 at CM hm0
    have hm0' : ¬ r8 < 0 := by omega
    have H7 : Hid (Below W0.heap.size W0 w7) := H5.out.then SB7 H5.out.size
    have HL7 : Hid (LJb w7 (P + 1) v5 u.length c5 u) := HL5'.out.below SB7
    have H37 : Hid (Below w3.heap.size w3 w7) := H35.out.then SB7 H35.out.size
    have hW03 := H3.out.size
    have zu := HUL2
    go_upto_region 14 with (go_at_call 10; refine CM.mono ?_; rintro e w8 ⟨rfl, _, o8⟩)
    clear e0 e1 e2 e3 e4 CM
    have H8 : Hid (Below W0.heap.size W0 w8) := H7.out.trans (o8.below hW03 (by omega))
    have HL8 : Hid (LJb w8 (P + 1) v5 u.length c5 u) := HL7.out.keepB (fun g hg hl => o8.block g hl (Or.inr (by omega))) o8.size
    have H38 : Hid (Below w3.heap.size w3 w8) := H37.out.trans (o8.below (Nat.le_refl _) (by omega))
    have z8 := o8.size
    clear o8 HKK KB
    go_upto_region 17 with (go_at_call 8; refine (eqJobS_same v5 v3 u.length c5 c3' u _ (HL8.out.toS HWF.out) (HL3.out.below H38.out)).mono ?_; rintro e w9 ⟨rfl, hb9⟩)
    have H9 : Hid (Below W0.heap.size W0 w9) := H8.out.then hb9 H8.out.size
    have HL9 : Hid (LJb w9 (P + 1) v5 u.length c5 u) := HL8.out.below hb9
    have H39 : Hid (Below w3.heap.size w3 w9) := H38.out.then hb9 H38.out.size
    have z9 := hb9.size
    clear hb9
    go_upto_region 19 with (go_at_call 11; refine (markLJb_any (P + 1) v5 u.length c5 1 u _ HL9.out zu (by omega) (by omega)).mono ?_; rintro e w10 ⟨rfl, hh10, b10⟩)
    have H10 : Hid (Below W0.heap.size W0 w10) := H9.out.trans (b10.mono (by omega))
    have H310 : Hid (Below w3.heap.size w3 w10) := H39.out.trans (b10.mono (by omega))
    have HH10 : Hid (JHeld w10 v5 u.length c5 1) := hh10
    have z10 := b10.size
    clear hh10 b10
    have hku : ¬ ((1 : Int) + 7 * (u.length : Int) < 0) := by omega
    obtain ⟨d0, d1, d2, d3, d4, _, _, _, _, _⟩ := HX.out _ H10.out
    go_upto_region 24 with (go_at_call 12; refine (heldLJb_any v5 u.length c5 1 _ HH10.out zu (by omega) (by omega)).mono ?_; rintro e w' ⟨rfl, hq⟩; have hq' := hq.symm; clear hq; subst hq')
    go_upto_region 25 with (first
      | (go_at_call 6; refine (CT _ (HL.out _ (B0.then H10.out B0.size)) HSM.out).mono ?_; rintro e w11 ⟨Bn4, Be4, H9', rfl, O11, hb11⟩; have HS11 := HTS.out _ _ _ _ _ _ O11 HSM.out; have H1011 : Hid (Below w10.heap.size w10 w11) := hb11; clear O11 hb11)
      | (go_at_call 7; refine (CI Bn4 Be4 _ HS11 HSM.out u HQ3.out).mono ?_; rintro e w12 ⟨v12, c12, rfl, L12, hb12⟩; have H1012 : Hid (Below w10.heap.size w10 w12) := H1011.out.then hb12 H1011.out.size; have HL12 : Hid (JobS w12 v12 u.length c12 u) := L12.toS HWF.out; clear L12 hb12))
    clear d0 d1 d2 d3 d4
    go_upto_region 28 with (go_at_call 8; refine (eqJobS_same v12 v3 u.length c12 c3' u _ HL12.out (HL3.out.below (H310.out.then H1012.out H310.out.size))).mono ?_; rintro e w13 ⟨rfl, hb13⟩)
    have H1013 : Hid (Below w10.heap.size w10 w13) := H1012.out.then hb13 H1012.out.size
    clear hb13
    go_wp2_with (go_at_call 12; refine (heldLJb_any v5 u.length c5 1 _ (HH10.out.below H1013.out) zu (by omega) (by omega)).mono ?_; rintro e w' ⟨rfl, hq⟩; have hq' := hq.symm; clear hq; subst hq')
    go_ret
    exact ⟨rfl, B0.then (H10.out.then H1013.out H10.out.size) B0.size⟩

set_option maxRecDepth 100000 in
theorem lifted (os : Os) (started : os.Started) (H : Type) (enc : TypeId × Value → H) :
    ReturnsInHanded {} Tryz.checked os 3 .any (Rows.fnExactWaitsSpec.pre6 enc Tryz.prog Tryz.f3 Rows.fnExactWaitsRow.domain false) (Rows.fnExactWaitsSpec.post enc Tryz.prog Tryz.f3 false true false false) := by
  refine returnsInHanded_of_change (C := Tryz.checked) own started (by kernel_rfl) Tryz.func3
    (ChangeSpec.witness6 (enc := enc) (C := Tryz.checked) false ⟨#[], #[.agg #[.int .i64 0, .slice none 0 0, .slice none 0 0, .int .i64 0, .int .i64 0]], []⟩ 8 (by kernel_rfl) (by kernel_rfl) (by kernel_rfl) (by kernel_rfl)) ?_
  intro W base args ds gs before hval0 hW hcnd _
  have hval : ∀ (j : Nat) t v, Tryz.f3.params[j]? = some t → args[j]? = some v → Value.okWide Tryz.prog W .any base t v := hval0
  have hW' := hW
  obtain ⟨p, q, hA0, hV, rfl, hfz, hnd⟩ := hW
  have hA : DataW.TrodAll enc Tryz.prog W 0 (fun _ => true) true Tryz.f3.params.toList args.toList ds p := hA0
  rw [Tryz.params3] at hA hval
  obtain ⟨v0, vs0, d0, ds0, p0, q0, hargs, rfl, rfl, h0, r0⟩ := trodAll_cons hA
  obtain ⟨rfl, rfl, rfl⟩ := trodAll_nil r0
  obtain rfl : args = #[v0] := by cases args; simp_all
  obtain ⟨rfl, rfl⟩ := trodVars_none hV
  have k0 := h0
  have lt0 : ∀ x ∈ p0, x.block < W.heap.size := by obtain ⟨m, hm⟩ := k0; exact DataW.trod_lt m _ _ _ hm
  obtain ⟨s0, na0, nc0, ea0, ec0, rfl, L0⟩ := open_state (hval 0 25 v0 rfl rfl) h0
  clear hA0 hval0
  refine (walk s0 na0 nc0 ea0 ec0 W L0).mono fun e W' ⟨he, bel⟩ => ?_
  subst he
  exact ⟨_, rfl, _, _, _, [], _, [], hW', trodAll_mk1 (shut_bool Tryz.underlying4 _), (trodAll_cons_mk (Below.trod laidOut (by kernel_rfl) (of_decide_eq_true (by kernel_rfl)) k0 bel lt0) trodAll_mk0), rfl, bel.frame _, fun h => by cases h⟩

theorem over : Rows.fnExactWaitsRow.holds Tryz.pinned (OpenSpec.ofChange Rows.fnExactWaitsSpec) :=
  OpenClaim.holds_of_wide 3 Tryz.f3 rfl rfl rfl rfl rfl rfl rfl ⟨rfl, rfl, rfl, rfl, rfl⟩ rfl rfl rfl rfl rfl (by kernel_rfl) Tryz.func3 (by kernel_rfl)
    (of_decide_eq_true (by kernel_rfl)) (by unfold Func.isWrapper; first | (rw [if_pos (by decide +kernel)]; kernel_rfl) | (rw [if_neg (by decide +kernel)]; exact ⟨rfl, rfl⟩))
    (fun os started H enc _ => lifted os started H enc)

/-- the given statement -/
theorem proved : Rows.FnExactWaitsSaid := over
#print axioms proved
end Go.Proofs.YtdgfkcobhhlfbaaGreat.fnExactWaits
