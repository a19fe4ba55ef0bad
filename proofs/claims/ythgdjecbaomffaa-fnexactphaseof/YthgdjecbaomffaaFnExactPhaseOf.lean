/- For every input that can be read the law FnExactPhaseOf returns true, and what it was handed reads as before. The frame is the kit's; the opening of the arguments and the walk are ours. -/
import Derived.Test.YthgdjecbaomffaaRows
import Derived.WalkKit
import Derived.ProofKit
import Derived.OpenShut
import Derived.ChangeOld
import Derived.Below
import Derived.Test.YthgdjecbaomffaaStateOpen
import Derived.Test.YthgdjecbaomffaaStI11
import Derived.Deep.RegionHeld3
import Derived.Deep.RegionHeldLaw
namespace Go.Proofs.Ythgdjecbaomffaa.fnExactPhaseOf
open Go.ChangeShapes Go.WideShapes Go.ChangeAt Go.RowKit
set_option linter.unusedVariables false

theorem own : ownKnob Try.prog.godebug = none := by kernel_rfl
theorem laidOut : laidOutB Try.prog = true := by kernel_rfl

set_option maxRecDepth 8000 in
set_option maxHeartbeats 4000000 in
theorem walk (s0 : St) (na0 : Option Addr) (nc0 : Nat) (ea0 : Option Addr) (ec0 : Nat) (a1 : Int) (w : World) (L0 : StS w s0 na0 nc0 ea0 ec0) (w1 : (Lit.int .i64 a1).wf = true) :
    Calls Try.prog 6 #[stV s0 na0 nc0 ea0 ec0, .int .i64 a1] w fun e w' => e = .returned (.bool true) ∧ Below w.heap.size w w' := by
  have HL : Hid (∀ W, Below w.heap.size w W → StS W s0 na0 nc0 ea0 ec0) := fun W hW => L0.below hW
  have CZ := fun W hW => szState_any s0 na0 nc0 ea0 ec0 W hW
  have CT := fun W hW => toState_any s0 na0 nc0 ea0 ec0 W hW
  have CE := fun Bn Be Bn' Be' W => eqState_same s0 (some ⟨Bn, 0, none⟩) s0.nodes.length (some ⟨Be, 0, none⟩) s0.ents.length (some ⟨Bn', 0, none⟩) s0.nodes.length (some ⟨Be', 0, none⟩) s0.ents.length W
  have CS := fun Bn Be W hW => specPhaseOf_any s0 a1 (some ⟨Bn, 0, none⟩) s0.nodes.length (some ⟨Be, 0, none⟩) s0.ents.length W hW
  have CI := fun Bn Be W hW => implPhaseOf_any s0 a1 w1 (some ⟨Bn, 0, none⟩) s0.nodes.length (some ⟨Be, 0, none⟩) s0.ents.length W hW
  unfold stV at CZ CT CE CS CI ⊢
  have HTS : Hid (∀ W base hi Bn Be H, StO W base hi s0 Bn s0.nodes.length Be s0.ents.length H → stSmall s0 → StS W s0 (some ⟨Bn, 0, none⟩) s0.nodes.length (some ⟨Be, 0, none⟩) s0.ents.length) := fun W base hi Bn Be H h hs => h.toS hs L0
  obtain ⟨W0, hW0⟩ : ∃ W0, W0 = w.alloc (.cells #[.int .i64 s0.now, .slice na0 s0.nodes.length nc0, .slice ea0 s0.ents.length ec0, .int .i64 s0.next, .int .i64 s0.eps] 25) := ⟨_, rfl⟩
  have B0 : Below w.heap.size w W0 := by rw [hW0]; exact box_below0
  have x0 : W0.heap[w.heap.size]? = some (.cells #[.int .i64 s0.now, .slice na0 s0.nodes.length nc0, .slice ea0 s0.ents.length ec0, .int .i64 s0.next, .int .i64 s0.eps] 25 (0, 0)) := by rw [hW0]; exact heap_alloc_new _ _
  have l0 := lt_of_block x0
  have HX : Hid (∀ W, Below W0.heap.size W0 W → Box5 W w.heap.size (.int .i64 s0.now) (.slice na0 s0.nodes.length nc0) (.slice ea0 s0.ents.length ec0) (.int .i64 s0.next) (.int .i64 s0.eps)) := fun W hW => box5 ((hW.block _ l0).trans x0)
  obtain ⟨c0, c1, c2, c3, c4, _, _, _, _, _⟩ := box5 x0
  clear L0
  go_enter Try.func6, Try.ntmps6
  go_upto_region 1 with fail
  rw [← hW0]
  clear hW0 x0
  go_upto_region 3 with (go_at_call 7; refine (CZ _ (HL.out _ B0)).mono ?_; rintro e w1 ⟨r, rfl, hr, hb1⟩)
  clear c0 c1 c2 c3 c4 CZ
  have H1 : Hid (Below W0.heap.size W0 w1) := hb1
  clear hb1
  obtain ⟨c0, c1, c2, c3, c4, _, _, _, _, _⟩ := HX.out _ H1.out
  rcases hr with hneg | ⟨hpos, hs⟩
  · go_wp2
    go_ret
    exact ⟨rfl, B0.then H1.out B0.size⟩
  · have hnn : ¬ r < 0 := by omega
    have HSM : Hid (stSmall s0) := hs
    clear hpos hs
    go_upto_region 5 with fail
    go_upto_region 6 with (first
      | (go_at_call 9; refine (CT _ (HL.out _ (B0.then H1.out B0.size)) HSM.out).mono ?_; rintro e w2 ⟨Bn, Be, H, rfl, O2, hb2⟩; have HS2 := HTS.out _ _ _ _ _ _ O2 HSM.out; have H2 : Hid (Below W0.heap.size W0 w2) := H1.out.then hb2 H1.out.size; clear O2 hb2)
      | (go_at_call 25; refine (CS Bn Be _ HS2 HSM.out).mono ?_; rintro e w3 ⟨v3, rfl, P3, hb3⟩; have HP3 : Hid (IsPh s0 a1 v3) := P3; clear P3; have H3 : Hid (Below W0.heap.size W0 w3) := H2.out.then hb3 H2.out.size; clear hb3))
    clear c0 c1 c2 c3 c4 HS2 CS
    obtain ⟨c0, c1, c2, c3, c4, _, _, _, _, _⟩ := HX.out _ H3.out
    go_wp2_with (go_at_call 9; refine (CT _ (HL.out _ (B0.then H3.out B0.size)) HSM.out).mono ?_; rintro e w4 ⟨Bn2, Be2, H', rfl, O4, hb4⟩; have HS4 := HTS.out _ _ _ _ _ _ O4 HSM.out; have H4 : Hid (Below W0.heap.size W0 w4) := H3.out.then hb4 H3.out.size; clear O4 hb4)
    refine (CI Bn2 Be2 _ (HS4.below box_below0) HSM.out).mono ?_
    rintro e w5 ⟨v5, rfl, P5, hb5⟩
    obtain rfl := P5.uniq HP3.out
    clear P5 HP3
    have y4 : w5.heap[w4.heap.size]? = some (.cells #[.int .i64 s0.now, .slice (some ⟨Bn2, 0, none⟩) s0.nodes.length s0.nodes.length, .slice (some ⟨Be2, 0, none⟩) s0.ents.length s0.ents.length, .int .i64 s0.next, .int .i64 s0.eps] 31 (0, 0)) := (hb5.block _ (by simp)).trans (heap_alloc_new _ _)
    have H5 : Hid (Below W0.heap.size W0 w5) := (H4.out.alloc H4.out.size _).then hb5 (H4.out.alloc H4.out.size _).size
    have HS5 : Hid (∀ W, Below w5.heap.size w5 W → StS W s0 (some ⟨Bn2, 0, none⟩) s0.nodes.length (some ⟨Be2, 0, none⟩) s0.ents.length) := fun W hW => ((HS4.below box_below0).below hb5).below hW
    have HL5 : Hid (∀ W, Below w5.heap.size w5 W → StS W s0 na0 nc0 ea0 ec0) := fun W hW => HL.out W ((B0.then H5.out B0.size).then hW (B0.then H5.out B0.size).size)
    clear HS4 CI hb5
    have l5 := lt_of_block y4
    generalize w4.heap.size = P at y4 l5 ⊢
    have HKK : Hid (∀ W, Below w5.heap.size w5 W → (W.cell? ⟨w.heap.size, 0, none⟩ = some (.int .i64 s0.now) ∧ W.cell? ⟨w.heap.size, 1, none⟩ = some (.slice na0 s0.nodes.length nc0) ∧ W.cell? ⟨w.heap.size, 2, none⟩ = some (.slice ea0 s0.ents.length ec0) ∧ W.cell? ⟨w.heap.size, 3, none⟩ = some (.int .i64 s0.next) ∧ W.cell? ⟨w.heap.size, 4, none⟩ = some (.int .i64 s0.eps) ∧ W.cell? ⟨P, 0, none⟩ = some (.int .i64 s0.now) ∧ W.cell? ⟨P, 1, none⟩ = some (.slice (some ⟨Bn2, 0, none⟩) s0.nodes.length s0.nodes.length) ∧ W.cell? ⟨P, 2, none⟩ = some (.slice (some ⟨Be2, 0, none⟩) s0.ents.length s0.ents.length) ∧ W.cell? ⟨P, 3, none⟩ = some (.int .i64 s0.next) ∧ W.cell? ⟨P, 4, none⟩ = some (.int .i64 s0.eps) ∧ Below w5.heap.size w5 W)) := fun W hW => by
      obtain ⟨d0, d1, d2, d3, d4, _, _, _, _, _⟩ := HX.out _ (H5.out.then hW H5.out.size)
      obtain ⟨e0, e1, e2, e3, e4, _, _, _, _, _⟩ := box5 ((hW.block _ l5).trans y4)
      exact ⟨d0, d1, d2, d3, d4, e0, e1, e2, e3, e4, hW⟩
    have KB : ∀ {W}, (W.cell? ⟨w.heap.size, 0, none⟩ = some (.int .i64 s0.now) ∧ W.cell? ⟨w.heap.size, 1, none⟩ = some (.slice na0 s0.nodes.length nc0) ∧ W.cell? ⟨w.heap.size, 2, none⟩ = some (.slice ea0 s0.ents.length ec0) ∧ W.cell? ⟨w.heap.size, 3, none⟩ = some (.int .i64 s0.next) ∧ W.cell? ⟨w.heap.size, 4, none⟩ = some (.int .i64 s0.eps) ∧ W.cell? ⟨P, 0, none⟩ = some (.int .i64 s0.now) ∧ W.cell? ⟨P, 1, none⟩ = some (.slice (some ⟨Bn2, 0, none⟩) s0.nodes.length s0.nodes.length) ∧ W.cell? ⟨P, 2, none⟩ = some (.slice (some ⟨Be2, 0, none⟩) s0.ents.length s0.ents.length) ∧ W.cell? ⟨P, 3, none⟩ = some (.int .i64 s0.next) ∧ W.cell? ⟨P, 4, none⟩ = some (.int .i64 s0.eps) ∧ Below w5.heap.size w5 W) → Below w5.heap.size w5 W := fun h => h.2.2.2.2.2.2.2.2.2.2
    have HG0 : Hid (Below w5.heap.size w5 w5) := Below.refl _ _
    obtain ⟨d0, d1, d2, d3, d4, e0, e1, e2, e3, e4, _⟩ := HKK.out w5 (Below.refl _ _)
    clear c0 c1 c2 c3 c4 y4 HL HX
    go_upto_region 10 with fail
    clear d0 d1 d2 d3 d4 e0 e1 e2 e3 e4
    go_region_held3 (fun w' => w'.cell? ⟨w.heap.size, 0, none⟩ = some (.int .i64 s0.now) ∧ w'.cell? ⟨w.heap.size, 1, none⟩ = some (.slice na0 s0.nodes.length nc0) ∧ w'.cell? ⟨w.heap.size, 2, none⟩ = some (.slice ea0 s0.ents.length ec0) ∧ w'.cell? ⟨w.heap.size, 3, none⟩ = some (.int .i64 s0.next) ∧ w'.cell? ⟨w.heap.size, 4, none⟩ = some (.int .i64 s0.eps) ∧ w'.cell? ⟨P, 0, none⟩ = some (.int .i64 s0.now) ∧ w'.cell? ⟨P, 1, none⟩ = some (.slice (some ⟨Bn2, 0, none⟩) s0.nodes.length s0.nodes.length) ∧ w'.cell? ⟨P, 2, none⟩ = some (.slice (some ⟨Be2, 0, none⟩) s0.ents.length s0.ents.length) ∧ w'.cell? ⟨P, 3, none⟩ = some (.int .i64 s0.next) ∧ w'.cell? ⟨P, 4, none⟩ = some (.int .i64 s0.eps) ∧ Below w5.heap.size w5 w') ((refine HKK.out _ ?_; repeat (first | with_reducible exact SB7 | with_reducible exact SB6 | with_reducible exact HG0.out | (with_reducible refine Below.drew ?_)))) (first
      | (go_at_call 9
         refine (CT _ (HL5.out _ (KB (by assumption))) HSM.out).mono ?_
         rintro e w6 ⟨Bn3, Be3, H6, rfl, O6, hb6⟩
         have HS6 := HTS.out _ _ _ _ _ _ O6 HSM.out
         have SB6 : Below w5.heap.size w5 w6 := (KB (by assumption)).then hb6 (KB (by assumption)).size
         clear O6 hb6)
      | (go_at_call 11
         refine (CE _ _ _ _ _ (HS5.out _ (KB (by assumption))) (by first | exact HS6 | exact HS6.below (Below.refl _ _).drew)).mono ?_
         rintro e w7 ⟨rfl, hb7⟩
         have SB7 : Below w5.heap.size w5 w7 := (KB (by assumption)).then hb7 (KB (by assumption)).size))
    all_goals
      go_wp2
      go_ret
      exact ⟨rfl, B0.then (H5.out.then SB7 H5.out.size) B0.size⟩

set_option maxRecDepth 100000 in
theorem lifted (os : Os) (started : os.Started) (H : Type) (enc : TypeId × Value → H) :
    ReturnsInHanded {} Try.checked os 6 .any (Rows.fnExactPhaseOfSpec.pre6 enc Try.prog Try.f6 Rows.fnExactPhaseOfRow.domain false) (Rows.fnExactPhaseOfSpec.post enc Try.prog Try.f6 false true false false) := by
  refine returnsInHanded_of_change (C := Try.checked) own started (by kernel_rfl) Try.func6
    (ChangeSpec.witness6 (enc := enc) (C := Try.checked) false ⟨#[], #[.agg #[.int .i64 0, .slice none 0 0, .slice none 0 0, .int .i64 0, .int .i64 0], .int .i64 0], []⟩ 8 (by kernel_rfl) (by kernel_rfl) (by kernel_rfl) (by kernel_rfl)) ?_
  intro W base args ds gs before hval0 hW hcnd _
  have hval : ∀ (j : Nat) t v, Try.f6.params[j]? = some t → args[j]? = some v → Value.okWide Try.prog W .any base t v := hval0
  have hW' := hW
  obtain ⟨p, q, hA0, hV, rfl, hfz, hnd⟩ := hW
  have hA : DataW.TrodAll enc Try.prog W 0 (fun _ => true) true Try.f6.params.toList args.toList ds p := hA0
  rw [Try.params6] at hA hval
  obtain ⟨v0, vs0, d0, ds0, p0, q0, hargs, rfl, rfl, h0, r0⟩ := trodAll_cons hA
  obtain ⟨v1, vs1, d1, ds1, p1, q1, rfl, rfl, rfl, h1, r1⟩ := trodAll_cons r0
  obtain ⟨rfl, rfl, rfl⟩ := trodAll_nil r1
  obtain rfl : args = #[v0, v1] := by cases args; simp_all
  obtain ⟨rfl, rfl⟩ := trodVars_none hV
  have k0 := h0
  have lt0 : ∀ x ∈ p0, x.block < W.heap.size := by obtain ⟨m, hm⟩ := k0; exact DataW.trod_lt m _ _ _ hm
  obtain ⟨s0, na0, nc0, ea0, ec0, rfl, L0⟩ := open_state (hval 0 25 v0 rfl rfl) h0
  have k1 := h1
  have lt1 : ∀ x ∈ p1, x.block < W.heap.size := by obtain ⟨m, hm⟩ := k1; exact DataW.trod_lt m _ _ _ hm
  obtain ⟨a1, rfl, rfl, rfl, w1⟩ := open_int Try.underlying2 (hval 1 2 v1 rfl rfl) h1
  clear hA0 hval0
  refine (walk s0 na0 nc0 ea0 ec0 a1 W L0 w1).mono fun e W' ⟨he, bel⟩ => ?_
  subst he
  exact ⟨_, rfl, _, _, _, [], _, [], hW', trodAll_mk1 (shut_bool Try.underlying4 _), (trodAll_cons_mk (Below.trod laidOut (by kernel_rfl) (of_decide_eq_true (by kernel_rfl)) k0 bel lt0) (trodAll_cons_mk (Below.trod laidOut (by kernel_rfl) (of_decide_eq_true (by kernel_rfl)) k1 bel lt1) trodAll_mk0)), rfl, bel.frame _, fun h => by cases h⟩

theorem over : Rows.fnExactPhaseOfRow.holds Try.pinned (OpenSpec.ofChange Rows.fnExactPhaseOfSpec) :=
  OpenClaim.holds_of_wide 6 Try.f6 rfl rfl rfl rfl rfl rfl rfl ⟨rfl, rfl, rfl, rfl, rfl⟩ rfl rfl rfl rfl rfl (by kernel_rfl) Try.func6 (by kernel_rfl)
    (of_decide_eq_true (by kernel_rfl)) (by unfold Func.isWrapper; first | (rw [if_pos (by decide +kernel)]; kernel_rfl) | (rw [if_neg (by decide +kernel)]; exact ⟨rfl, rfl⟩))
    (fun os started H enc _ => lifted os started H enc)

/-- the given statement -/
theorem proved : Rows.FnExactPhaseOfSaid := over
#print axioms proved
end Go.Proofs.Ythgdjecbaomffaa.fnExactPhaseOf
