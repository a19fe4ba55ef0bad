/- For every input that can be read the law FnExactLower returns true, and what it was handed reads as before. The frame is the kit's; the opening of the arguments and the walk are ours. -/
import Derived.Test.YtnenfjddkoefeaaRows
import Derived.WalkKit
import Derived.ProofKit
import Derived.OpenShut
import Derived.ChangeOld
import Derived.Below
import Derived.Test.YtnenfjddkoefeaaNewBlk
import Derived.Deep.RegionHeld3
import Derived.Deep.Cut
namespace Go.Proofs.Ytnenfjddkoefeaa.fnExactLower
open Go.ChangeShapes Go.WideShapes Go.ChangeAt Go.RowKit
set_option linter.unusedVariables false

theorem own : ownKnob Try.prog.godebug = none := by kernel_rfl
theorem laidOut : laidOutB Try.prog = true := by kernel_rfl

set_option maxRecDepth 8000 in
set_option maxHeartbeats 8000000 in
theorem walk (t0 : Int) (a0 : Option Addr) (n0 cap0 : Nat) (l0 : List Lev) (t1 : Int) (a1 : Option Addr) (n1 cap1 : Nat) (l1 : List Lev) (w : World) (w0 : (Lit.int .i64 t0).wf = true) (L0 : LevS w a0 n0 cap0 l0) (w1 : (Lit.int .i64 t1).wf = true) (L1 : LevS w a1 n1 cap1 l1) :
    Calls Try.prog 6 #[.agg #[.int .i64 t0, .slice a0 n0 cap0], .agg #[.int .i64 t1, .slice a1 n1 cap1]] w fun e w' => e = .returned (.bool true) ∧ Below w.heap.size w w' := by
  have hmx0 := L0.mx
  have hle0 := L0.le
  have hmx1 := L1.mx
  have hle1 := L1.le
  obtain ⟨W, hW⟩ : ∃ W, W = (w.alloc (.cells #[.int .i64 t0, .slice a0 n0 cap0] 46)).alloc (.cells #[.int .i64 t1, .slice a1 n1 cap1] 46) := ⟨_, rfl⟩
  have K0 : Bxs W [(w.heap.size + 1, .int .i64 t1, .slice a1 n1 cap1, 46), (w.heap.size, .int .i64 t0, .slice a0 n0 cap0, 46)] := by
    rw [hW]
    have k1 : Bxs (w.alloc (.cells #[.int .i64 t0, .slice a0 n0 cap0] 46)) [(w.heap.size, .int .i64 t0, .slice a0 n0 cap0, 46)] := Bxs.cons (L := []) (fun x hx => by cases hx)
    have k2 := k1.cons (v0 := .int .i64 t1) (v1 := .slice a1 n1 cap1) (T := 46)
    simpa using k2
  have BW : Below w.heap.size w W := by rw [hW]; exact box_below.alloc (by simp) _
  have hW2 : w.heap.size + 2 ≤ W.heap.size := by rw [hW]; simp
  have HWE : Hid (W = (w.alloc (.cells #[.int .i64 t0, .slice a0 n0 cap0] 46)).alloc (.cells #[.int .i64 t1, .slice a1 n1 cap1] 46)) := hW
  clear hW
  by_cases hn0 : n0 ≤ 1048576
  · by_cases hn1 : n1 ≤ 1048576 - n0
    · have hn1' : n1 ≤ 1048576 := by omega
      go_enter Try.func6, Try.ntmps6
      go_wp2_with fail
      rw [← HWE.out]
      refine (szProfile_any t0 a0 n0 cap0 _ _ (by omega) (by omega) (by omega)).mono ?_
      rw [if_neg (by omega)]
      rintro e w1 ⟨rfl, U1⟩
      have K1 := K0.below U1
      obtain ⟨p0, p1, _, _⟩ := boxed (K1 (w.heap.size + 1, .int .i64 t1, .slice a1 n1 cap1, 46) (by simp))
      obtain ⟨q0, q1, _, _⟩ := boxed (K1 (w.heap.size, .int .i64 t0, .slice a0 n0 cap0, 46) (by simp))
      go_wp2_with fail
      refine (szProfile_any t1 a1 n1 cap1 _ _ (by omega) (by omega) (by omega)).mono ?_
      rw [if_neg (by omega)]
      rintro e w2 ⟨rfl, U2⟩
      have V2 := U1.then U2 U1.size
      have K2 := K1.below U2
      clear p0 p1 q0 q1 U1 U2 K1
      have HS : Hid (∀ X, Below w2.heap.size w2 X → X.cell? ⟨w.heap.size, 0, none⟩ = some (.int .i64 t0) ∧ X.cell? ⟨w.heap.size, 1, none⟩ = some (.slice a0 n0 cap0) ∧ X.cell? ⟨w.heap.size + 1, 0, none⟩ = some (.int .i64 t1) ∧ X.cell? ⟨w.heap.size + 1, 1, none⟩ = some (.slice a1 n1 cap1)) := fun X hX => by
        have k := K2.below hX
        obtain ⟨p0, p1, _, _⟩ := boxed (k (w.heap.size + 1, .int .i64 t1, .slice a1 n1 cap1, 46) (by simp))
        obtain ⟨q0, q1, _, _⟩ := boxed (k (w.heap.size, .int .i64 t0, .slice a0 n0 cap0, 46) (by simp))
        exact ⟨q0, q1, p0, p1⟩
      have z2 := V2.size
      have HA : Hid (∀ X, Below w2.heap.size w2 X → LevS X a0 n0 cap0 l0) := fun X hX => L0.below (BW.trans ((V2.trans (hX.mono z2)).mono (by omega)))
      have HB : Hid (∀ X, Below w2.heap.size w2 X → LevS X a1 n1 cap1 l1) := fun X hX => L1.below (BW.trans ((V2.trans (hX.mono z2)).mono (by omega)))
      obtain ⟨p0, p1, p2, p3⟩ := HS.out _ (Below.refl _ _)
      rcases hlow : lowB t0 t1 l0 l1 with _ | _
      · skip
        go_upto_region 8 with fail
        go_cut [6, 7] from 17 (fun sb sf wx => ∃ bx : Nat, sb = .pointer (some ⟨bx, 0, none⟩) ∧ sf = .bool false ∧ wx.heap[bx]? = some (.cells #[.int .i64 0, .slice none 0 0] 26 (0, 0)) ∧ w2.heap.size ≤ bx ∧ Below w2.heap.size w2 wx)
        case first =>
          go_region_held3 (fun w' => w'.cell? ⟨w.heap.size, 0, none⟩ = some (.int .i64 t0) ∧ w'.cell? ⟨w.heap.size, 1, none⟩ = some (.slice a0 n0 cap0) ∧ w'.cell? ⟨w.heap.size + 1, 0, none⟩ = some (.int .i64 t1) ∧ w'.cell? ⟨w.heap.size + 1, 1, none⟩ = some (.slice a1 n1 cap1)) ((refine HS.out _ ?_; first | with_reducible exact Dw5.alloc Dw5.size _ | with_reducible exact Dw5 | with_reducible exact Dw4.alloc Dw4.size _ | with_reducible exact Dw4 | with_reducible exact Dw3.alloc Dw3.size _ | with_reducible exact Dw3 | with_reducible exact (Below.refl _ _).drew | with_reducible exact (Below.refl _ _).drew.alloc (Nat.le_refl _) _ | with_reducible exact ((Below.refl _ _).alloc (Nat.le_refl _) _).drew | exact (Dw5.setCell (by first | exact Nat.le_refl _ | exact zw3 | exact zw4) _).setCell (by first | exact Nat.le_refl _ | exact zw3 | exact zw4) _)) (first
            | (go_at_call 29; first
                | (have KC := Dw3; refine (toProfile_any t1 a1 n1 cap1 l1 _ (HB.out _ (by first | exact KC.alloc KC.size _ | exact KC)) hn1').mono ?_; rintro e w4 ⟨B2, rfl, hB2, hl2, hbw4⟩; have Dw4 : Below w2.heap.size w2 w4 := (by first | exact (KC.alloc KC.size _).then hbw4 (KC.alloc KC.size _).size | exact KC.then hbw4 KC.size); have LA := (by first | exact (((hl1.below box_below).below hbw4).toS L0.len hn0 L0.wf) | exact ((hl1.below hbw4).toS L0.len hn0 L0.wf)); have LB := hl2.toS L1.len hn1' L1.wf; have zw4 := Dw4.size; first | (have NB := newblk hbw4; have NC := boxed NB; have NL := lt_of_block NB) | (have NB := (hbw4.block _ (lt_of_block NB)).trans NB; have NC := boxed NB; have NL := lt_of_block NB) | skip)
                | (refine (toProfile_any t0 a0 n0 cap0 l0 _ (HA.out _ (by first | exact (Below.refl _ _).drew | exact (Below.refl _ _).drew.alloc (Nat.le_refl _) _ | exact ((Below.refl _ _).alloc (Nat.le_refl _) _).drew)) hn0).mono ?_; rintro e w3 ⟨B1, rfl, hB1, hl1, hbw3⟩; have Dw3 : Below w2.heap.size w2 w3 := (by first | exact (Below.refl _ _).drew.trans hbw3 | exact (((Below.refl _ _).alloc (Nat.le_refl _) _).drew).then hbw3 (by simp)); have zw3 := Dw3.size; first | (have NB := newblkd hbw3; have NC := boxed NB; have NL := lt_of_block NB) | skip))
            | (go_at_call 22; first | refine (specLower_nil t0 t1 _ _ n0 n0 n1 n1 l0 l1 _ LA LB hlow).mono ?_ | refine (specLower_nil t0 t1 _ _ n0 n0 n1 n1 l0 l1 _ (LA.below box_below) (LB.below box_below) hlow).mono ?_
               rintro e w5 ⟨rfl, hbw5⟩
               have Dw5 : Below w2.heap.size w2 w5 := (by first | exact Dw4.then hbw5 Dw4.size | exact (Dw4.alloc Dw4.size _).then hbw5 (Dw4.alloc Dw4.size _).size)
               have zw5 := Dw5.size
               first | (have NB := newblk hbw5; have NC := boxed NB) | (have NB := (hbw5.block _ (lt_of_block NB)).trans NB; have NC := boxed NB) | skip))
          all_goals
            clear p0 p1 p2 p3
            go_wp2_with fail
            go_meet
            first
              | exact ⟨_, rfl, rfl, heap_alloc_new _ _, by omega, Dw5.alloc Dw5.size _⟩
              | exact ⟨_, rfl, rfl, (set2 NB _ _).1, by omega, (Dw5.setCell (by first | exact Nat.le_refl _ | exact zw3 | exact zw4) _).setCell (by first | exact Nat.le_refl _ | exact zw3 | exact zw4) _⟩
        case rest =>
          rename World => w6
          obtain ⟨b5, rfl, rfl, hbx6, hlo5, KB6⟩ := hcut
          clear p0 p1 p2 p3
          have K6 := (K2.below KB6).add hbx6
          have z5 := KB6.size
          have lb5 := lt_of_block hbx6
          obtain ⟨p0, p1, _, _⟩ := boxed (K6 (w.heap.size, .int .i64 t0, .slice a0 n0 cap0, 46) (by simp))
          go_wp2_with fail
          refine (toProfile_any t0 a0 n0 cap0 l0 _ (HA.out _ KB6) hn0).mono ?_
          rintro e w7 ⟨B3, rfl, hB3, hl3, hb7⟩
          clear p0 p1
          have hB3' : w6.heap.size ≤ B3 := hB3
          have KB7 := KB6.then hb7 KB6.size
          have KB8 : Below w2.heap.size w2 (w7.alloc (.cells #[.int .i64 t0, .slice (some ⟨B3, 0, none⟩) n0 n0] 26)) := KB7.alloc KB7.size _
          have K8 := (K6.below hb7).cons (v0 := .int .i64 t0) (v1 := .slice (some ⟨B3, 0, none⟩) n0 n0) (T := 26)
          have gl7 := hl3.lt
          have z7 : w6.heap.size ≤ w7.heap.size := hb7.size
          obtain ⟨p0, p1, _, _⟩ := boxed (K8 (w.heap.size + 1, .int .i64 t1, .slice a1 n1 cap1, 46) (by simp))
          go_wp2_with fail
          refine (toProfile_any t1 a1 n1 cap1 l1 _ (HB.out _ KB8) hn1').mono ?_
          rintro e w9 ⟨B4, rfl, hB4, hl4, hb9⟩
          clear p0 p1
          have hB4' : w7.heap.size + 1 ≤ B4 := by simpa using hB4
          have KB9 := KB8.then hb9 KB8.size
          have KB10 : Below w2.heap.size w2 (w9.alloc (.cells #[.int .i64 t1, .slice (some ⟨B4, 0, none⟩) n1 n1] 26)) := KB9.alloc KB9.size _
          have K10 := (K8.below hb9).cons (v0 := .int .i64 t1) (v1 := .slice (some ⟨B4, 0, none⟩) n1 n1) (T := 26)
          have gl9 := hl4.lt
          have z9 : w7.heap.size + 1 ≤ w9.heap.size := by simpa using hb9.size
          have hl3b := ((hl3.below box_below).below hb9).below (box_below (v0 := .int .i64 t1) (v1 := .slice (some ⟨B4, 0, none⟩) n1 n1) (T := 26))
          have hl4b := hl4.below (box_below (v0 := .int .i64 t1) (v1 := .slice (some ⟨B4, 0, none⟩) n1 n1) (T := 26))
          obtain ⟨p0, p1, _, _⟩ := boxed (K10 (w7.heap.size, .int .i64 t0, .slice (some ⟨B3, 0, none⟩) n0 n0, 26) (by simp))
          obtain ⟨q0, q1, _, _⟩ := boxed (K10 (w9.heap.size, .int .i64 t1, .slice (some ⟨B4, 0, none⟩) n1 n1, 26) (by simp))
          go_wp2_with fail
          refine (implLower_nil t0 t1 _ _ n0 n0 n1 n1 l0 l1 _ (hl3b.toS L0.len hn0 L0.wf) (hl4b.toS L1.len hn1' L1.wf) hlow).mono ?_
          rintro e w11 ⟨rfl, hb11⟩
          clear p0 p1 q0 q1
          have KB11 := KB10.then hb11 KB10.size
          have KB12 : Below w2.heap.size w2 (w11.alloc (.cells #[.int .i64 0, .slice none 0 0] 26)) := KB11.alloc KB11.size _
          have K12 := (K10.below hb11).cons (v0 := .int .i64 0) (v1 := .slice none 0 0) (T := 26)
          have z11 : w9.heap.size + 1 ≤ w11.heap.size := by simpa using hb11.size
          have hl3c := (hl3b.below hb11).below (box_below (v0 := .int .i64 0) (v1 := .slice none 0 0) (T := 26))
          have hl4c := (hl4b.below hb11).below (box_below (v0 := .int .i64 0) (v1 := .slice none 0 0) (T := 26))
          obtain ⟨p0, p1, _, _⟩ := boxed (K12 (w11.heap.size, .int .i64 0, .slice none 0 0, 26) (by simp))
          obtain ⟨q0, q1, _, _⟩ := boxed (K12 (b5, .int .i64 0, .slice none 0 0, 26) (by simp))
          go_wp2_with fail
          refine (eqProfile_same 0 _ _ 0 0 0 [] _ (LevS.nil_ _) (LevS.nil_ _)).mono ?_
          rintro e w13 ⟨rfl, hb13⟩
          clear p0 p1 q0 q1
          have KB13 := KB12.then hb13 KB12.size
          have K13 := K12.below hb13
          have hx13 := hl3c.below hb13
          have hy13 := hl4c.below hb13
          have HT : Hid (∀ X, Below w13.heap.size w13 X → X.cell? ⟨w.heap.size, 0, none⟩ = some (.int .i64 t0) ∧ X.cell? ⟨w.heap.size, 1, none⟩ = some (.slice a0 n0 cap0) ∧ X.cell? ⟨w7.heap.size, 0, none⟩ = some (.int .i64 t0) ∧ X.cell? ⟨w7.heap.size, 1, none⟩ = some (.slice (some ⟨B3, 0, none⟩) n0 n0)) := fun X hX => by
            have k := K13.below hX
            obtain ⟨a0', a1', _, _⟩ := boxed (k (w.heap.size, .int .i64 t0, .slice a0 n0 cap0, 46) (by simp))
            obtain ⟨b0', b1', _, _⟩ := boxed (k (w7.heap.size, .int .i64 t0, .slice (some ⟨B3, 0, none⟩) n0 n0, 26) (by simp))
            exact ⟨a0', a1', b0', b1'⟩
          obtain ⟨p0, p1, q0, q1⟩ := HT.out _ (Below.refl _ _)
          go_wp2_with fail
          go_region_held3 (fun w' => w'.cell? ⟨w.heap.size, 0, none⟩ = some (.int .i64 t0) ∧ w'.cell? ⟨w.heap.size, 1, none⟩ = some (.slice a0 n0 cap0) ∧ w'.cell? ⟨w7.heap.size, 0, none⟩ = some (.int .i64 t0) ∧ w'.cell? ⟨w7.heap.size, 1, none⟩ = some (.slice (some ⟨B3, 0, none⟩) n0 n0)) (first | exact HT.out _ Dw15 | exact HT.out _ Dw14 | exact HT.out _ (Below.refl _ _).drew | go_keep) (first
            | (go_at_call 29; refine (toProfile_any t0 a0 n0 cap0 l0 _ (HA.out _ (KB13.drew)) hn0).mono ?_; rintro e w14 ⟨BBx, rfl, hBBx, hlbx, hbbx⟩; have Dw14 := (Below.refl w13.heap.size w13).drew.trans hbbx)
            | (go_at_call 30; refine (eqProfile_same t0 _ _ n0 n0 n0 l0 _ ((hx13.below Dw14).toS L0.len hn0 L0.wf) (hlbx.toS L0.len hn0 L0.wf)).mono ?_; rintro e w15 ⟨rfl, hbcx⟩; have Dw15 := Dw14.then hbcx Dw14.size))
          clear p0 p1 q0 q1 HT
          have KB15 := KB13.then Dw15 KB13.size
          have K15 := K13.below Dw15
          have hx15 := hx13.below Dw15
          have hy15 := hy13.below Dw15
          have HT : Hid (∀ X, Below w15.heap.size w15 X → X.cell? ⟨w.heap.size + 1, 0, none⟩ = some (.int .i64 t1) ∧ X.cell? ⟨w.heap.size + 1, 1, none⟩ = some (.slice a1 n1 cap1) ∧ X.cell? ⟨w9.heap.size, 0, none⟩ = some (.int .i64 t1) ∧ X.cell? ⟨w9.heap.size, 1, none⟩ = some (.slice (some ⟨B4, 0, none⟩) n1 n1)) := fun X hX => by
            have k := K15.below hX
            obtain ⟨a0', a1', _, _⟩ := boxed (k (w.heap.size + 1, .int .i64 t1, .slice a1 n1 cap1, 46) (by simp))
            obtain ⟨b0', b1', _, _⟩ := boxed (k (w9.heap.size, .int .i64 t1, .slice (some ⟨B4, 0, none⟩) n1 n1, 26) (by simp))
            exact ⟨a0', a1', b0', b1'⟩
          obtain ⟨p0, p1, q0, q1⟩ := HT.out _ (Below.refl _ _)
          go_wp2_with fail
          go_region_held3 (fun w' => w'.cell? ⟨w.heap.size + 1, 0, none⟩ = some (.int .i64 t1) ∧ w'.cell? ⟨w.heap.size + 1, 1, none⟩ = some (.slice a1 n1 cap1) ∧ w'.cell? ⟨w9.heap.size, 0, none⟩ = some (.int .i64 t1) ∧ w'.cell? ⟨w9.heap.size, 1, none⟩ = some (.slice (some ⟨B4, 0, none⟩) n1 n1)) (first | exact HT.out _ Dw17 | exact HT.out _ Dw16 | exact HT.out _ (Below.refl _ _).drew | go_keep) (first
            | (go_at_call 29; refine (toProfile_any t1 a1 n1 cap1 l1 _ (HB.out _ (KB15.drew)) hn1').mono ?_; rintro e w16 ⟨BBy, rfl, hBBy, hlby, hbby⟩; have Dw16 := (Below.refl w15.heap.size w15).drew.trans hbby)
            | (go_at_call 30; refine (eqProfile_same t1 _ _ n1 n1 n1 l1 _ ((hy15.below Dw16).toS L1.len hn1' L1.wf) (hlby.toS L1.len hn1' L1.wf)).mono ?_; rintro e w17 ⟨rfl, hbcy⟩; have Dw17 := Dw16.then hbcy Dw16.size))
          clear p0 p1 q0 q1 HT
          have KB17 := KB15.then Dw17 KB15.size
          have K17 := K15.below Dw17
          have hx17 := hx15.below Dw17
          have hy17 := hy15.below Dw17
          have z13 : w11.heap.size + 1 ≤ w13.heap.size := by simpa using hb13.size
          have z15 := Dw15.size
          have z17 := Dw17.size
          obtain ⟨p0, p1, _, _⟩ := boxed (K17 (w7.heap.size, .int .i64 t0, .slice (some ⟨B3, 0, none⟩) n0 n0, 26) (by simp))
          go_wp2_with fail
          refine (markProfileC_any t0 B3 n0 n0 1 l0 _ hx17.toC hn0 (by omega) (by omega)).mono ?_
          rintro e w18 ⟨rfl, hm18, ho18⟩
          clear p0 p1
          have K18 := (K17.below (box_below (v0 := .int .i64 t0) (v1 := .slice (some ⟨B3, 0, none⟩) n0 n0) (T := 26))).only ho18 (by intro x hx; simp at hx; rcases hx with rfl | rfl | rfl | rfl | rfl | rfl <;> simp <;> omega)
          have KB18 := (KB17.then (box_below (v0 := .int .i64 t0) (v1 := .slice (some ⟨B3, 0, none⟩) n0 n0) (T := 26)) KB17.size).trans (ho18.below (by omega))
          have z18 : w17.heap.size ≤ w18.heap.size := by have := ho18.size; simp at this; omega
          have hy18 := (hy17.below (box_below (v0 := .int .i64 t0) (v1 := .slice (some ⟨B3, 0, none⟩) n0 n0) (T := 26))).only ho18 (by omega)
          obtain ⟨p0, p1, _, _⟩ := boxed (K18 (w9.heap.size, .int .i64 t1, .slice (some ⟨B4, 0, none⟩) n1 n1, 26) (by simp))
          go_wp2_with fail
          refine (markProfileC_any t1 B4 n1 n1 (1 + 2 * n0) l1 _ hy18.toC hn1' (by omega) (by omega)).mono ?_
          rintro e w19 ⟨rfl, hm19, ho19⟩
          clear p0 p1
          have K19 := (K18.below (box_below (v0 := .int .i64 t1) (v1 := .slice (some ⟨B4, 0, none⟩) n1 n1) (T := 26))).only ho19 (by intro x hx; simp at hx; rcases hx with rfl | rfl | rfl | rfl | rfl | rfl <;> simp <;> omega)
          have KB19 := (KB18.then (box_below (v0 := .int .i64 t1) (v1 := .slice (some ⟨B4, 0, none⟩) n1 n1) (T := 26)) KB18.size).trans (ho19.below (by omega))
          have z19 : w18.heap.size ≤ w19.heap.size := by have := ho19.size; simp at this; omega
          have hkk : ¬ ((1 : Int) + 2 * (n0 : Int) + 2 * (n1 : Int) < 0) := by omega
          obtain ⟨p0, p1, _, _⟩ := boxed (K19 (w11.heap.size, .int .i64 0, .slice none 0 0, 26) (by simp))
          obtain ⟨q0, q1, _, _⟩ := boxed (K19 (b5, .int .i64 0, .slice none 0 0, 26) (by simp))
          go_wp2_with fail
          refine (eqProfile_same 0 _ _ 0 0 0 [] _ (LevS.nil_ _) (LevS.nil_ _)).mono ?_
          rintro e w20 ⟨rfl, hb20⟩
          clear p0 p1 q0 q1
          have KB20 := KB19.then hb20 KB19.size
          have K20 := K19.below hb20
          have z20 := hb20.size
          obtain ⟨p0, p1, _, _⟩ := boxed (K20 (w11.heap.size, .int .i64 0, .slice none 0 0, 26) (by simp))
          go_wp2_with fail
          refine (markNilP_any 0 1 _ (by omega)).mono ?_
          rintro e w21 ⟨rfl, hb21⟩
          clear p0 p1
          have K21 := K20.below hb21
          have KB21 := KB20.then hb21 KB20.size
          obtain ⟨p0, p1, _, _⟩ := boxed (K21 (w11.heap.size, .int .i64 0, .slice none 0 0, 26) (by simp))
          go_wp2_with fail
          refine (heldNilP_any 0 1 _ (by omega)).mono ?_
          rintro e w22 ⟨rfl, hb22⟩
          clear p0 p1
          have KB22 := KB21.then hb22 KB21.size
          have K22 := K21.below hb22
          have HS2 : Hid (∀ X, Below w22.heap.size w22 X → X.cell? ⟨w.heap.size, 0, none⟩ = some (.int .i64 t0) ∧ X.cell? ⟨w.heap.size, 1, none⟩ = some (.slice a0 n0 cap0) ∧ X.cell? ⟨w.heap.size + 1, 0, none⟩ = some (.int .i64 t1) ∧ X.cell? ⟨w.heap.size + 1, 1, none⟩ = some (.slice a1 n1 cap1)) := fun X hX => by
            have k := K22.below hX
            obtain ⟨a0', a1', _, _⟩ := boxed (k (w.heap.size + 1, .int .i64 t1, .slice a1 n1 cap1, 46) (by simp))
            obtain ⟨b0', b1', _, _⟩ := boxed (k (w.heap.size, .int .i64 t0, .slice a0 n0 cap0, 46) (by simp))
            exact ⟨b0', b1', a0', a1'⟩
          obtain ⟨p0, p1, q0, q1⟩ := HS2.out _ (Below.refl _ _)
          go_upto_region 31 with fail
          go_cut [15, 16] from 94 (fun sb sf wx => ∃ bx : Nat, sb = .pointer (some ⟨bx, 0, none⟩) ∧ sf = .bool false ∧ wx.heap[bx]? = some (.cells #[.int .i64 0, .slice none 0 0] 26 (0, 0)) ∧ w22.heap.size ≤ bx ∧ Below w22.heap.size w22 wx)
          case first =>
            go_region_held3 (fun w' => w'.cell? ⟨w.heap.size, 0, none⟩ = some (.int .i64 t0) ∧ w'.cell? ⟨w.heap.size, 1, none⟩ = some (.slice a0 n0 cap0) ∧ w'.cell? ⟨w.heap.size + 1, 0, none⟩ = some (.int .i64 t1) ∧ w'.cell? ⟨w.heap.size + 1, 1, none⟩ = some (.slice a1 n1 cap1)) ((refine HS2.out _ ?_; first | with_reducible exact Dw25.alloc Dw25.size _ | with_reducible exact Dw25 | with_reducible exact Dw24.alloc Dw24.size _ | with_reducible exact Dw24 | with_reducible exact Dw23.alloc Dw23.size _ | with_reducible exact Dw23 | with_reducible exact (Below.refl _ _).drew | with_reducible exact (Below.refl _ _).drew.alloc (Nat.le_refl _) _ | with_reducible exact ((Below.refl _ _).alloc (Nat.le_refl _) _).drew | exact (Dw25.setCell (by first | exact Nat.le_refl _ | exact zw23 | exact zw24) _).setCell (by first | exact Nat.le_refl _ | exact zw23 | exact zw24) _)) (first
              | (go_at_call 29; first
                  | (have KC := Dw23; refine (toProfile_any t1 a1 n1 cap1 l1 _ (HB.out _ (KB22.then (by first | exact KC.alloc KC.size _ | exact KC) KB22.size)) hn1').mono ?_; rintro e w24 ⟨B2, rfl, hB2, hl2, hbw24⟩; have Dw24 : Below w22.heap.size w22 w24 := (by first | exact (KC.alloc KC.size _).then hbw24 (KC.alloc KC.size _).size | exact KC.then hbw24 KC.size); have LA := (by first | exact (((hl1.below box_below).below hbw24).toS L0.len hn0 L0.wf) | exact ((hl1.below hbw24).toS L0.len hn0 L0.wf)); have LB := hl2.toS L1.len hn1' L1.wf; have zw24 := Dw24.size; first | (have NB := newblk hbw24; have NC := boxed NB; have NL := lt_of_block NB) | (have NB := (hbw24.block _ (lt_of_block NB)).trans NB; have NC := boxed NB; have NL := lt_of_block NB) | skip)
                  | (refine (toProfile_any t0 a0 n0 cap0 l0 _ (HA.out _ (KB22.then (by first | exact (Below.refl _ _).drew | exact (Below.refl _ _).drew.alloc (Nat.le_refl _) _ | exact ((Below.refl _ _).alloc (Nat.le_refl _) _).drew) KB22.size)) hn0).mono ?_; rintro e w23 ⟨B1, rfl, hB1, hl1, hbw23⟩; have Dw23 : Below w22.heap.size w22 w23 := (by first | exact (Below.refl _ _).drew.trans hbw23 | exact (((Below.refl _ _).alloc (Nat.le_refl _) _).drew).then hbw23 (by simp)); have zw23 := Dw23.size; first | (have NB := newblkd hbw23; have NC := boxed NB; have NL := lt_of_block NB) | skip))
              | (go_at_call 21; first | refine (implLower_nil t0 t1 _ _ n0 n0 n1 n1 l0 l1 _ LA LB hlow).mono ?_ | refine (implLower_nil t0 t1 _ _ n0 n0 n1 n1 l0 l1 _ (LA.below box_below) (LB.below box_below) hlow).mono ?_
                 rintro e w25 ⟨rfl, hbw25⟩
                 have Dw25 : Below w22.heap.size w22 w25 := (by first | exact Dw24.then hbw25 Dw24.size | exact (Dw24.alloc Dw24.size _).then hbw25 (Dw24.alloc Dw24.size _).size)
                 have zw25 := Dw25.size
                 first | (have NB := newblk hbw25; have NC := boxed NB) | (have NB := (hbw25.block _ (lt_of_block NB)).trans NB; have NC := boxed NB) | skip))
            all_goals
              clear p0 p1 q0 q1
              go_wp2_with fail
              go_meet
              first
                | exact ⟨_, rfl, rfl, heap_alloc_new _ _, by omega, Dw25.alloc Dw25.size _⟩
                | exact ⟨_, rfl, rfl, (set2 NB _ _).1, by omega, (Dw25.setCell (by first | exact Nat.le_refl _ | exact zw23 | exact zw24) _).setCell (by first | exact Nat.le_refl _ | exact zw23 | exact zw24) _⟩
          case rest =>
            obtain ⟨b25, rfl, rfl, hbx26, hlo25, E26⟩ := hcut
            have K26 := (K22.below E26).add hbx26
            obtain ⟨p0, p1, _, _⟩ := boxed (K26 (b25, .int .i64 0, .slice none 0 0, 26) (by simp))
            obtain ⟨q0, q1, _, _⟩ := boxed (K26 (b5, .int .i64 0, .slice none 0 0, 26) (by simp))
            go_wp2_with fail
            refine (eqProfile_same 0 _ _ 0 0 0 [] _ (LevS.nil_ _) (LevS.nil_ _)).mono ?_
            rintro e w27 ⟨rfl, hb27⟩
            clear p0 p1 q0 q1
            have K27 := K26.below hb27
            obtain ⟨p0, p1, _, _⟩ := boxed (K27 (w11.heap.size, .int .i64 0, .slice none 0 0, 26) (by simp))
            go_wp2_with fail
            refine (heldNilP_any 0 1 _ (by omega)).mono ?_
            rintro e w28 ⟨rfl, hb28⟩
            go_wp2
            go_ret
            have F28 := (E26.then hb27 E26.size).then hb28 (by have := E26.size; have := hb27.size; omega)
            exact ⟨rfl, BW.trans ((V2.trans ((KB22.then F28 KB22.size).mono z2)).mono (by omega))⟩
      · go_wp2_with fail
        go_upto_region 8 with fail
        go_cut [6, 7] from 17 (fun sb sf wx => ∃ (bx gx cx : Nat), sb = .pointer (some ⟨bx, 0, none⟩) ∧ sf = .bool true ∧ wx.heap[bx]? = some (.cells #[.int .i64 (min t0 t1), .slice (some ⟨gx, 0, none⟩) (lowL l0 l1).length cx] 26 (0, 0)) ∧ LevC wx gx (lowL l0 l1).length (lowL l0 l1) ∧ gx ≠ bx ∧ (lowL l0 l1).length ≤ cx ∧ cx ≤ maxLen ∧ w2.heap.size ≤ bx ∧ w2.heap.size ≤ gx ∧ Below w2.heap.size w2 wx)
        case first =>
          go_region_held3 (fun w' => w'.cell? ⟨w.heap.size, 0, none⟩ = some (.int .i64 t0) ∧ w'.cell? ⟨w.heap.size, 1, none⟩ = some (.slice a0 n0 cap0) ∧ w'.cell? ⟨w.heap.size + 1, 0, none⟩ = some (.int .i64 t1) ∧ w'.cell? ⟨w.heap.size + 1, 1, none⟩ = some (.slice a1 n1 cap1)) ((refine HS.out _ ?_; first | with_reducible exact Dw5.alloc Dw5.size _ | with_reducible exact Dw5 | with_reducible exact Dw4.alloc Dw4.size _ | with_reducible exact Dw4 | with_reducible exact Dw3.alloc Dw3.size _ | with_reducible exact Dw3 | with_reducible exact (Below.refl _ _).drew | with_reducible exact (Below.refl _ _).drew.alloc (Nat.le_refl _) _ | with_reducible exact ((Below.refl _ _).alloc (Nat.le_refl _) _).drew | exact (Dw5.setCell (by first | exact Nat.le_refl _ | exact zw3 | exact zw4) _).setCell (by first | exact Nat.le_refl _ | exact zw3 | exact zw4) _)) (first
            | (go_at_call 29; first
                | (have KC := Dw3; refine (toProfile_any t1 a1 n1 cap1 l1 _ (HB.out _ (by first | exact KC.alloc KC.size _ | exact KC)) hn1').mono ?_; rintro e w4 ⟨B2, rfl, hB2, hl2, hbw4⟩; have Dw4 : Below w2.heap.size w2 w4 := (by first | exact (KC.alloc KC.size _).then hbw4 (KC.alloc KC.size _).size | exact KC.then hbw4 KC.size); have LA := (by first | exact (((hl1.below box_below).below hbw4).toS L0.len hn0 L0.wf) | exact ((hl1.below hbw4).toS L0.len hn0 L0.wf)); have LB := hl2.toS L1.len hn1' L1.wf; have zw4 := Dw4.size; first | (have NB := newblk hbw4; have NC := boxed NB; have NL := lt_of_block NB) | (have NB := (hbw4.block _ (lt_of_block NB)).trans NB; have NC := boxed NB; have NL := lt_of_block NB) | skip)
                | (refine (toProfile_any t0 a0 n0 cap0 l0 _ (HA.out _ (by first | exact (Below.refl _ _).drew | exact (Below.refl _ _).drew.alloc (Nat.le_refl _) _ | exact ((Below.refl _ _).alloc (Nat.le_refl _) _).drew)) hn0).mono ?_; rintro e w3 ⟨B1, rfl, hB1, hl1, hbw3⟩; have Dw3 : Below w2.heap.size w2 w3 := (by first | exact (Below.refl _ _).drew.trans hbw3 | exact (((Below.refl _ _).alloc (Nat.le_refl _) _).drew).then hbw3 (by simp)); have zw3 := Dw3.size; first | (have NB := newblkd hbw3; have NC := boxed NB; have NL := lt_of_block NB) | skip))
            | (go_at_call 22; first | refine (specLower_yes t0 t1 _ _ n0 n0 n1 n1 l0 l1 _ LA LB hlow).mono ?_ | refine (specLower_yes t0 t1 _ _ n0 n0 n1 n1 l0 l1 _ (LA.below box_below) (LB.below box_below) hlow).mono ?_
               rintro e w5 ⟨gx, cx, rfl, hgx, hgcx, hgmx, hglx, hbw5⟩
               have Dw5 : Below w2.heap.size w2 w5 := (by first | exact Dw4.then hbw5 Dw4.size | exact (Dw4.alloc Dw4.size _).then hbw5 (Dw4.alloc Dw4.size _).size)
               have zw5 := Dw5.size
               first | (have NB := newblk hbw5; have NC := boxed NB) | (have NB := (hbw5.block _ (lt_of_block NB)).trans NB; have NC := boxed NB) | skip))
          all_goals
            have hgx' := hgx
            try simp only [World.size_alloc] at hgx'
            have hgl' := hglx.lt
            clear p0 p1 p2 p3
            go_wp2_with fail
            go_meet
            first
              | exact ⟨_, gx, cx, rfl, rfl, heap_alloc_new _ _, hglx.below box_below, by omega, hgcx, hgmx, by omega, by omega, Dw5.alloc Dw5.size _⟩
              | exact ⟨_, gx, cx, rfl, rfl, (set2 NB _ _).1, hglx.blk ((set2 NB _ _).2 gx (by omega)), by omega, hgcx, hgmx, by omega, by omega, (Dw5.setCell (by first | exact Nat.le_refl _ | exact zw3 | exact zw4) _).setCell (by first | exact Nat.le_refl _ | exact zw3 | exact zw4) _⟩
        case rest =>
          rename World => w6
          obtain ⟨b5, g, c, rfl, rfl, hbx6, hgl6, hgb, hgc, hgm, hlo5, hlg5, KB6⟩ := hcut
          obtain ⟨pa, pb, hl200, hl0⟩ := lowB_t hlow
          have wfl := lowL_wf pa pb
          clear p0 p1 p2 p3
          have K6 := (K2.below KB6).add hbx6
          have z5 := KB6.size
          have gl5 := hgl6.lt
          have lb5 := lt_of_block hbx6
          obtain ⟨p0, p1, _, _⟩ := boxed (K6 (w.heap.size, .int .i64 t0, .slice a0 n0 cap0, 46) (by simp))
          go_wp2_with fail
          refine (toProfile_any t0 a0 n0 cap0 l0 _ (HA.out _ KB6) hn0).mono ?_
          rintro e w7 ⟨B3, rfl, hB3, hl3, hb7⟩
          clear p0 p1
          have hB3' : w6.heap.size ≤ B3 := hB3
          have KB7 := KB6.then hb7 KB6.size
          have KB8 : Below w2.heap.size w2 (w7.alloc (.cells #[.int .i64 t0, .slice (some ⟨B3, 0, none⟩) n0 n0] 26)) := KB7.alloc KB7.size _
          have K8 := (K6.below hb7).cons (v0 := .int .i64 t0) (v1 := .slice (some ⟨B3, 0, none⟩) n0 n0) (T := 26)
          have gl7 := hl3.lt
          have z7 : w6.heap.size ≤ w7.heap.size := hb7.size
          obtain ⟨p0, p1, _, _⟩ := boxed (K8 (w.heap.size + 1, .int .i64 t1, .slice a1 n1 cap1, 46) (by simp))
          go_wp2_with fail
          refine (toProfile_any t1 a1 n1 cap1 l1 _ (HB.out _ KB8) hn1').mono ?_
          rintro e w9 ⟨B4, rfl, hB4, hl4, hb9⟩
          clear p0 p1
          have hB4' : w7.heap.size + 1 ≤ B4 := by simpa using hB4
          have KB9 := KB8.then hb9 KB8.size
          have KB10 : Below w2.heap.size w2 (w9.alloc (.cells #[.int .i64 t1, .slice (some ⟨B4, 0, none⟩) n1 n1] 26)) := KB9.alloc KB9.size _
          have K10 := (K8.below hb9).cons (v0 := .int .i64 t1) (v1 := .slice (some ⟨B4, 0, none⟩) n1 n1) (T := 26)
          have gl9 := hl4.lt
          have z9 : w7.heap.size + 1 ≤ w9.heap.size := by simpa using hb9.size
          have hl3b := ((hl3.below box_below).below hb9).below (box_below (v0 := .int .i64 t1) (v1 := .slice (some ⟨B4, 0, none⟩) n1 n1) (T := 26))
          have hl4b := hl4.below (box_below (v0 := .int .i64 t1) (v1 := .slice (some ⟨B4, 0, none⟩) n1 n1) (T := 26))
          obtain ⟨p0, p1, _, _⟩ := boxed (K10 (w7.heap.size, .int .i64 t0, .slice (some ⟨B3, 0, none⟩) n0 n0, 26) (by simp))
          obtain ⟨q0, q1, _, _⟩ := boxed (K10 (w9.heap.size, .int .i64 t1, .slice (some ⟨B4, 0, none⟩) n1 n1, 26) (by simp))
          go_wp2_with fail
          refine (implLower_yes t0 t1 _ _ n0 n0 n1 n1 l0 l1 _ (hl3b.toS L0.len hn0 L0.wf) (hl4b.toS L1.len hn1' L1.wf) hlow).mono ?_
          rintro e w11 ⟨g2, c2, rfl, hg2, hgc2, hgm2, hgl2, hb11⟩
          clear p0 p1 q0 q1
          have hg2' : w9.heap.size + 1 ≤ g2 := by simpa using hg2
          have KB11 := KB10.then hb11 KB10.size
          have KB12 : Below w2.heap.size w2 (w11.alloc (.cells #[.int .i64 (min t0 t1), .slice (some ⟨g2, 0, none⟩) (lowL l0 l1).length c2] 26)) := KB11.alloc KB11.size _
          have K12 := (K10.below hb11).cons (v0 := .int .i64 (min t0 t1)) (v1 := .slice (some ⟨g2, 0, none⟩) (lowL l0 l1).length c2) (T := 26)
          have gl11 := hgl2.lt
          have z11 : w9.heap.size + 1 ≤ w11.heap.size := by simpa using hb11.size
          have Y12 : Below w6.heap.size w6 (w11.alloc (.cells #[.int .i64 (min t0 t1), .slice (some ⟨g2, 0, none⟩) (lowL l0 l1).length c2] 26)) := ((((hb7.then box_below hb7.size).then hb9 (by first | omega | (simp; omega))).then box_below (by first | omega | (simp; omega))).then hb11 (by first | omega | (simp; omega))).then box_below (by first | omega | (simp; omega))
          have hgl12 := hgl6.below Y12
          have hl3c := (hl3b.below hb11).below (box_below (v0 := .int .i64 (min t0 t1)) (v1 := .slice (some ⟨g2, 0, none⟩) (lowL l0 l1).length c2) (T := 26))
          have hl4c := (hl4b.below hb11).below (box_below (v0 := .int .i64 (min t0 t1)) (v1 := .slice (some ⟨g2, 0, none⟩) (lowL l0 l1).length c2) (T := 26))
          have hgl2c := hgl2.below (box_below (v0 := .int .i64 (min t0 t1)) (v1 := .slice (some ⟨g2, 0, none⟩) (lowL l0 l1).length c2) (T := 26))
          obtain ⟨p0, p1, _, _⟩ := boxed (K12 (w11.heap.size, .int .i64 (min t0 t1), .slice (some ⟨g2, 0, none⟩) (lowL l0 l1).length c2, 26) (by simp))
          obtain ⟨q0, q1, _, _⟩ := boxed (K12 (b5, .int .i64 (min t0 t1), .slice (some ⟨g, 0, none⟩) (lowL l0 l1).length c, 26) (by simp))
          go_wp2_with fail
          refine (eqProfile_same (min t0 t1) _ _ (lowL l0 l1).length c2 c (lowL l0 l1) _ (hgl2c.toS rfl hgc2 hgm2 wfl) (hgl12.toS rfl hgc hgm wfl)).mono ?_
          rintro e w13 ⟨rfl, hb13⟩
          clear p0 p1 q0 q1
          have KB13 := KB12.then hb13 KB12.size
          have K13 := K12.below hb13
          have hx13 := hl3c.below hb13
          have hy13 := hl4c.below hb13
          have hgl13 := hgl12.below hb13
          have hg13 := hgl2c.below hb13
          have HT : Hid (∀ X, Below w13.heap.size w13 X → X.cell? ⟨w.heap.size, 0, none⟩ = some (.int .i64 t0) ∧ X.cell? ⟨w.heap.size, 1, none⟩ = some (.slice a0 n0 cap0) ∧ X.cell? ⟨w7.heap.size, 0, none⟩ = some (.int .i64 t0) ∧ X.cell? ⟨w7.heap.size, 1, none⟩ = some (.slice (some ⟨B3, 0, none⟩) n0 n0)) := fun X hX => by
            have k := K13.below hX
            obtain ⟨a0', a1', _, _⟩ := boxed (k (w.heap.size, .int .i64 t0, .slice a0 n0 cap0, 46) (by simp))
            obtain ⟨b0', b1', _, _⟩ := boxed (k (w7.heap.size, .int .i64 t0, .slice (some ⟨B3, 0, none⟩) n0 n0, 26) (by simp))
            exact ⟨a0', a1', b0', b1'⟩
          obtain ⟨p0, p1, q0, q1⟩ := HT.out _ (Below.refl _ _)
          go_wp2_with fail
          go_region_held3 (fun w' => w'.cell? ⟨w.heap.size, 0, none⟩ = some (.int .i64 t0) ∧ w'.cell? ⟨w.heap.size, 1, none⟩ = some (.slice a0 n0 cap0) ∧ w'.cell? ⟨w7.heap.size, 0, none⟩ = some (.int .i64 t0) ∧ w'.cell? ⟨w7.heap.size, 1, none⟩ = some (.slice (some ⟨B3, 0, none⟩) n0 n0)) (first | exact HT.out _ Dw15 | exact HT.out _ Dw14 | exact HT.out _ (Below.refl _ _).drew | go_keep) (first
            | (go_at_call 29; refine (toProfile_any t0 a0 n0 cap0 l0 _ (HA.out _ (KB13.drew)) hn0).mono ?_; rintro e w14 ⟨BBx, rfl, hBBx, hlbx, hbbx⟩; have Dw14 := (Below.refl w13.heap.size w13).drew.trans hbbx)
            | (go_at_call 30; refine (eqProfile_same t0 _ _ n0 n0 n0 l0 _ ((hx13.below Dw14).toS L0.len hn0 L0.wf) (hlbx.toS L0.len hn0 L0.wf)).mono ?_; rintro e w15 ⟨rfl, hbcx⟩; have Dw15 := Dw14.then hbcx Dw14.size))
          clear p0 p1 q0 q1 HT
          have KB15 := KB13.then Dw15 KB13.size
          have K15 := K13.below Dw15
          have hx15 := hx13.below Dw15
          have hy15 := hy13.below Dw15
          have hgl15 := hgl13.below Dw15
          have hg15 := hg13.below Dw15
          have HT : Hid (∀ X, Below w15.heap.size w15 X → X.cell? ⟨w.heap.size + 1, 0, none⟩ = some (.int .i64 t1) ∧ X.cell? ⟨w.heap.size + 1, 1, none⟩ = some (.slice a1 n1 cap1) ∧ X.cell? ⟨w9.heap.size, 0, none⟩ = some (.int .i64 t1) ∧ X.cell? ⟨w9.heap.size, 1, none⟩ = some (.slice (some ⟨B4, 0, none⟩) n1 n1)) := fun X hX => by
            have k := K15.below hX
            obtain ⟨a0', a1', _, _⟩ := boxed (k (w.heap.size + 1, .int .i64 t1, .slice a1 n1 cap1, 46) (by simp))
            obtain ⟨b0', b1', _, _⟩ := boxed (k (w9.heap.size, .int .i64 t1, .slice (some ⟨B4, 0, none⟩) n1 n1, 26) (by simp))
            exact ⟨a0', a1', b0', b1'⟩
          obtain ⟨p0, p1, q0, q1⟩ := HT.out _ (Below.refl _ _)
          go_wp2_with fail
          go_region_held3 (fun w' => w'.cell? ⟨w.heap.size + 1, 0, none⟩ = some (.int .i64 t1) ∧ w'.cell? ⟨w.heap.size + 1, 1, none⟩ = some (.slice a1 n1 cap1) ∧ w'.cell? ⟨w9.heap.size, 0, none⟩ = some (.int .i64 t1) ∧ w'.cell? ⟨w9.heap.size, 1, none⟩ = some (.slice (some ⟨B4, 0, none⟩) n1 n1)) (first | exact HT.out _ Dw17 | exact HT.out _ Dw16 | exact HT.out _ (Below.refl _ _).drew | go_keep) (first
            | (go_at_call 29; refine (toProfile_any t1 a1 n1 cap1 l1 _ (HB.out _ (KB15.drew)) hn1').mono ?_; rintro e w16 ⟨BBy, rfl, hBBy, hlby, hbby⟩; have Dw16 := (Below.refl w15.heap.size w15).drew.trans hbby)
            | (go_at_call 30; refine (eqProfile_same t1 _ _ n1 n1 n1 l1 _ ((hy15.below Dw16).toS L1.len hn1' L1.wf) (hlby.toS L1.len hn1' L1.wf)).mono ?_; rintro e w17 ⟨rfl, hbcy⟩; have Dw17 := Dw16.then hbcy Dw16.size))
          clear p0 p1 q0 q1 HT
          have KB17 := KB15.then Dw17 KB15.size
          have K17 := K15.below Dw17
          have hx17 := hx15.below Dw17
          have hy17 := hy15.below Dw17
          have hgl17 := hgl15.below Dw17
          have hg17 := hg15.below Dw17
          have z13 : w11.heap.size + 1 ≤ w13.heap.size := by simpa using hb13.size
          have z15 := Dw15.size
          have z17 := Dw17.size
          obtain ⟨p0, p1, _, _⟩ := boxed (K17 (w7.heap.size, .int .i64 t0, .slice (some ⟨B3, 0, none⟩) n0 n0, 26) (by simp))
          go_wp2_with fail
          refine (markProfileC_any t0 B3 n0 n0 1 l0 _ hx17.toC hn0 (by omega) (by omega)).mono ?_
          rintro e w18 ⟨rfl, hm18, ho18⟩
          clear p0 p1
          have K18 := (K17.below (box_below (v0 := .int .i64 t0) (v1 := .slice (some ⟨B3, 0, none⟩) n0 n0) (T := 26))).only ho18 (by intro x hx; simp at hx; rcases hx with rfl | rfl | rfl | rfl | rfl | rfl <;> simp <;> omega)
          have KB18 := (KB17.then (box_below (v0 := .int .i64 t0) (v1 := .slice (some ⟨B3, 0, none⟩) n0 n0) (T := 26)) KB17.size).trans (ho18.below (by omega))
          have z18 : w17.heap.size ≤ w18.heap.size := by have := ho18.size; simp at this; omega
          have hy18 := (hy17.below (box_below (v0 := .int .i64 t0) (v1 := .slice (some ⟨B3, 0, none⟩) n0 n0) (T := 26))).only ho18 (by omega)
          have hgl18 := (hgl17.below (box_below (v0 := .int .i64 t0) (v1 := .slice (some ⟨B3, 0, none⟩) n0 n0) (T := 26))).only ho18 (by omega)
          have hg18 := (hg17.below (box_below (v0 := .int .i64 t0) (v1 := .slice (some ⟨B3, 0, none⟩) n0 n0) (T := 26))).only ho18 (by omega)
          obtain ⟨p0, p1, _, _⟩ := boxed (K18 (w9.heap.size, .int .i64 t1, .slice (some ⟨B4, 0, none⟩) n1 n1, 26) (by simp))
          go_wp2_with fail
          refine (markProfileC_any t1 B4 n1 n1 (1 + 2 * n0) l1 _ hy18.toC hn1' (by omega) (by omega)).mono ?_
          rintro e w19 ⟨rfl, hm19, ho19⟩
          clear p0 p1
          have K19 := (K18.below (box_below (v0 := .int .i64 t1) (v1 := .slice (some ⟨B4, 0, none⟩) n1 n1) (T := 26))).only ho19 (by intro x hx; simp at hx; rcases hx with rfl | rfl | rfl | rfl | rfl | rfl <;> simp <;> omega)
          have KB19 := (KB18.then (box_below (v0 := .int .i64 t1) (v1 := .slice (some ⟨B4, 0, none⟩) n1 n1) (T := 26)) KB18.size).trans (ho19.below (by omega))
          have z19 : w18.heap.size ≤ w19.heap.size := by have := ho19.size; simp at this; omega
          have hgl19 := (hgl18.below (box_below (v0 := .int .i64 t1) (v1 := .slice (some ⟨B4, 0, none⟩) n1 n1) (T := 26))).only ho19 (by omega)
          have hg19 := (hg18.below (box_below (v0 := .int .i64 t1) (v1 := .slice (some ⟨B4, 0, none⟩) n1 n1) (T := 26))).only ho19 (by omega)
          have hkk : ¬ ((1 : Int) + 2 * (n0 : Int) + 2 * (n1 : Int) < 0) := by omega
          obtain ⟨p0, p1, _, _⟩ := boxed (K19 (w11.heap.size, .int .i64 (min t0 t1), .slice (some ⟨g2, 0, none⟩) (lowL l0 l1).length c2, 26) (by simp))
          obtain ⟨q0, q1, _, _⟩ := boxed (K19 (b5, .int .i64 (min t0 t1), .slice (some ⟨g, 0, none⟩) (lowL l0 l1).length c, 26) (by simp))
          go_wp2_with fail
          refine (eqProfile_same (min t0 t1) _ _ (lowL l0 l1).length c2 c (lowL l0 l1) _ (hg19.toS rfl hgc2 hgm2 wfl) (hgl19.toS rfl hgc hgm wfl)).mono ?_
          rintro e w20 ⟨rfl, hb20⟩
          clear p0 p1 q0 q1
          have KB20 := KB19.then hb20 KB19.size
          have K20 := K19.below hb20
          have hgl20 := hgl19.below hb20
          have hg20 := hg19.below hb20
          have z20 := hb20.size
          obtain ⟨p0, p1, _, _⟩ := boxed (K20 (w11.heap.size, .int .i64 (min t0 t1), .slice (some ⟨g2, 0, none⟩) (lowL l0 l1).length c2, 26) (by simp))
          go_wp2_with fail
          refine (markProfileC_any (min t0 t1) g2 (lowL l0 l1).length c2 1 (lowL l0 l1) _ hg20 (by omega) (by omega) (by omega)).mono ?_
          rintro e w21 ⟨rfl, hm21, ho21⟩
          clear p0 p1
          have K21 := (K20.below (box_below (v0 := .int .i64 (min t0 t1)) (v1 := .slice (some ⟨g2, 0, none⟩) (lowL l0 l1).length c2) (T := 26))).only ho21 (by intro x hx; simp at hx; rcases hx with rfl | rfl | rfl | rfl | rfl | rfl <;> simp <;> omega)
          have KB21 := (KB20.then (box_below (v0 := .int .i64 (min t0 t1)) (v1 := .slice (some ⟨g2, 0, none⟩) (lowL l0 l1).length c2) (T := 26)) KB20.size).trans (ho21.below (by omega))
          have hgl21 := (hgl20.below (box_below (v0 := .int .i64 (min t0 t1)) (v1 := .slice (some ⟨g2, 0, none⟩) (lowL l0 l1).length c2) (T := 26))).only ho21 (by omega)
          obtain ⟨p0, p1, _, _⟩ := boxed (K21 (w11.heap.size, .int .i64 (min t0 t1), .slice (some ⟨g2, 0, none⟩) (lowL l0 l1).length c2, 26) (by simp))
          go_wp2_with fail
          refine (heldProfileC_any (min t0 t1) g2 (lowL l0 l1).length c2 1 _ hm21 (by omega) (by omega) (by omega)).mono ?_
          rintro e w22 ⟨rfl, hb22⟩
          clear p0 p1
          have KB22 := KB21.then hb22 KB21.size
          have K22 := K21.below hb22
          have hgl22 := hgl21.below hb22
          have hm22 := hm21.below hb22
          have HS2 : Hid (∀ X, Below w22.heap.size w22 X → X.cell? ⟨w.heap.size, 0, none⟩ = some (.int .i64 t0) ∧ X.cell? ⟨w.heap.size, 1, none⟩ = some (.slice a0 n0 cap0) ∧ X.cell? ⟨w.heap.size + 1, 0, none⟩ = some (.int .i64 t1) ∧ X.cell? ⟨w.heap.size + 1, 1, none⟩ = some (.slice a1 n1 cap1)) := fun X hX => by
            have k := K22.below hX
            obtain ⟨a0', a1', _, _⟩ := boxed (k (w.heap.size + 1, .int .i64 t1, .slice a1 n1 cap1, 46) (by simp))
            obtain ⟨b0', b1', _, _⟩ := boxed (k (w.heap.size, .int .i64 t0, .slice a0 n0 cap0, 46) (by simp))
            exact ⟨b0', b1', a0', a1'⟩
          obtain ⟨p0, p1, q0, q1⟩ := HS2.out _ (Below.refl _ _)
          go_upto_region 31 with fail
          go_cut [15, 16] from 94 (fun sb sf wx => ∃ (bx gx cx : Nat), sb = .pointer (some ⟨bx, 0, none⟩) ∧ sf = .bool true ∧ wx.heap[bx]? = some (.cells #[.int .i64 (min t0 t1), .slice (some ⟨gx, 0, none⟩) (lowL l0 l1).length cx] 26 (0, 0)) ∧ LevC wx gx (lowL l0 l1).length (lowL l0 l1) ∧ gx ≠ bx ∧ (lowL l0 l1).length ≤ cx ∧ cx ≤ maxLen ∧ w22.heap.size ≤ bx ∧ w22.heap.size ≤ gx ∧ Below w22.heap.size w22 wx)
          case first =>
            go_region_held3 (fun w' => w'.cell? ⟨w.heap.size, 0, none⟩ = some (.int .i64 t0) ∧ w'.cell? ⟨w.heap.size, 1, none⟩ = some (.slice a0 n0 cap0) ∧ w'.cell? ⟨w.heap.size + 1, 0, none⟩ = some (.int .i64 t1) ∧ w'.cell? ⟨w.heap.size + 1, 1, none⟩ = some (.slice a1 n1 cap1)) ((refine HS2.out _ ?_; first | with_reducible exact Dw25.alloc Dw25.size _ | with_reducible exact Dw25 | with_reducible exact Dw24.alloc Dw24.size _ | with_reducible exact Dw24 | with_reducible exact Dw23.alloc Dw23.size _ | with_reducible exact Dw23 | with_reducible exact (Below.refl _ _).drew | with_reducible exact (Below.refl _ _).drew.alloc (Nat.le_refl _) _ | with_reducible exact ((Below.refl _ _).alloc (Nat.le_refl _) _).drew | exact (Dw25.setCell (by first | exact Nat.le_refl _ | exact zw23 | exact zw24) _).setCell (by first | exact Nat.le_refl _ | exact zw23 | exact zw24) _)) (first
              | (go_at_call 29; first
                  | (have KC := Dw23; refine (toProfile_any t1 a1 n1 cap1 l1 _ (HB.out _ (KB22.then (by first | exact KC.alloc KC.size _ | exact KC) KB22.size)) hn1').mono ?_; rintro e w24 ⟨B2, rfl, hB2, hl2, hbw24⟩; have Dw24 : Below w22.heap.size w22 w24 := (by first | exact (KC.alloc KC.size _).then hbw24 (KC.alloc KC.size _).size | exact KC.then hbw24 KC.size); have LA := (by first | exact (((hl1.below box_below).below hbw24).toS L0.len hn0 L0.wf) | exact ((hl1.below hbw24).toS L0.len hn0 L0.wf)); have LB := hl2.toS L1.len hn1' L1.wf; have zw24 := Dw24.size; first | (have NB := newblk hbw24; have NC := boxed NB; have NL := lt_of_block NB) | (have NB := (hbw24.block _ (lt_of_block NB)).trans NB; have NC := boxed NB; have NL := lt_of_block NB) | skip)
                  | (refine (toProfile_any t0 a0 n0 cap0 l0 _ (HA.out _ (KB22.then (by first | exact (Below.refl _ _).drew | exact (Below.refl _ _).drew.alloc (Nat.le_refl _) _ | exact ((Below.refl _ _).alloc (Nat.le_refl _) _).drew) KB22.size)) hn0).mono ?_; rintro e w23 ⟨B1, rfl, hB1, hl1, hbw23⟩; have Dw23 : Below w22.heap.size w22 w23 := (by first | exact (Below.refl _ _).drew.trans hbw23 | exact (((Below.refl _ _).alloc (Nat.le_refl _) _).drew).then hbw23 (by simp)); have zw23 := Dw23.size; first | (have NB := newblkd hbw23; have NC := boxed NB; have NL := lt_of_block NB) | skip))
              | (go_at_call 21; first | refine (implLower_yes t0 t1 _ _ n0 n0 n1 n1 l0 l1 _ LA LB hlow).mono ?_ | refine (implLower_yes t0 t1 _ _ n0 n0 n1 n1 l0 l1 _ (LA.below box_below) (LB.below box_below) hlow).mono ?_
                 rintro e w25 ⟨gx, cx, rfl, hgx, hgcx, hgmx, hglx, hbw25⟩
                 have Dw25 : Below w22.heap.size w22 w25 := (by first | exact Dw24.then hbw25 Dw24.size | exact (Dw24.alloc Dw24.size _).then hbw25 (Dw24.alloc Dw24.size _).size)
                 have zw25 := Dw25.size
                 first | (have NB := newblk hbw25; have NC := boxed NB) | (have NB := (hbw25.block _ (lt_of_block NB)).trans NB; have NC := boxed NB) | skip))
            all_goals
              have hgx' := hgx
              try simp only [World.size_alloc] at hgx'
              have hgl' := hglx.lt
              clear p0 p1 q0 q1
              go_wp2_with fail
              go_meet
              first
                | exact ⟨_, gx, cx, rfl, rfl, heap_alloc_new _ _, hglx.below box_below, by omega, hgcx, hgmx, by omega, by omega, Dw25.alloc Dw25.size _⟩
                | exact ⟨_, gx, cx, rfl, rfl, (set2 NB _ _).1, hglx.blk ((set2 NB _ _).2 gx (by omega)), by omega, hgcx, hgmx, by omega, by omega, (Dw25.setCell (by first | exact Nat.le_refl _ | exact zw23 | exact zw24) _).setCell (by first | exact Nat.le_refl _ | exact zw23 | exact zw24) _⟩
          case rest =>
            obtain ⟨b25, g3, c3, rfl, rfl, hbx26, hgl3b, hgb3, hgc3, hgm3, hlo25, hlg25, E26⟩ := hcut
            have K26 := (K22.below E26).add hbx26
            have hgl26 := hgl22.below E26
            have hm26 := hm22.below E26
            obtain ⟨p0, p1, _, _⟩ := boxed (K26 (b25, .int .i64 (min t0 t1), .slice (some ⟨g3, 0, none⟩) (lowL l0 l1).length c3, 26) (by simp))
            obtain ⟨q0, q1, _, _⟩ := boxed (K26 (b5, .int .i64 (min t0 t1), .slice (some ⟨g, 0, none⟩) (lowL l0 l1).length c, 26) (by simp))
            go_wp2_with fail
            refine (eqProfile_same (min t0 t1) _ _ (lowL l0 l1).length c3 c (lowL l0 l1) _ (hgl3b.toS rfl hgc3 hgm3 wfl) (hgl26.toS rfl hgc hgm wfl)).mono ?_
            rintro e w27 ⟨rfl, hb27⟩
            clear p0 p1 q0 q1
            have K27 := K26.below hb27
            have hm27 := hm26.below hb27
            obtain ⟨p0, p1, _, _⟩ := boxed (K27 (w11.heap.size, .int .i64 (min t0 t1), .slice (some ⟨g2, 0, none⟩) (lowL l0 l1).length c2, 26) (by simp))
            go_wp2_with fail
            refine (heldProfileC_any (min t0 t1) g2 (lowL l0 l1).length c2 1 _ hm27 (by omega) (by omega) (by omega)).mono ?_
            rintro e w28 ⟨rfl, hb28⟩
            go_wp2
            go_ret
            have F28 := (E26.then hb27 E26.size).then hb28 (by have := E26.size; have := hb27.size; omega)
            exact ⟨rfl, BW.trans ((V2.trans ((KB22.then F28 KB22.size).mono z2)).mono (by omega))⟩
    · go_enter Try.func6, Try.ntmps6
      go_wp2_with fail
      rw [← HWE.out]
      refine (szProfile_any t0 a0 n0 cap0 _ _ (by omega) (by omega) (by omega)).mono ?_
      rw [if_neg (by omega)]
      rintro e w1 ⟨rfl, U1⟩
      have K1 := K0.below U1
      obtain ⟨p0, p1, _, _⟩ := boxed (K1 (w.heap.size + 1, .int .i64 t1, .slice a1 n1 cap1, 46) (by simp))
      obtain ⟨q0, q1, _, _⟩ := boxed (K1 (w.heap.size, .int .i64 t0, .slice a0 n0 cap0, 46) (by simp))
      go_wp2_with fail
      refine (szProfile_any t1 a1 n1 cap1 _ _ (by omega) (by omega) (by omega)).mono ?_
      rw [if_pos (by omega)]
      rintro e w2 ⟨rfl, U2⟩
      have V2 := U1.then U2 U1.size
      go_wp2
      go_ret
      exact ⟨rfl, BW.trans (V2.mono (by omega))⟩
  · go_enter Try.func6, Try.ntmps6
    go_wp2_with fail
    rw [← HWE.out]
    refine (szProfile_any t0 a0 n0 cap0 _ _ (by omega) (by omega) (by omega)).mono ?_
    rw [if_pos (by omega)]
    rintro e w1 ⟨rfl, U1⟩
    go_wp2
    go_ret
    exact ⟨rfl, BW.trans (U1.mono (by omega))⟩

set_option maxRecDepth 100000 in
theorem lifted (os : Os) (started : os.Started) (H : Type) (enc : TypeId × Value → H) :
    ReturnsInHanded {} Try.checked os 6 .any (Rows.fnExactLowerSpec.pre6 enc Try.prog Try.f6 Rows.fnExactLowerRow.domain false) (Rows.fnExactLowerSpec.post enc Try.prog Try.f6 false true false false) := by
  refine returnsInHanded_of_change (C := Try.checked) own started (by kernel_rfl) Try.func6
    (ChangeSpec.witness6 (enc := enc) (C := Try.checked) false ⟨#[], #[.agg #[.int .i64 0, .slice none 0 0], .agg #[.int .i64 0, .slice none 0 0]], []⟩ 8 (by kernel_rfl) (by kernel_rfl) (by kernel_rfl) (by kernel_rfl)) ?_
  intro W base args ds gs before hval0 hW hcnd _
  have hval : ∀ (j : Nat) t v, Try.f6.params[j]? = some t → args[j]? = some v → Value.okWide Try.prog W .any base t v := hval0
  have hW' := hW
  obtain ⟨p, q, hA0, hV, rfl, hfz, hnd⟩ := hW
  have hA : DataW.TrodAll enc Try.prog W 0 (fun _ => true) true Try.f6.params.toList args.toList ds p := hA0
  rw [Try.params6] at hA hval
  obtain ⟨v0, vs0, d0, ds0, p0, q0, hargs, rfl, rfl, h0, r0⟩ := trodAll_cons hA
  obtain ⟨v1, vs1, d1, ds1, p1, q1, rfl, rfl, rfl, h1, r1⟩ := trodAll_cons r0
  obtain ⟨rfl, rfl, rfl⟩ := trodAll_nil r1
  obtain rfl : args = #[v0, v1] := by cases args; simp_all
  obtain ⟨rfl, rfl⟩ := trodVars_none hV
  have k0 := h0
  have lt0 : ∀ x ∈ p0, x.block < W.heap.size := by obtain ⟨m, hm⟩ := k0; exact DataW.trod_lt m _ _ _ hm
  obtain ⟨t0, a0, n0, cap0, l0, rfl, w0, L0⟩ := open_profile (hval 0 46 v0 rfl rfl) h0
  have k1 := h1
  have lt1 : ∀ x ∈ p1, x.block < W.heap.size := by obtain ⟨m, hm⟩ := k1; exact DataW.trod_lt m _ _ _ hm
  obtain ⟨t1, a1, n1, cap1, l1, rfl, w1, L1⟩ := open_profile (hval 1 46 v1 rfl rfl) h1
  clear hA0 hval0
  refine (walk t0 a0 n0 cap0 l0 t1 a1 n1 cap1 l1 W w0 L0 w1 L1).mono fun e W' ⟨he, bel⟩ => ?_
  subst he
  exact ⟨_, rfl, _, _, _, [], _, [], hW', trodAll_mk1 (shut_bool Try.underlying4 _), (trodAll_cons_mk (Below.trod laidOut (by kernel_rfl) (of_decide_eq_true (by kernel_rfl)) k0 bel lt0) (trodAll_cons_mk (Below.trod laidOut (by kernel_rfl) (of_decide_eq_true (by kernel_rfl)) k1 bel lt1) trodAll_mk0)), rfl, bel.frame _, fun h => by cases h⟩

theorem over : Rows.fnExactLowerRow.holds Try.pinned (OpenSpec.ofChange Rows.fnExactLowerSpec) :=
  OpenClaim.holds_of_wide 6 Try.f6 rfl rfl rfl rfl rfl rfl rfl ⟨rfl, rfl, rfl, rfl, rfl⟩ rfl rfl rfl rfl rfl (by kernel_rfl) Try.func6 (by kernel_rfl)
    (of_decide_eq_true (by kernel_rfl)) (by unfold Func.isWrapper; first | (rw [if_pos (by decide +kernel)]; kernel_rfl) | (rw [if_neg (by decide +kernel)]; exact ⟨rfl, rfl⟩))
    (fun os started H enc _ => lifted os started H enc)

/-- the given statement -/
theorem proved : Rows.FnExactLowerSaid := over
#print axioms proved
end Go.Proofs.Ytnenfjddkoefeaa.fnExactLower
