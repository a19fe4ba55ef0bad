/- The draw of a reservation; of an area. -/
import Derived.Test.YtdaedggmeoganaaProfDraw4
import Derived.Deep.Cut
namespace Go.Proofs.Ytdaedggmeoganaa
open Go.RowKit

def oddN : Array Value := #[.int .i64 0, .int .i64 1, .int .i64 2, .int .i64 3, .int .i64 1, .int .i64 2, .int .i64 (-1), .int .i64 1001]
theorem oddN_at : ∀ k, k < 8 → ∃ v : Int, oddN[k]? = some (.int .i64 v) ∧ (-1 ≤ v ∧ v ≤ 1001)
  | 0, _ => ⟨_, rfl, by omega⟩
  | 1, _ => ⟨_, rfl, by omega⟩
  | 2, _ => ⟨_, rfl, by omega⟩
  | 3, _ => ⟨_, rfl, by omega⟩
  | 4, _ => ⟨_, rfl, by omega⟩
  | 5, _ => ⟨_, rfl, by omega⟩
  | 6, _ => ⟨_, rfl, by omega⟩
  | 7, _ => ⟨_, rfl, by omega⟩
  | k + 8, h => by omega

theorem row_set (wz : World) (R kk : Nat) (a b : Value) {u : Value} (h : oddN[kk]? = some u) : (((wz.setCell ⟨R, 0, none⟩ a).setCell ⟨R, 1, none⟩ b).alloc (.cells oddN 2)).cell? ⟨wz.heap.size, kk, none⟩ = some u := by
  have e := heap_alloc_new ((wz.setCell ⟨R, 0, none⟩ a).setCell ⟨R, 1, none⟩ b) (.cells oddN 2)
  rw [show ((wz.setCell ⟨R, 0, none⟩ a).setCell ⟨R, 1, none⟩ b).heap.size = wz.heap.size by simp [World.setCell]] at e
  generalize ((wz.setCell ⟨R, 0, none⟩ a).setCell ⟨R, 1, none⟩ b).alloc (.cells oddN 2) = Q at e ⊢
  simp [World.cell?, e, h]

set_option maxRecDepth 8000 in
set_option maxHeartbeats 2000000 in
theorem drawReserve_any (a : Option Addr) (n cap : Nat) (zs : List Int) (w : World) (h : IsBytes w a n cap zs) (hn : n ≤ 4096) :
    Calls Try.prog 26 #[.slice a n cap] w fun e w' => ∃ (T : Int) (v : Option Addr) (m c' : Nat) (ls : List Lev) (x y k : Int), e = .returned (.tuple #[.agg #[.int .i64 T, .slice v m c'], .int .i64 x, .int .i64 y, .int .i64 k]) ∧ LevS w' v m c' ls ∧ (-1 ≤ T ∧ T ≤ 1001) ∧ (-9223372036854775808 ≤ x ∧ x ≤ 9223372036854775807) ∧ (-9223372036854775808 ≤ y ∧ y ≤ 9223372036854775807) ∧ (-1 ≤ k ∧ k ≤ 1001) ∧ Below w.heap.size w w' := by
  have hbx : Below w.heap.size w (w.alloc (.cells #[.int .i64 0, .slice none 0 0] 26)) := box_below0
  go_enter Try.func26, Try.ntmps26
  go_wp2_with fail
  refine (l1New_any a n cap zs _ (h.below hbx) hn).mono ?_
  rintro e w1 ⟨cb, rfl, hcb, c1, U1⟩
  have hcb2 : w.heap.size + 1 ≤ cb := by simpa using hcb
  have bR1 : w1.heap[w.heap.size]? = some (.cells #[.int .i64 0, .slice none 0 0] 26 (0, 0)) := (U1.block _ (by simp)).trans (heap_alloc_new _ _)
  have V1 := hbx.then U1 hbx.size
  have l1 := c1.lt
  go_wp2_with fail
  refine (l2DrawAny_any cb a n cap zs _ c1).mono ?_
  rintro e w2 ⟨T, v, m, c', ls, rfl, hL, hv, hT, hm, c2, b2⟩
  have z1 := b2.size
  have bR2 := (b2.block _ (lt_of_block bR1) (by omega)).trans bR1
  have V2 : Below w.heap.size w w2 := V1.trans (b2.below (by omega) V1.size)
  have lR2 := lt_of_block bR2
  have H2 : DrawB w cb w2.heap.size T v m c' ls a n cap zs (w2.alloc (.cells #[.int .i64 T, .slice v m c'] 26)) :=
    ⟨(Below.heap_alloc _ _ _ lR2).trans bR2, heap_alloc_new _ _, hL.below box_below0, fun h0 b off e => by
      have h1 := hv b off e
      obtain ⟨b', off', e', h2, _⟩ := hL.at_ h0
      rw [e] at e'; cases e'
      exact ⟨by omega, by omega, by omega⟩, hT, hm, c2.but box_below0 c2.lt, V2.alloc V2.size _, ⟨by omega, by have := c2.lt; omega⟩⟩
  clear hL hv c1 c2 b2 U1 bR1 bR2 V1 V2 hcb hbx
  go_wp2_with fail
  generalize hP : w2.heap.size = P at H2 ⊢
  clear hP
  refine (l1DrawTime_any cb a n cap zs _ H2.cur).mono ?_
  rintro e w3 ⟨x, rfl, xb, k3, b3⟩
  have H3 := H2.step k3 b3
  clear H2 k3 b3
  go_wp2_with fail
  refine (l1DrawTime_any cb a n cap zs _ H3.cur).mono ?_
  rintro e w4 ⟨y, rfl, yb, k4, b4⟩
  have H4 := H3.step k4 b4
  clear H3 k4 b4
  go_wp2_with fail
  refine (l1Once_any cb a n cap zs 2 _ H4.cur (by omega) (by omega)).mono ?_
  rintro e w5 ⟨b, rfl, k5, b5⟩
  have H5 := H4.step k5 b5
  clear H4 k5 b5
  cases b with
  | false =>
    obtain ⟨p0, p1, _, _⟩ := boxed H5.pb
    have hne : P ≠ w.heap.size := by have := H5.ne; omega
    have hne2 : w.heap.size ≠ P := by omega
    have K5a := H5.below (Below.refl _ _).drew
    have K5b := H5.below ((Below.refl _ _).alloc (Nat.le_refl _) (.cells oddN 2)).drew
    obtain ⟨pa0, pa1, _, _⟩ := boxed K5b.pb
    have LP := lt_of_block H5.pb
    have hL1 : w5.heap.size ≠ w.heap.size := by have := H5.ne; omega
    have hL2 : w.heap.size ≠ w5.heap.size := by omega
    unfold oddN at K5b pa0 pa1
    go_wp2_with fail
    go_region_with ((go_at_call 36; first
      | (refine (l1Below_any cb a n cap zs 8 _ K5a.cur (by omega) (by omega)).mono ?_
         rintro e wz ⟨z, rfl, z0, z1, kz, bz⟩
         obtain ⟨kk, rfl⟩ := Int.eq_ofNat_of_zero_le z0
         obtain ⟨val, hval, bval⟩ := oddN_at kk (by omega)
         have k8 : kk < 8 := by omega
         have hL3 : wz.heap.size ≠ w.heap.size := by have := bz.size; have e : w5.drew.heap.size = w5.heap.size := rfl; have := H5.ne; omega
         have hL4 : w.heap.size ≠ wz.heap.size := by omega
         have HZ0 := K5a.step kz bz
         obtain ⟨s0, s1, _, _⟩ := boxed HZ0.pb
         have HZ := HZ0.below (box_below0 (o := (.cells oddN 2)))
         have q0 : (wz.alloc (.cells oddN 2)).cell? ⟨wz.heap.size, kk, none⟩ = some (.int .i64 val) := row_at (But.refl cb (wz.alloc (.cells oddN 2))) (by have := HZ0.ne; have := lt_of_block HZ0.pb; omega) hval
         obtain ⟨t0, t1, _, _⟩ := boxed HZ.pb
         obtain ⟨r0, r1, g0, g1⟩ := boxed HZ.rb
         have HF : Hid _ := HZ.fin
         obtain ⟨rz0, rz1, gz0, gz1⟩ := boxed HZ0.rb
         have q3 := row_set wz w.heap.size kk (.int .i64 T) (.slice v m c') hval
         have HF3 : Hid ((((wz.setCell ⟨w.heap.size, 0, none⟩ (.int .i64 T)).setCell ⟨w.heap.size, 1, none⟩ (.slice v m c')).alloc (.cells oddN 2)).heap[w.heap.size]? = some (.cells #[.int .i64 T, .slice v m c'] 26 (0, 0)) ∧ LevS (((wz.setCell ⟨w.heap.size, 0, none⟩ (.int .i64 T)).setCell ⟨w.heap.size, 1, none⟩ (.slice v m c')).alloc (.cells oddN 2)) v m c' ls ∧ Below w.heap.size w (((wz.setCell ⟨w.heap.size, 0, none⟩ (.int .i64 T)).setCell ⟨w.heap.size, 1, none⟩ (.slice v m c')).alloc (.cells oddN 2))) := by
           obtain ⟨F0, F1, F2⟩ := HZ0.fin
           exact ⟨(Below.heap_alloc _ _ _ (lt_of_block F0)).trans F0, F1.below box_below0, F2.alloc F2.size _⟩
         unfold oddN at q0 t0 t1 r0 r1 g0 g1 q3
         have HF2 : Hid _ := HZ.tb
         clear kz bz hval HZ HZ0 z0)
      | (refine (l1Below_any cb a n cap zs 8 _ K5b.cur (by omega) (by omega)).mono ?_
         rintro e wz ⟨z, rfl, z0, z1, kz, bz⟩
         obtain ⟨kk, rfl⟩ := Int.eq_ofNat_of_zero_le z0
         obtain ⟨val, hval, bval⟩ := oddN_at kk (by omega)
         have k8 : kk < 8 := by omega
         have HZ := K5b.step kz bz
         have q0 : wz.cell? ⟨w5.heap.size, kk, none⟩ = some (.int .i64 val) := row_at (L := oddN) (w := w5) ⟨bz.os, bz.tape, bz.output, bz.size, bz.block⟩ (by have := K5a.ne; have := lt_of_block K5a.pb; omega) hval
         obtain ⟨t0, t1, _, _⟩ := boxed HZ.pb
         obtain ⟨r0, r1, g0, g1⟩ := boxed HZ.rb
         have HF : Hid _ := HZ.fin
         have HF3 : Hid _ := HZ.fin
         have HF2 : Hid _ := HZ.tb
         clear kz bz hval HZ z0)))
    all_goals
      go_wp2
      first
        | (obtain ⟨F0, F1, F2⟩ := HF.out
           obtain ⟨f0, f1, _, _⟩ := boxed F0
           unfold oddN at F0 F1 F2 f0 f1
           exact bodyPost_ret (v := .tuple #[.agg #[.int .i64 T, .slice v m c'], .int .i64 x, .int .i64 y, .int .i64 val]) (by simp [results, Try.results26, go_sem, f0, f1]) rfl ⟨T, v, m, c', ls, x, y, val, rfl, F1, HF2.out, xb, yb, bval, F2⟩)
        | (obtain ⟨F0, F1, F2⟩ := HF3.out
           obtain ⟨f0, f1, _, _⟩ := boxed F0
           unfold oddN at F0 F1 F2 f0 f1
           exact bodyPost_ret (v := .tuple #[.agg #[.int .i64 T, .slice v m c'], .int .i64 x, .int .i64 y, .int .i64 val]) (by simp [results, Try.results26, go_sem, f0, f1]) rfl ⟨T, v, m, c', ls, x, y, val, rfl, F1, HF2.out, xb, yb, bval, F2⟩)
        | (obtain ⟨F0, F1, F2⟩ := HF.out
           obtain ⟨f0, f1, _, _⟩ := boxed F0
           exact bodyPost_ret (v := .tuple #[.agg #[.int .i64 T, .slice v m c'], .int .i64 x, .int .i64 y, .int .i64 val]) (by simp [results, Try.results26, go_sem, f0, f1]) rfl ⟨T, v, m, c', ls, x, y, val, rfl, F1, HF2.out, xb, yb, bval, F2⟩)
  | true =>
    rcases hc : inB x 0 1000 with _ | _
    · go_wp2_with fail
      refine (l1In_any _ _ _ _).mono ?_
      rw [hc]
      rintro e w' ⟨rfl, hq⟩; have hq' := hq.symm; clear hq; subst hq'
      obtain ⟨p0, p1, _, _⟩ := boxed H5.pb
      have hne : P ≠ w.heap.size := by have := H5.ne; omega
      have hne2 : w.heap.size ≠ P := by omega
      have K5a := H5.below (Below.refl _ _).drew
      have K5b := H5.below ((Below.refl _ _).alloc (Nat.le_refl _) (.cells oddN 2)).drew
      obtain ⟨pa0, pa1, _, _⟩ := boxed K5b.pb
      have LP := lt_of_block H5.pb
      have hL1 : w5.heap.size ≠ w.heap.size := by have := H5.ne; omega
      have hL2 : w.heap.size ≠ w5.heap.size := by omega
      unfold oddN at K5b pa0 pa1
      go_wp2_with fail
      go_region_with ((go_at_call 36; first
        | (refine (l1Below_any cb a n cap zs 8 _ K5a.cur (by omega) (by omega)).mono ?_
           rintro e wz ⟨z, rfl, z0, z1, kz, bz⟩
           obtain ⟨kk, rfl⟩ := Int.eq_ofNat_of_zero_le z0
           obtain ⟨val, hval, bval⟩ := oddN_at kk (by omega)
           have k8 : kk < 8 := by omega
           have hL3 : wz.heap.size ≠ w.heap.size := by have := bz.size; have e : w5.drew.heap.size = w5.heap.size := rfl; have := H5.ne; omega
           have hL4 : w.heap.size ≠ wz.heap.size := by omega
           have HZ0 := K5a.step kz bz
           obtain ⟨s0, s1, _, _⟩ := boxed HZ0.pb
           have HZ := HZ0.below (box_below0 (o := (.cells oddN 2)))
           have q0 : (wz.alloc (.cells oddN 2)).cell? ⟨wz.heap.size, kk, none⟩ = some (.int .i64 val) := row_at (But.refl cb (wz.alloc (.cells oddN 2))) (by have := HZ0.ne; have := lt_of_block HZ0.pb; omega) hval
           obtain ⟨t0, t1, _, _⟩ := boxed HZ.pb
           obtain ⟨r0, r1, g0, g1⟩ := boxed HZ.rb
           have HF : Hid _ := HZ.fin
           obtain ⟨rz0, rz1, gz0, gz1⟩ := boxed HZ0.rb
           have q3 := row_set wz w.heap.size kk (.int .i64 T) (.slice v m c') hval
           have HF3 : Hid ((((wz.setCell ⟨w.heap.size, 0, none⟩ (.int .i64 T)).setCell ⟨w.heap.size, 1, none⟩ (.slice v m c')).alloc (.cells oddN 2)).heap[w.heap.size]? = some (.cells #[.int .i64 T, .slice v m c'] 26 (0, 0)) ∧ LevS (((wz.setCell ⟨w.heap.size, 0, none⟩ (.int .i64 T)).setCell ⟨w.heap.size, 1, none⟩ (.slice v m c')).alloc (.cells oddN 2)) v m c' ls ∧ Below w.heap.size w (((wz.setCell ⟨w.heap.size, 0, none⟩ (.int .i64 T)).setCell ⟨w.heap.size, 1, none⟩ (.slice v m c')).alloc (.cells oddN 2))) := by
             obtain ⟨F0, F1, F2⟩ := HZ0.fin
             exact ⟨(Below.heap_alloc _ _ _ (lt_of_block F0)).trans F0, F1.below box_below0, F2.alloc F2.size _⟩
           unfold oddN at q0 t0 t1 r0 r1 g0 g1 q3
           have HF2 : Hid _ := HZ.tb
           clear kz bz hval HZ HZ0 z0)
        | (refine (l1Below_any cb a n cap zs 8 _ K5b.cur (by omega) (by omega)).mono ?_
           rintro e wz ⟨z, rfl, z0, z1, kz, bz⟩
           obtain ⟨kk, rfl⟩ := Int.eq_ofNat_of_zero_le z0
           obtain ⟨val, hval, bval⟩ := oddN_at kk (by omega)
           have k8 : kk < 8 := by omega
           have HZ := K5b.step kz bz
           have q0 : wz.cell? ⟨w5.heap.size, kk, none⟩ = some (.int .i64 val) := row_at (L := oddN) (w := w5) ⟨bz.os, bz.tape, bz.output, bz.size, bz.block⟩ (by have := K5a.ne; have := lt_of_block K5a.pb; omega) hval
           obtain ⟨t0, t1, _, _⟩ := boxed HZ.pb
           obtain ⟨r0, r1, g0, g1⟩ := boxed HZ.rb
           have HF : Hid _ := HZ.fin
           have HF3 : Hid _ := HZ.fin
           have HF2 : Hid _ := HZ.tb
           clear kz bz hval HZ z0)))
      all_goals
        go_wp2
        first
          | (obtain ⟨F0, F1, F2⟩ := HF.out
             obtain ⟨f0, f1, _, _⟩ := boxed F0
             unfold oddN at F0 F1 F2 f0 f1
             exact bodyPost_ret (v := .tuple #[.agg #[.int .i64 T, .slice v m c'], .int .i64 x, .int .i64 y, .int .i64 val]) (by simp [results, Try.results26, go_sem, f0, f1]) rfl ⟨T, v, m, c', ls, x, y, val, rfl, F1, HF2.out, xb, yb, bval, F2⟩)
          | (obtain ⟨F0, F1, F2⟩ := HF3.out
             obtain ⟨f0, f1, _, _⟩ := boxed F0
             unfold oddN at F0 F1 F2 f0 f1
             exact bodyPost_ret (v := .tuple #[.agg #[.int .i64 T, .slice v m c'], .int .i64 x, .int .i64 y, .int .i64 val]) (by simp [results, Try.results26, go_sem, f0, f1]) rfl ⟨T, v, m, c', ls, x, y, val, rfl, F1, HF2.out, xb, yb, bval, F2⟩)
          | (obtain ⟨F0, F1, F2⟩ := HF.out
             obtain ⟨f0, f1, _, _⟩ := boxed F0
             exact bodyPost_ret (v := .tuple #[.agg #[.int .i64 T, .slice v m c'], .int .i64 x, .int .i64 y, .int .i64 val]) (by simp [results, Try.results26, go_sem, f0, f1]) rfl ⟨T, v, m, c', ls, x, y, val, rfl, F1, HF2.out, xb, yb, bval, F2⟩)
    · have hx := inB_t hc
      go_wp2_with fail
      refine (l1In_any _ _ _ _).mono ?_
      rw [hc]
      rintro e w' ⟨rfl, hq⟩; have hq' := hq.symm; clear hq; subst hq'
      go_wp2_with fail
      refine (l1Below_any cb a n cap zs 9 _ H5.cur (by omega) (by omega)).mono ?_
      rintro e w6 ⟨u, rfl, u0, u1, k6, b6⟩
      have H6 := H5.step k6 b6
      clear H5 k6 b6
      obtain ⟨p0, p1, _, _⟩ := boxed H6.pb
      have hne : P ≠ w.heap.size := by have := H6.ne; omega
      have hne2 : w.heap.size ≠ P := by omega
      have K6a := H6.below (Below.refl _ _).drew
      have K6b := H6.below ((Below.refl _ _).alloc (Nat.le_refl _) (.cells oddN 2)).drew
      obtain ⟨pa0, pa1, _, _⟩ := boxed K6b.pb
      have LP := lt_of_block H6.pb
      have hL1 : w6.heap.size ≠ w.heap.size := by have := H6.ne; omega
      have hL2 : w.heap.size ≠ w6.heap.size := by omega
      unfold oddN at K6b pa0 pa1
      go_wp2_with fail
      go_region_with ((go_at_call 36; first
        | (refine (l1Below_any cb a n cap zs 8 _ K6a.cur (by omega) (by omega)).mono ?_
           rintro e wz ⟨z, rfl, z0, z1, kz, bz⟩
           obtain ⟨kk, rfl⟩ := Int.eq_ofNat_of_zero_le z0
           obtain ⟨val, hval, bval⟩ := oddN_at kk (by omega)
           have k8 : kk < 8 := by omega
           have hL3 : wz.heap.size ≠ w.heap.size := by have := bz.size; have e : w6.drew.heap.size = w6.heap.size := rfl; have := H6.ne; omega
           have hL4 : w.heap.size ≠ wz.heap.size := by omega
           have HZ0 := K6a.step kz bz
           obtain ⟨s0, s1, _, _⟩ := boxed HZ0.pb
           have HZ := HZ0.below (box_below0 (o := (.cells oddN 2)))
           have q0 : (wz.alloc (.cells oddN 2)).cell? ⟨wz.heap.size, kk, none⟩ = some (.int .i64 val) := row_at (But.refl cb (wz.alloc (.cells oddN 2))) (by have := HZ0.ne; have := lt_of_block HZ0.pb; omega) hval
           obtain ⟨t0, t1, _, _⟩ := boxed HZ.pb
           obtain ⟨r0, r1, g0, g1⟩ := boxed HZ.rb
           have HF : Hid _ := HZ.fin
           obtain ⟨rz0, rz1, gz0, gz1⟩ := boxed HZ0.rb
           have q3 := row_set wz w.heap.size kk (.int .i64 T) (.slice v m c') hval
           have HF3 : Hid ((((wz.setCell ⟨w.heap.size, 0, none⟩ (.int .i64 T)).setCell ⟨w.heap.size, 1, none⟩ (.slice v m c')).alloc (.cells oddN 2)).heap[w.heap.size]? = some (.cells #[.int .i64 T, .slice v m c'] 26 (0, 0)) ∧ LevS (((wz.setCell ⟨w.heap.size, 0, none⟩ (.int .i64 T)).setCell ⟨w.heap.size, 1, none⟩ (.slice v m c')).alloc (.cells oddN 2)) v m c' ls ∧ Below w.heap.size w (((wz.setCell ⟨w.heap.size, 0, none⟩ (.int .i64 T)).setCell ⟨w.heap.size, 1, none⟩ (.slice v m c')).alloc (.cells oddN 2))) := by
             obtain ⟨F0, F1, F2⟩ := HZ0.fin
             exact ⟨(Below.heap_alloc _ _ _ (lt_of_block F0)).trans F0, F1.below box_below0, F2.alloc F2.size _⟩
           unfold oddN at q0 t0 t1 r0 r1 g0 g1 q3
           have HF2 : Hid _ := HZ.tb
           clear kz bz hval HZ HZ0 z0)
        | (refine (l1Below_any cb a n cap zs 8 _ K6b.cur (by omega) (by omega)).mono ?_
           rintro e wz ⟨z, rfl, z0, z1, kz, bz⟩
           obtain ⟨kk, rfl⟩ := Int.eq_ofNat_of_zero_le z0
           obtain ⟨val, hval, bval⟩ := oddN_at kk (by omega)
           have k8 : kk < 8 := by omega
           have HZ := K6b.step kz bz
           have q0 : wz.cell? ⟨w6.heap.size, kk, none⟩ = some (.int .i64 val) := row_at (L := oddN) (w := w6) ⟨bz.os, bz.tape, bz.output, bz.size, bz.block⟩ (by have := K6a.ne; have := lt_of_block K6a.pb; omega) hval
           obtain ⟨t0, t1, _, _⟩ := boxed HZ.pb
           obtain ⟨r0, r1, g0, g1⟩ := boxed HZ.rb
           have HF : Hid _ := HZ.fin
           have HF3 : Hid _ := HZ.fin
           have HF2 : Hid _ := HZ.tb
           clear kz bz hval HZ z0)))
      all_goals
        go_wp2
        first
          | (obtain ⟨F0, F1, F2⟩ := HF.out
             obtain ⟨f0, f1, _, _⟩ := boxed F0
             unfold oddN at F0 F1 F2 f0 f1
             exact bodyPost_ret (v := .tuple #[.agg #[.int .i64 T, .slice v m c'], .int .i64 x, .int .i64 (x + 1 + u), .int .i64 val]) (by simp [results, Try.results26, go_sem, f0, f1]) rfl ⟨T, v, m, c', ls, x, (x + 1 + u), val, rfl, F1, HF2.out, xb, (by omega), bval, F2⟩)
          | (obtain ⟨F0, F1, F2⟩ := HF3.out
             obtain ⟨f0, f1, _, _⟩ := boxed F0
             unfold oddN at F0 F1 F2 f0 f1
             exact bodyPost_ret (v := .tuple #[.agg #[.int .i64 T, .slice v m c'], .int .i64 x, .int .i64 (x + 1 + u), .int .i64 val]) (by simp [results, Try.results26, go_sem, f0, f1]) rfl ⟨T, v, m, c', ls, x, (x + 1 + u), val, rfl, F1, HF2.out, xb, (by omega), bval, F2⟩)
          | (obtain ⟨F0, F1, F2⟩ := HF.out
             obtain ⟨f0, f1, _, _⟩ := boxed F0
             exact bodyPost_ret (v := .tuple #[.agg #[.int .i64 T, .slice v m c'], .int .i64 x, .int .i64 (x + 1 + u), .int .i64 val]) (by simp [results, Try.results26, go_sem, f0, f1]) rfl ⟨T, v, m, c', ls, x, (x + 1 + u), val, rfl, F1, HF2.out, xb, (by omega), bval, F2⟩)

set_option maxRecDepth 8000 in
set_option maxHeartbeats 2000000 in
theorem drawLeast2_any (a : Option Addr) (n cap : Nat) (zs : List Int) (w : World) (h : IsBytes w a n cap zs) (hn : n ≤ 4096) :
    Calls Try.prog 10 #[.slice a n cap] w fun e w' => ∃ (T : Int) (v : Option Addr) (m c' : Nat) (ls : List Lev) (x y : Int), e = .returned (.tuple #[.agg #[.int .i64 T, .slice v m c'], .int .i64 x, .int .i64 y]) ∧ LevS w' v m c' ls ∧ (-1 ≤ T ∧ T ≤ 1001) ∧ (-9223372036854775808 ≤ x ∧ x ≤ 9223372036854775807) ∧ (-9223372036854775808 ≤ y ∧ y ≤ 9223372036854775807) ∧ (0 < m → ∀ b off, v = some ⟨b, off, none⟩ → w.heap.size + 1 ≤ b) ∧ Below w.heap.size w w' := by
  have hbx : Below w.heap.size w (w.alloc (.cells #[.int .i64 0, .slice none 0 0] 26)) := box_below0
  go_enter Try.func10, Try.ntmps10
  go_wp2_with fail
  refine (l1New_any a n cap zs _ (h.below hbx) hn).mono ?_
  rintro e w1 ⟨cb, rfl, hcb, c1, U1⟩
  have hcb2 : w.heap.size + 1 ≤ cb := by simpa using hcb
  have bR1 : w1.heap[w.heap.size]? = some (.cells #[.int .i64 0, .slice none 0 0] 26 (0, 0)) := (U1.block _ (by simp)).trans (heap_alloc_new _ _)
  have V1 := hbx.then U1 hbx.size
  have l1 := c1.lt
  go_wp2_with fail
  refine (l2DrawAny_any cb a n cap zs _ c1).mono ?_
  rintro e w2 ⟨T, v, m, c', ls, rfl, hL, hv, hT, hm, c2, b2⟩
  have z1 := b2.size
  have hvB : Hid (0 < m → ∀ b off, v = some ⟨b, off, none⟩ → w.heap.size + 1 ≤ b) := fun _ b off e => by have h1 := hv b off e; have := V1.size; omega
  have bR2 := (b2.block _ (lt_of_block bR1) (by omega)).trans bR1
  have V2 : Below w.heap.size w w2 := V1.trans (b2.below (by omega) V1.size)
  have lR2 := lt_of_block bR2
  have H2 : DrawB w cb w2.heap.size T v m c' ls a n cap zs (w2.alloc (.cells #[.int .i64 T, .slice v m c'] 26)) :=
    ⟨(Below.heap_alloc _ _ _ lR2).trans bR2, heap_alloc_new _ _, hL.below box_below0, fun h0 b off e => by
      have h1 := hv b off e
      obtain ⟨b', off', e', h2, _⟩ := hL.at_ h0
      rw [e] at e'; cases e'
      exact ⟨by omega, by omega, by omega⟩, hT, hm, c2.but box_below0 c2.lt, V2.alloc V2.size _, ⟨by omega, by have := c2.lt; omega⟩⟩
  clear hL hv c1 c2 b2 U1 bR1 bR2 V1 V2 hcb hbx
  go_wp2_with fail
  generalize hP : w2.heap.size = P at H2 ⊢
  clear hP
  refine (l1DrawTime_any cb a n cap zs _ H2.cur).mono ?_
  rintro e w3 ⟨x, rfl, xb, k3, b3⟩
  have H3 := H2.step k3 b3
  clear H2 k3 b3
  obtain ⟨p0, p1, _, _⟩ := boxed H3.pb
  have hne : P ≠ w.heap.size := by have := H3.ne; omega
  have hne2 : w.heap.size ≠ P := by omega
  have K3 := H3.below (Below.refl _ _).drew
  go_wp2_with fail
  go_region_with ((go_at_call 35; refine (l1DrawTime_any cb a n cap zs _ K3.cur).mono ?_; rintro e wz ⟨z, rfl, zb, kz, bz⟩; have HZ := K3.step kz bz; obtain ⟨s0, s1, _, _⟩ := boxed HZ.pb; obtain ⟨r0, r1, g0, g1⟩ := boxed HZ.rb; have HF : Hid _ := HZ.fin; clear kz bz))
  all_goals
    go_wp2
    obtain ⟨F0, F1, F2⟩ := HF.out
    obtain ⟨f0, f1, _, _⟩ := boxed F0
    generalize (wz.setCell ⟨w.heap.size, 0, none⟩ (.int .i64 T)).setCell ⟨w.heap.size, 1, none⟩ (.slice v m c') = WF at F0 F1 F2 f0 f1 ⊢
    exact bodyPost_ret (v := .tuple #[.agg #[.int .i64 T, .slice v m c'], .int .i64 x, .int .i64 z]) (by simp [results, Try.results10, go_sem, f0, f1]) rfl ⟨T, v, m, c', ls, x, z, rfl, F1, HZ.tb, xb, zb, hvB.out, F2⟩


theorem drawArea_any (a : Option Addr) (n cap : Nat) (zs : List Int) (w : World) (h : IsBytes w a n cap zs) (hn : n ≤ 4096) :
    Calls Try.prog 18 #[.slice a n cap] w fun e w' => ∃ (T : Int) (v : Option Addr) (m c' : Nat) (ls : List Lev) (x y : Int), e = .returned (.tuple #[.agg #[.int .i64 T, .slice v m c'], .int .i64 x, .int .i64 y]) ∧ LevS w' v m c' ls ∧ (-1 ≤ T ∧ T ≤ 1001) ∧ (-9223372036854775808 ≤ x ∧ x ≤ 9223372036854775807) ∧ (-9223372036854775808 ≤ y ∧ y ≤ 9223372036854775807) ∧ Below w.heap.size w w' := by
  have hbx : Below w.heap.size w (w.alloc (.cells #[.int .i64 0, .slice none 0 0] 26)) := box_below0
  go_enter Try.func18, Try.ntmps18
  go_wp2_with fail
  refine (drawLeast2_any a n cap zs _ (h.below hbx) hn).mono ?_
  rintro e w1 ⟨T, v, m, c', ls, x, y, rfl, hL, hT, hx, hy, hvn, hb⟩
  have bR : w1.heap[w.heap.size]? = some (.cells #[.int .i64 0, .slice none 0 0] 26 (0, 0)) := (hb.block _ (by simp)).trans (heap_alloc_new _ _)
  obtain ⟨r0, r1, g0, g1⟩ := boxed bR
  obtain ⟨q0, q1⟩ := Proofs.Ytdaedggmeoganaa.set2 bR (.int .i64 T) (.slice v m c')
  have hs : ((w1.setCell ⟨w.heap.size, 0, none⟩ (.int .i64 T)).setCell ⟨w.heap.size, 1, none⟩ (.slice v m c')).heap.size = w1.heap.size := by simp [World.setCell]
  have BB : Below w.heap.size w ((w1.setCell ⟨w.heap.size, 0, none⟩ (.int .i64 T)).setCell ⟨w.heap.size, 1, none⟩ (.slice v m c')) := ((hbx.then hb hbx.size).setCell (Nat.le_refl _) _).setCell (Nat.le_refl _) _
  have HQ : Hid _ := q0
  have HV : Hid (0 < m → ∀ b off, v = some ⟨b, off, none⟩ → b ≠ w.heap.size) := fun h0 b off e => by have := hvn h0 b off e; simp at this; omega
  clear hvn
  go_wp2
  obtain ⟨f0, f1, _, _⟩ := boxed HQ.out
  generalize (w1.setCell ⟨w.heap.size, 0, none⟩ (.int .i64 T)).setCell ⟨w.heap.size, 1, none⟩ (.slice v m c') = WF at q0 q1 hs BB HQ f0 f1 ⊢
  exact bodyPost_ret (v := .tuple #[.agg #[.int .i64 T, .slice v m c'], .int .i64 x, .int .i64 y]) (by simp [results, Try.results18, go_sem, f0, f1]) rfl ⟨T, v, m, c', ls, x, y, rfl, levs_keep0 hL (fun h0 b off e _ => q1 b (HV.out h0 b off e)) (by omega), hT, hx, hy, BB⟩

end Go.Proofs.Ytdaedggmeoganaa
