/- The draws of profiles and times. -/
import Derived.Test.YtdaedggmeoganaaProfDraw2
import Derived.Deep.Cut
namespace Go.Proofs.Ytdaedggmeoganaa
open Go.RowKit

theorem levs_keep0 {W W' : World} {v : Option Addr} {n c : Nat} {ls : List Lev} (h : LevS W v n c ls) (hk : 0 < n → ∀ b off, v = some ⟨b, off, none⟩ → b < W.heap.size → W'.heap[b]? = W.heap[b]?) (hz : W.heap.size ≤ W'.heap.size) : LevS W' v n c ls :=
  ⟨h.len, h.le, h.mx, h.nil, h.wf, fun hn => by
    obtain ⟨b, off, e, h1, h2⟩ := h.at_ hn
    have hb := hk hn b off e h1
    exact ⟨b, off, e, by omega, fun i hi => ⟨(World.cell?_of_block (w := W) (a := ⟨b, off + i * 2, none⟩) hb).trans (h2 i hi).1, (World.cell?_of_block (w := W) (a := ⟨b, off + i * 2 + 1, none⟩) hb).trans (h2 i hi).2⟩⟩⟩

/-- a profile drawn lies in block P; the answer's box is block w0.heap.size -/
structure DrawB (w0 : World) (cb P : Nat) (T : Int) (v : Option Addr) (m c' : Nat) (ls : List Lev) (a : Option Addr) (n cap : Nat) (zs : List Int) (W : World) : Prop where
  rb : W.heap[w0.heap.size]? = some (.cells #[.int .i64 0, .slice none 0 0] 26 (0, 0))
  pb : W.heap[P]? = some (.cells #[.int .i64 T, .slice v m c'] 26 (0, 0))
  lv : LevS W v m c' ls
  vb : 0 < m → ∀ b off, v = some ⟨b, off, none⟩ → b ≠ cb ∧ b ≠ P ∧ b ≠ w0.heap.size
  tb : -1 ≤ T ∧ T ≤ 1001
  nb : m ≤ 201
  cur : CurAt W cb a n cap zs
  bel : Below w0.heap.size w0 W
  ne : w0.heap.size < cb ∧ cb < P

theorem DrawB.step {w0 W W' : World} {cb P m c' : Nat} {T : Int} {v : Option Addr} {ls : List Lev} {a : Option Addr} {n cap : Nat} {zs : List Int} (h : DrawB w0 cb P T v m c' ls a n cap zs W) (k : CurAt W' cb a n cap zs) (b : But cb W W') : DrawB w0 cb P T v m c' ls a n cap zs W' := by
  obtain ⟨e1, e2⟩ := h.ne
  have z := h.bel.size
  refine ⟨(b.block _ (lt_of_block h.rb) (by omega)).trans h.rb, (b.block _ (lt_of_block h.pb) (by omega)).trans h.pb, levs_keep0 h.lv (fun h0 b' off e hlt => b.block _ hlt (h.vb h0 b' off e).1) b.size, h.vb, h.tb, h.nb, k, h.bel.trans (b.below (Nat.le_of_lt e1) z), h.ne⟩
theorem DrawB.below {w0 W W' : World} {cb P m c' : Nat} {T : Int} {v : Option Addr} {ls : List Lev} {a : Option Addr} {n cap : Nat} {zs : List Int} (h : DrawB w0 cb P T v m c' ls a n cap zs W) (b : Below W.heap.size W W') : DrawB w0 cb P T v m c' ls a n cap zs W' := h.step (h.cur.but b h.cur.lt) (But.of b)

/-- the profile stored into the answer's box -/
theorem DrawB.fin {w0 W : World} {cb P m c' : Nat} {T : Int} {v : Option Addr} {ls : List Lev} {a : Option Addr} {n cap : Nat} {zs : List Int} (h : DrawB w0 cb P T v m c' ls a n cap zs W) :
    ((W.setCell ⟨w0.heap.size, 0, none⟩ (.int .i64 T)).setCell ⟨w0.heap.size, 1, none⟩ (.slice v m c')).heap[w0.heap.size]? = some (.cells #[.int .i64 T, .slice v m c'] 26 (0, 0)) ∧
    LevS ((W.setCell ⟨w0.heap.size, 0, none⟩ (.int .i64 T)).setCell ⟨w0.heap.size, 1, none⟩ (.slice v m c')) v m c' ls ∧
    Below w0.heap.size w0 ((W.setCell ⟨w0.heap.size, 0, none⟩ (.int .i64 T)).setCell ⟨w0.heap.size, 1, none⟩ (.slice v m c')) := by
  obtain ⟨q0, q1⟩ := Proofs.Ytdaedggmeoganaa.set2 h.rb (.int .i64 T) (.slice v m c')
  have hs : ((W.setCell ⟨w0.heap.size, 0, none⟩ (.int .i64 T)).setCell ⟨w0.heap.size, 1, none⟩ (.slice v m c')).heap.size = W.heap.size := by simp [World.setCell]
  exact ⟨q0, levs_keep0 h.lv (fun h0 b off e _ => q1 b (h.vb h0 b off e).2.2) (by omega), (h.bel.setCell (Nat.le_refl _) _).setCell (Nat.le_refl _) _⟩

set_option maxRecDepth 8000 in
set_option maxHeartbeats 2000000 in
theorem drawFreeAt_any (a : Option Addr) (n cap : Nat) (zs : List Int) (w : World) (h : IsBytes w a n cap zs) (hn : n ≤ 4096) :
    Calls Try.prog 12 #[.slice a n cap] w fun e w' => ∃ (T : Int) (v : Option Addr) (m c' : Nat) (ls : List Lev) (x : Int), e = .returned (.tuple #[.agg #[.int .i64 T, .slice v m c'], .int .i64 x]) ∧ LevS w' v m c' ls ∧ (-1 ≤ T ∧ T ≤ 1001) ∧ (-9223372036854775808 ≤ x ∧ x ≤ 9223372036854775807) ∧ Below w.heap.size w w' := by
  have hbx : Below w.heap.size w (w.alloc (.cells #[.int .i64 0, .slice none 0 0] 26)) := box_below0
  go_enter Try.func12, Try.ntmps12
  go_wp2_with fail
  refine (l1New_any a n cap zs _ (h.below hbx) hn).mono ?_
  rintro e w1 ⟨cb, rfl, hcb, c1, U1⟩
  have hcb2 : w.heap.size + 1 ≤ cb := by simpa using hcb
  have bR1 : w1.heap[w.heap.size]? = some (.cells #[.int .i64 0, .slice none 0 0] 26 (0, 0)) := (U1.block _ (by simp)).trans (heap_alloc_new _ _)
  have V1 := hbx.then U1 hbx.size
  have l1 := c1.lt
  go_wp2_with fail
  refine (l2DrawAny_any cb a n cap zs _ c1).mono ?_
  rintro e w2 ⟨T, v, m, c', ls, rfl, hL, hv, hT, hm, c2, b2⟩
  have z1 := b2.size
  have bR2 := (b2.block _ (lt_of_block bR1) (by omega)).trans bR1
  have V2 : Below w.heap.size w w2 := V1.trans (b2.below (by omega) V1.size)
  have lR2 := lt_of_block bR2
  have H2 : DrawB w cb w2.heap.size T v m c' ls a n cap zs (w2.alloc (.cells #[.int .i64 T, .slice v m c'] 26)) :=
    ⟨(Below.heap_alloc _ _ _ lR2).trans bR2, heap_alloc_new _ _, hL.below box_below0, fun h0 b off e => by
      have h1 := hv b off e
      obtain ⟨b', off', e', h2, _⟩ := hL.at_ h0
      rw [e] at e'; cases e'
      exact ⟨by omega, by omega, by omega⟩, hT, hm, c2.but box_below0 c2.lt, V2.alloc V2.size _, ⟨by omega, by have := c2.lt; omega⟩⟩
  clear hL hv c1 c2 b2 U1 bR1 bR2 V1 V2 hcb hbx
  go_upto_region 3 with fail
  generalize hP : w2.heap.size = P at H2 ⊢
  clear hP
  obtain ⟨p0, p1, _, _⟩ := boxed H2.pb
  have hne : P ≠ w.heap.size := by have := H2.ne; omega
  have hne2 : w.heap.size ≠ P := by omega
  have K2 := H2.below (Below.refl _ _).drew
  go_wp2_with fail
  go_region_with ((go_at_call 35; refine (l1DrawTime_any cb a n cap zs _ K2.cur).mono ?_; rintro e wz ⟨z, rfl, zb, kz, bz⟩; have HZ := K2.step kz bz; obtain ⟨s0, s1, _, _⟩ := boxed HZ.pb; obtain ⟨r0, r1, g0, g1⟩ := boxed HZ.rb; have HF : Hid _ := HZ.fin; clear kz bz))
  all_goals
    go_wp2
    obtain ⟨F0, F1, F2⟩ := HF.out
    obtain ⟨f0, f1, _, _⟩ := boxed F0
    generalize (wz.setCell ⟨w.heap.size, 0, none⟩ (.int .i64 T)).setCell ⟨w.heap.size, 1, none⟩ (.slice v m c') = WF at F0 F1 F2 f0 f1 ⊢
    exact bodyPost_ret (v := .tuple #[.agg #[.int .i64 T, .slice v m c'], .int .i64 z]) (by simp [results, Try.results12, go_sem, f0, f1]) rfl ⟨T, v, m, c', ls, z, rfl, F1, HZ.tb, zb, F2⟩

set_option maxRecDepth 8000 in
set_option maxHeartbeats 2000000 in
theorem drawLeast_any (a : Option Addr) (n cap : Nat) (zs : List Int) (w : World) (h : IsBytes w a n cap zs) (hn : n ≤ 4096) :
    Calls Try.prog 10 #[.slice a n cap] w fun e w' => ∃ (T : Int) (v : Option Addr) (m c' : Nat) (ls : List Lev) (x y : Int), e = .returned (.tuple #[.agg #[.int .i64 T, .slice v m c'], .int .i64 x, .int .i64 y]) ∧ LevS w' v m c' ls ∧ (-1 ≤ T ∧ T ≤ 1001) ∧ (-9223372036854775808 ≤ x ∧ x ≤ 9223372036854775807) ∧ (-9223372036854775808 ≤ y ∧ y ≤ 9223372036854775807) ∧ Below w.heap.size w w' := by
  have hbx : Below w.heap.size w (w.alloc (.cells #[.int .i64 0, .slice none 0 0] 26)) := box_below0
  go_enter Try.func10, Try.ntmps10
  go_wp2_with fail
  refine (l1New_any a n cap zs _ (h.below hbx) hn).mono ?_
  rintro e w1 ⟨cb, rfl, hcb, c1, U1⟩
  have hcb2 : w.heap.size + 1 ≤ cb := by simpa using hcb
  have bR1 : w1.heap[w.heap.size]? = some (.cells #[.int .i64 0, .slice none 0 0] 26 (0, 0)) := (U1.block _ (by simp)).trans (heap_alloc_new _ _)
  have V1 := hbx.then U1 hbx.size
  have l1 := c1.lt
  go_wp2_with fail
  refine (l2DrawAny_any cb a n cap zs _ c1).mono ?_
  rintro e w2 ⟨T, v, m, c', ls, rfl, hL, hv, hT, hm, c2, b2⟩
  have z1 := b2.size
  have bR2 := (b2.block _ (lt_of_block bR1) (by omega)).trans bR1
  have V2 : Below w.heap.size w w2 := V1.trans (b2.below (by omega) V1.size)
  have lR2 := lt_of_block bR2
  have H2 : DrawB w cb w2.heap.size T v m c' ls a n cap zs (w2.alloc (.cells #[.int .i64 T, .slice v m c'] 26)) :=
    ⟨(Below.heap_alloc _ _ _ lR2).trans bR2, heap_alloc_new _ _, hL.below box_below0, fun h0 b off e => by
      have h1 := hv b off e
      obtain ⟨b', off', e', h2, _⟩ := hL.at_ h0
      rw [e] at e'; cases e'
      exact ⟨by omega, by omega, by omega⟩, hT, hm, c2.but box_below0 c2.lt, V2.alloc V2.size _, ⟨by omega, by have := c2.lt; omega⟩⟩
  clear hL hv c1 c2 b2 U1 bR1 bR2 V1 V2 hcb hbx
  go_wp2_with fail
  generalize hP : w2.heap.size = P at H2 ⊢
  clear hP
  refine (l1DrawTime_any cb a n cap zs _ H2.cur).mono ?_
  rintro e w3 ⟨x, rfl, xb, k3, b3⟩
  have H3 := H2.step k3 b3
  clear H2 k3 b3
  obtain ⟨p0, p1, _, _⟩ := boxed H3.pb
  have hne : P ≠ w.heap.size := by have := H3.ne; omega
  have hne2 : w.heap.size ≠ P := by omega
  have K3 := H3.below (Below.refl _ _).drew
  go_wp2_with fail
  go_region_with ((go_at_call 35; refine (l1DrawTime_any cb a n cap zs _ K3.cur).mono ?_; rintro e wz ⟨z, rfl, zb, kz, bz⟩; have HZ := K3.step kz bz; obtain ⟨s0, s1, _, _⟩ := boxed HZ.pb; obtain ⟨r0, r1, g0, g1⟩ := boxed HZ.rb; have HF : Hid _ := HZ.fin; clear kz bz))
  all_goals
    go_wp2
    obtain ⟨F0, F1, F2⟩ := HF.out
    obtain ⟨f0, f1, _, _⟩ := boxed F0
    generalize (wz.setCell ⟨w.heap.size, 0, none⟩ (.int .i64 T)).setCell ⟨w.heap.size, 1, none⟩ (.slice v m c') = WF at F0 F1 F2 f0 f1 ⊢
    exact bodyPost_ret (v := .tuple #[.agg #[.int .i64 T, .slice v m c'], .int .i64 x, .int .i64 z]) (by simp [results, Try.results10, go_sem, f0, f1]) rfl ⟨T, v, m, c', ls, x, z, rfl, F1, HZ.tb, xb, zb, F2⟩

set_option maxRecDepth 8000 in
set_option maxHeartbeats 2000000 in
theorem drawFit_any (a : Option Addr) (n cap : Nat) (zs : List Int) (w : World) (h : IsBytes w a n cap zs) (hn : n ≤ 4096) :
    Calls Try.prog 8 #[.slice a n cap] w fun e w' => ∃ (T : Int) (v : Option Addr) (m c' : Nat) (ls : List Lev) (x y k : Int), e = .returned (.tuple #[.agg #[.int .i64 T, .slice v m c'], .int .i64 x, .int .i64 y, .int .i64 k]) ∧ LevS w' v m c' ls ∧ (-1 ≤ T ∧ T ≤ 1001) ∧ (-9223372036854775808 ≤ x ∧ x ≤ 9223372036854775807) ∧ (-9223372036854775808 ≤ y ∧ y ≤ 9223372036854775807) ∧ (-1 ≤ k ∧ k ≤ 10) ∧ Below w.heap.size w w' := by
  have hbx : Below w.heap.size w (w.alloc (.cells #[.int .i64 0, .slice none 0 0] 26)) := box_below0
  go_enter Try.func8, Try.ntmps8
  go_wp2_with fail
  refine (l1New_any a n cap zs _ (h.below hbx) hn).mono ?_
  rintro e w1 ⟨cb, rfl, hcb, c1, U1⟩
  have hcb2 : w.heap.size + 1 ≤ cb := by simpa using hcb
  have bR1 : w1.heap[w.heap.size]? = some (.cells #[.int .i64 0, .slice none 0 0] 26 (0, 0)) := (U1.block _ (by simp)).trans (heap_alloc_new _ _)
  have V1 := hbx.then U1 hbx.size
  have l1 := c1.lt
  go_wp2_with fail
  refine (l2DrawAny_any cb a n cap zs _ c1).mono ?_
  rintro e w2 ⟨T, v, m, c', ls, rfl, hL, hv, hT, hm, c2, b2⟩
  have z1 := b2.size
  have bR2 := (b2.block _ (lt_of_block bR1) (by omega)).trans bR1
  have V2 : Below w.heap.size w w2 := V1.trans (b2.below (by omega) V1.size)
  have lR2 := lt_of_block bR2
  have H2 : DrawB w cb w2.heap.size T v m c' ls a n cap zs (w2.alloc (.cells #[.int .i64 T, .slice v m c'] 26)) :=
    ⟨(Below.heap_alloc _ _ _ lR2).trans bR2, heap_alloc_new _ _, hL.below box_below0, fun h0 b off e => by
      have h1 := hv b off e
      obtain ⟨b', off', e', h2, _⟩ := hL.at_ h0
      rw [e] at e'; cases e'
      exact ⟨by omega, by omega, by omega⟩, hT, hm, c2.but box_below0 c2.lt, V2.alloc V2.size _, ⟨by omega, by have := c2.lt; omega⟩⟩
  clear hL hv c1 c2 b2 U1 bR1 bR2 V1 V2 hcb hbx
  go_wp2_with fail
  generalize hP : w2.heap.size = P at H2 ⊢
  clear hP
  refine (l1DrawTime_any cb a n cap zs _ H2.cur).mono ?_
  rintro e w3 ⟨x, rfl, xb, k3, b3⟩
  have H3 := H2.step k3 b3
  clear H2 k3 b3
  go_wp2_with fail
  refine (l1Below_any cb a n cap zs 15 _ H3.cur (by omega) (by omega)).mono ?_
  rintro e w4 ⟨y, rfl, y0, y1, k4, b4⟩
  have H4 := H3.step k4 b4
  clear H3 k4 b4
  go_wp2_with fail
  refine (l1Once_any cb a n cap zs 10 _ H4.cur (by omega) (by omega)).mono ?_
  rintro e w5 ⟨b, rfl, k5, b5⟩
  have H5 := H4.step k5 b5
  clear H4 k5 b5
  cases b with
  | false =>
    obtain ⟨p0, p1, _, _⟩ := boxed H5.pb
    have hne : P ≠ w.heap.size := by have := H5.ne; omega
    have hne2 : w.heap.size ≠ P := by omega
    have K5 := H5.below (Below.refl _ _).drew
    go_wp2_with fail
    go_region_with ((go_at_call 38; refine (l1From_any cb a n cap zs (-1) 10 _ K5.cur (by omega) (by omega) (by omega)).mono ?_; rintro e wz ⟨z, rfl, z0, z1, kz, bz⟩; have HZ := K5.step kz bz; obtain ⟨s0, s1, _, _⟩ := boxed HZ.pb; obtain ⟨r0, r1, g0, g1⟩ := boxed HZ.rb; have HF : Hid _ := HZ.fin; clear kz bz))
    all_goals
      go_wp2
      obtain ⟨F0, F1, F2⟩ := HF.out
      obtain ⟨f0, f1, _, _⟩ := boxed F0
      generalize (wz.setCell ⟨w.heap.size, 0, none⟩ (.int .i64 T)).setCell ⟨w.heap.size, 1, none⟩ (.slice v m c') = WF at F0 F1 F2 f0 f1 ⊢
      exact bodyPost_ret (v := .tuple #[.agg #[.int .i64 T, .slice v m c'], .int .i64 x, .int .i64 y, .int .i64 z]) (by simp [results, Try.results8, go_sem, f0, f1]) rfl ⟨T, v, m, c', ls, x, y, z, rfl, F1, HZ.tb, xb, ⟨by omega, by omega⟩, ⟨z0, z1⟩, F2⟩
  | true =>
    go_wp2_with fail
    refine (l1DrawTime_any cb a n cap zs _ H5.cur).mono ?_
    rintro e w6 ⟨u, rfl, ub, k6, b6⟩
    have H6 := H5.step k6 b6
    clear H5 k6 b6
    obtain ⟨p0, p1, _, _⟩ := boxed H6.pb
    have hne : P ≠ w.heap.size := by have := H6.ne; omega
    have hne2 : w.heap.size ≠ P := by omega
    have K6 := H6.below (Below.refl _ _).drew
    go_wp2_with fail
    go_region_with ((go_at_call 38; refine (l1From_any cb a n cap zs (-1) 10 _ K6.cur (by omega) (by omega) (by omega)).mono ?_; rintro e wz ⟨z, rfl, z0, z1, kz, bz⟩; have HZ := K6.step kz bz; obtain ⟨s0, s1, _, _⟩ := boxed HZ.pb; obtain ⟨r0, r1, g0, g1⟩ := boxed HZ.rb; have HF : Hid _ := HZ.fin; clear kz bz))
    all_goals
      go_wp2
      obtain ⟨F0, F1, F2⟩ := HF.out
      obtain ⟨f0, f1, _, _⟩ := boxed F0
      generalize (wz.setCell ⟨w.heap.size, 0, none⟩ (.int .i64 T)).setCell ⟨w.heap.size, 1, none⟩ (.slice v m c') = WF at F0 F1 F2 f0 f1 ⊢
      exact bodyPost_ret (v := .tuple #[.agg #[.int .i64 T, .slice v m c'], .int .i64 x, .int .i64 u, .int .i64 z]) (by simp [results, Try.results8, go_sem, f0, f1]) rfl ⟨T, v, m, c', ls, x, u, z, rfl, F1, HZ.tb, xb, ub, ⟨z0, z1⟩, F2⟩

end Go.Proofs.Ytdaedggmeoganaa
