/- The draws of chapter 10: a profile, jobs, a time. -/
import Derived.Test.YtcmpenlgkccgkaaProfDraw4
import Derived.Test.YtcmpenlgkccgkaaJobDraw2
import Derived.Test.YtcmpenlgkccgkaaJobDraw
import Derived.Deep.Cut
namespace Go.Proofs.Ytcmpenlgkccgkaa
open Go.RowKit Go.Sort

set_option maxRecDepth 8000 in
set_option maxHeartbeats 4000000 in
theorem drawPlanned_any (a : Option Addr) (n cap : Nat) (zs : List Int) (w : World) (h : IsBytes w a n cap zs) (hn : n ≤ 4096) :
    Calls Try.prog 26 #[.slice a n cap] w fun e w' => ∃ (T : Int) (v : Option Addr) (m c' : Nat) (ls : List Lev) (g c : Nat) (ys : List Jb) (x : Int), e = .returned (.tuple #[.agg #[.int .i64 T, .slice v m c'], .slice (some ⟨g, 0, none⟩) ys.length c, .int .i64 x]) ∧ LevS w' v m c' ls ∧ (-1 ≤ T ∧ T ≤ 1001) ∧ m ≤ 201 ∧ JobS w' (some ⟨g, 0, none⟩) ys.length c ys ∧ ys.length ≤ 40 ∧ (-9223372036854775808 ≤ x ∧ x ≤ 9223372036854775807) ∧ Below w.heap.size w w' := by
  have hbx : Below w.heap.size w (w.alloc (.cells #[.int .i64 0, .slice none 0 0] 38)) := box_below0
  go_enter Try.func26, Try.ntmps26
  go_wp2_with fail
  refine (l1New_any a n cap zs _ (h.below hbx) hn).mono ?_
  rintro e w1 ⟨cb, rfl, hcb, c1, U1⟩
  have hcb2 : w.heap.size + 1 ≤ cb := by simpa using hcb
  have bR1 : w1.heap[w.heap.size]? = some (.cells #[.int .i64 0, .slice none 0 0] 38 (0, 0)) := (U1.block _ (by simp)).trans (heap_alloc_new _ _)
  have V1 := hbx.then U1 hbx.size
  have l1 := c1.lt
  go_wp2_with fail
  refine (l2DrawAny_any cb a n cap zs _ c1).mono ?_
  rintro e w2 ⟨T, v, m, c', ls, rfl, hL, hv, hT, hm, c2, b2⟩
  have z1 := b2.size
  have bR2 := (b2.block _ (lt_of_block bR1) (by omega)).trans bR1
  have V2 : Below w.heap.size w w2 := V1.trans (b2.below (by omega) V1.size)
  have lR2 := lt_of_block bR2
  have H2 : DrawB w cb w2.heap.size T v m c' ls a n cap zs (w2.alloc (.cells #[.int .i64 T, .slice v m c'] 38)) :=
    ⟨(Below.heap_alloc _ _ _ lR2).trans bR2, heap_alloc_new _ _, hL.below box_below0, fun h0 b off e => by
      have h1 := hv b off e
      obtain ⟨b', off', e', h2, _⟩ := hL.at_ h0
      rw [e] at e'; cases e'
      exact ⟨by omega, by omega, by omega⟩, hT, hm, c2.but box_below0 c2.lt, V2.alloc V2.size _, ⟨by omega, by have := c2.lt; omega⟩⟩
  have zP : w2.heap.size < (w2.alloc (.cells #[.int .i64 T, .slice v m c'] 38)).heap.size := by simp
  clear hL hv c1 c2 b2 U1 bR1 bR2 V1 V2 hcb hbx
  go_wp2_with fail
  generalize hP : w2.heap.size = P at H2 zP ⊢
  clear hP
  refine (l3DrawAny_any cb a n cap zs 5 _ H2.cur (by omega) (by omega)).mono ?_
  rintro e w3 ⟨g, c, ys, rfl, O3, hy, hA, k3, b3⟩
  have H3 := H2.step k3 b3
  have hgb := O3.base
  have hPb := H2.ne
  have hgl := O3.lt
  clear H2 k3 b3
  obtain ⟨p0, p1, _, _⟩ := boxed H3.pb
  have hne : P ≠ w.heap.size := by omega
  have hne2 : w.heap.size ≠ P := by omega
  have K2 := H3.below (Below.refl _ _).drew
  go_wp2_with fail
  go_region_with ((go_at_call 56; refine (l1DrawTime_any cb a n cap zs _ K2.cur).mono ?_; rintro e wz ⟨z, rfl, zb, kz, bz⟩; have HZ := K2.step kz bz; obtain ⟨s0, s1, _, _⟩ := boxed HZ.pb; obtain ⟨r0, r1, g0, g1⟩ := boxed HZ.rb; have HF : Hid _ := HZ.fin; have OZ : OwnJ wz _ g c ys := O3.blk (w' := wz) (bz.block g hgl (by omega)); clear kz bz))
  all_goals
    go_wp2
    obtain ⟨F0, F1, F2⟩ := HF.out
    obtain ⟨f0, f1, _, _⟩ := boxed F0
    have OF : OwnJ ((wz.setCell ⟨w.heap.size, 0, none⟩ (.int .i64 T)).setCell ⟨w.heap.size, 1, none⟩ (.slice v m c')) _ g c ys := OZ.blk ((Below.heap_setCell _ _ _ _ (by simp; omega)).trans (Below.heap_setCell _ _ _ _ (by simp; omega)))
    generalize (wz.setCell ⟨w.heap.size, 0, none⟩ (.int .i64 T)).setCell ⟨w.heap.size, 1, none⟩ (.slice v m c') = WF at F0 F1 F2 f0 f1 OF ⊢
    exact bodyPost_ret (v := .tuple #[.agg #[.int .i64 T, .slice v m c'], .slice (some ⟨g, 0, none⟩) ys.length c, .int .i64 z]) (by simp [results, Try.results26, go_sem, f0, f1]) rfl ⟨T, v, m, c', ls, g, c, ys, z, rfl, F1, HZ.tb, HZ.nb, OF.toS (fun i hi => (hA _ (by rw [jg_get hi]; exact List.getElem_mem hi)).wf), hy, zb, F2⟩

end Go.Proofs.Ytcmpenlgkccgkaa
