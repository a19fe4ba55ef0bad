/- The draws of chapter 10: a profile, jobs, starts. -/
import Derived.Test.YtfepkchopndpeaaPlanDr
import Derived.Test.YtfepkchopndpeaaPlanW
namespace Go.Proofs.Ytfepkchopndpeaa
open Go.RowKit Go.Sort

/-- a profile drawn, jobs beside it -/
structure DJ (w0 : World) (cb P gb : Nat) (T : Int) (v : Option Addr) (m c' : Nat) (ls : List Lev) (g c : Nat) (ys : List Jb) (a : Option Addr) (n cap : Nat) (zs : List Int) (W : World) : Prop where
  d : DrawB w0 cb P T v m c' ls a n cap zs W
  o : OwnJ W gb g c ys
  gc : g ≠ cb
  gr : w0.heap.size < g
variable {w0 W W' : World} {cb P gb m c' g c n cap : Nat} {T : Int} {v a : Option Addr} {ls : List Lev} {ys : List Jb} {zs : List Int}
theorem DJ.step (h : DJ w0 cb P gb T v m c' ls g c ys a n cap zs W) (k : CurAt W' cb a n cap zs) (b : But cb W W') : DJ w0 cb P gb T v m c' ls g c ys a n cap zs W' :=
  ⟨h.d.step k b, h.o.blk (b.block g h.o.lt h.gc), h.gc, h.gr⟩
theorem DJ.below (h : DJ w0 cb P gb T v m c' ls g c ys a n cap zs W) (b : Below W.heap.size W W') : DJ w0 cb P gb T v m c' ls g c ys a n cap zs W' := h.step (h.d.cur.but b h.d.cur.lt) (But.of b)
theorem DJ.jobs (h : DJ w0 cb P gb T v m c' ls g c ys a n cap zs W) (hA : allSmall ys) : JobS W (some ⟨g, 0, none⟩) ys.length c ys := h.o.toS (fun i hi => (hA _ (by rw [jg_get hi]; exact List.getElem_mem hi)).wf)
theorem IntS.blkS {w w' : World} {a : Option Addr} {n cap : Nat} {zs : List Int} (h : IntS w a n cap zs) (hz : w.heap.size ≤ w'.heap.size) (hk : 0 < n → ∀ b off, a = some ⟨b, off, none⟩ → w'.heap[b]? = w.heap[b]?) : IntS w' a n cap zs :=
  ⟨h.len, h.le, h.mx, fun hn => by
    obtain ⟨b, off, e, h1, h2⟩ := h.at_ hn
    exact ⟨b, off, e, Nat.lt_of_lt_of_le h1 hz, fun i hi => (World.cell?_of_block (w := w) (a := ⟨b, off + i, none⟩) (hk hn b off e)).trans (h2 i hi)⟩⟩
/-- a profile drawn, jobs beside it; the cursor forgotten -/
structure DK (w0 : World) (P : Nat) (T : Int) (v : Option Addr) (m c' : Nat) (ls : List Lev) (g c : Nat) (ys : List Jb) (W : World) : Prop where
  rb : W.heap[w0.heap.size]? = some (.cells #[.int .i64 0, .slice none 0 0] 26 (0, 0))
  pb : W.heap[P]? = some (.cells #[.int .i64 T, .slice v m c'] 26 (0, 0))
  lv : LevS W v m c' ls
  vb : 0 < m → ∀ b off, v = some ⟨b, off, none⟩ → b ≠ w0.heap.size
  tb : -1 ≤ T ∧ T ≤ 1001
  nb : m ≤ 201
  jb : JobS W (some ⟨g, 0, none⟩) ys.length c ys
  gr : w0.heap.size < g
  bel : Below w0.heap.size w0 W
  pr : w0.heap.size < P
theorem DJ.toK (h : DJ w0 cb P gb T v m c' ls g c ys a n cap zs W) (hA : allSmall ys) : DK w0 P T v m c' ls g c ys W :=
  ⟨h.d.rb, h.d.pb, h.d.lv, fun h0 b off e => (h.d.vb h0 b off e).2.2, h.d.tb, h.d.nb, h.jobs hA, h.gr, h.d.bel, by have := h.d.ne; omega⟩
theorem JobS.blkS {w w' : World} {b n cap : Nat} {ls : List Jb} (h : JobS w (some ⟨b, 0, none⟩) n cap ls) (hz : w.heap.size ≤ w'.heap.size) (hk : w'.heap[b]? = w.heap[b]?) : JobS w' (some ⟨b, 0, none⟩) n cap ls :=
  ⟨h.len, h.le, h.mx, h.nil, h.wf, fun hn => by
    obtain ⟨b', off, e, h1, h2⟩ := h.at_ hn
    have e' := e
    injection e' with e'; injection e' with e1 _ _
    subst e1
    exact ⟨b, off, e, Nat.lt_of_lt_of_le h1 hz, fun i hi c hc => (World.cell?_of_block (w := w) (a := ⟨b, off + i * 7 + c, none⟩) hk).trans (h2 i hi c hc)⟩⟩
theorem DK.set {r i : Nat} {u : Value} (h : DK w0 P T v m c' ls g c ys W) (h1 : w0.heap.size < r) (h2 : r ≠ P) (h3 : r ≠ g) (h4 : 0 < m → ∀ b off, v = some ⟨b, off, none⟩ → b ≠ r) : DK w0 P T v m c' ls g c ys (W.setCell ⟨r, i, none⟩ u) := by
  have hk : ∀ k, k ≠ r → (W.setCell ⟨r, i, none⟩ u).heap[k]? = W.heap[k]? := fun k hk => Below.heap_setCell _ _ _ _ hk
  have hz : W.heap.size ≤ (W.setCell ⟨r, i, none⟩ u).heap.size := by simp [World.setCell]
  exact ⟨(hk _ (by omega)).trans h.rb, (hk _ (Ne.symm h2)).trans h.pb, levs_keep0 h.lv (fun h0 b off e _ => hk b (h4 h0 b off e)) hz, h.vb, h.tb, h.nb, h.jb.blkS hz (hk g (Ne.symm h3)), h.gr, h.bel.setCell (Nat.le_of_lt h1) _, h.pr⟩
/-- the profile stored into the answer's box, all as told -/
theorem DK.fin (h : DK w0 P T v m c' ls g c ys W) {av : Option Addr} {cs : Nat} {ss : List Int} (hI : IntS W av ss.length cs ss) (hb : 0 < ss.length → ∀ b off, av = some ⟨b, off, none⟩ → b ≠ w0.heap.size) :
    ((W.setCell ⟨w0.heap.size, 0, none⟩ (.int .i64 T)).setCell ⟨w0.heap.size, 1, none⟩ (.slice v m c')).heap[w0.heap.size]? = some (.cells #[.int .i64 T, .slice v m c'] 26 (0, 0)) ∧
    LevS ((W.setCell ⟨w0.heap.size, 0, none⟩ (.int .i64 T)).setCell ⟨w0.heap.size, 1, none⟩ (.slice v m c')) v m c' ls ∧
    JobS ((W.setCell ⟨w0.heap.size, 0, none⟩ (.int .i64 T)).setCell ⟨w0.heap.size, 1, none⟩ (.slice v m c')) (some ⟨g, 0, none⟩) ys.length c ys ∧
    IntS ((W.setCell ⟨w0.heap.size, 0, none⟩ (.int .i64 T)).setCell ⟨w0.heap.size, 1, none⟩ (.slice v m c')) av ss.length cs ss ∧
    Below w0.heap.size w0 ((W.setCell ⟨w0.heap.size, 0, none⟩ (.int .i64 T)).setCell ⟨w0.heap.size, 1, none⟩ (.slice v m c')) := by
  have hgr := h.gr
  obtain ⟨F0, _⟩ := Proofs.Ytfepkchopndpeaa.set2 h.rb (.int .i64 T) (.slice v m c')
  have hk : ∀ k, k ≠ w0.heap.size → ((W.setCell ⟨w0.heap.size, 0, none⟩ (.int .i64 T)).setCell ⟨w0.heap.size, 1, none⟩ (.slice v m c')).heap[k]? = W.heap[k]? := fun k hk => (Below.heap_setCell _ _ _ _ hk).trans (Below.heap_setCell _ _ _ _ hk)
  have hz : W.heap.size ≤ ((W.setCell ⟨w0.heap.size, 0, none⟩ (.int .i64 T)).setCell ⟨w0.heap.size, 1, none⟩ (.slice v m c')).heap.size := by simp [World.setCell]
  exact ⟨F0, levs_keep0 h.lv (fun h0 b off e _ => hk b (h.vb h0 b off e)) hz, h.jb.blkS hz (hk g (by omega)), hI.blkS hz (fun h0 b off e => hk b (hb h0 b off e)), (h.bel.setCell (Nat.le_refl _) _).setCell (Nat.le_refl _) _⟩
theorem IntB.blk {w w' : World} {B n : Nat} {zs : List Int} (h : IntB w B n zs) (hb : w'.heap[B]? = w.heap[B]?) : IntB w' B n zs := by
  obtain ⟨cur, h1, h2⟩ := h
  exact ⟨cur, hb.trans h1, h2⟩
/-- a number put into a row of one's own -/
theorem IntB.put {w : World} {B n i : Nat} {zs : List Int} {z : Int} (h : IntB w B n zs) (hl : zs.length = n) (hi : i < n) : IntB (w.setCell ⟨B, i, none⟩ (.int .i64 z)) B n (zs.set i z) := by
  obtain ⟨cur, h1, h2, h3⟩ := h
  refine ⟨_, blk_set h1 _, by simpa using h2, fun k hk => ?_⟩
  rw [Array.getElem?_setIfInBounds]
  by_cases e : i = k
  · subst e
    rw [if_pos rfl, if_pos (by omega)]
    simp [zg, hl, hi]
  · rw [if_neg e, h3 k hk]
    simp [zg, e]
/-- what a start is turned to -/
def odd7 (i : Nat) : Int := [-1, 0, 1, 5, 1000000000, 1000000001, -2].getD i 0
theorem odd7_at {i : Nat} (h : i < 7) (W : World) (T' : TypeId) : (W.alloc (.cells #[.int .i64 (-1), .int .i64 0, .int .i64 1, .int .i64 5, .int .i64 1000000000, .int .i64 1000000001, .int .i64 (-2)] T')).heap[W.heap.size]? = some (.cells #[.int .i64 (-1), .int .i64 0, .int .i64 1, .int .i64 5, .int .i64 1000000000, .int .i64 1000000001, .int .i64 (-2)] T' (0, 0)) ∧ (#[Value.int .i64 (-1), .int .i64 0, .int .i64 1, .int .i64 5, .int .i64 1000000000, .int .i64 1000000001, .int .i64 (-2)] : Array Value)[i]? = some (.int .i64 (odd7 i)) := by
  refine ⟨heap_alloc_new _ _, ?_⟩
  obtain rfl | rfl | rfl | rfl | rfl | rfl | rfl : i = 0 ∨ i = 1 ∨ i = 2 ∨ i = 3 ∨ i = 4 ∨ i = 5 ∨ i = 6 := by omega
  all_goals rfl

set_option maxRecDepth 8000 in
set_option maxHeartbeats 8000000 in
theorem drawPlanOk_any (a : Option Addr) (n cap : Nat) (zs : List Int) (w : World) (h : IsBytes w a n cap zs) (hn : n ≤ 4096) :
    Calls Try.prog 8 #[.slice a n cap] w fun e w' => ∃ (T : Int) (v : Option Addr) (m c' : Nat) (ls : List Lev) (g c : Nat) (ys : List Jb) (av : Option Addr) (cs : Nat) (ss : List Int), e = .returned (.tuple #[.agg #[.int .i64 T, .slice v m c'], .slice (some ⟨g, 0, none⟩) ys.length c, .slice av ss.length cs]) ∧ LevS w' v m c' ls ∧ (-1 ≤ T ∧ T ≤ 1001) ∧ m ≤ 201 ∧ JobS w' (some ⟨g, 0, none⟩) ys.length c ys ∧ ys.length ≤ 40 ∧ IntS w' av ss.length cs ss ∧ ss.length ≤ 40 ∧ Below w.heap.size w w' := by
  have hbx : Below w.heap.size w (w.alloc (.cells #[.int .i64 0, .slice none 0 0] 26)) := box_below0
  go_enter Try.func8, Try.ntmps8
  go_wp2_with fail
  refine (l1New_any a n cap zs _ (h.below hbx) hn).mono ?_
  rintro e w1 ⟨cb, rfl, hcb, c1, U1⟩
  have hcb2 : w.heap.size + 1 ≤ cb := by simpa using hcb
  have bR1 : w1.heap[w.heap.size]? = some (.cells #[.int .i64 0, .slice none 0 0] 26 (0, 0)) := (U1.block _ (by simp)).trans (heap_alloc_new _ _)
  have V1 := hbx.then U1 hbx.size
  have l1 := c1.lt
  go_wp2_with fail
  refine (l2DrawAny_any cb a n cap zs _ c1).mono ?_
  rintro e w2 ⟨T, v, m, c', ls, rfl, hL, hv, hT, hm, c2, b2⟩
  have z1 := b2.size
  have bR2 := (b2.block _ (lt_of_block bR1) (by omega)).trans bR1
  have V2 : Below w.heap.size w w2 := V1.trans (b2.below (by omega) V1.size)
  have lR2 := lt_of_block bR2
  have H2 : DrawB w cb w2.heap.size T v m c' ls a n cap zs (w2.alloc (.cells #[.int .i64 T, .slice v m c'] 26)) :=
    ⟨(Below.heap_alloc _ _ _ lR2).trans bR2, heap_alloc_new _ _, hL.below box_below0, fun h0 b off e => by
      have h1 := hv b off e
      obtain ⟨b', off', e', h2, _⟩ := hL.at_ h0
      rw [e] at e'; cases e'
      exact ⟨by omega, by omega, by omega⟩, hT, hm, c2.but box_below0 c2.lt, V2.alloc V2.size _, ⟨by omega, by have := c2.lt; omega⟩⟩
  have zP : w2.heap.size < (w2.alloc (.cells #[.int .i64 T, .slice v m c'] 26)).heap.size := by simp
  clear hL hv c1 c2 b2 U1 bR1 bR2 V1 V2 hcb hbx
  go_wp2_with fail
  generalize hP : w2.heap.size = P at H2 zP ⊢
  clear hP
  refine (l3DrawAny_any cb a n cap zs 5 _ H2.cur (by omega) (by omega)).mono ?_
  rintro e w3 ⟨g, c, ys, rfl, O3, hy, hA, k3, b3⟩
  have H3 := H2.step k3 b3
  have hgb := O3.base
  have hPb := H2.ne
  have hgl := O3.lt
  clear H2 k3 b3
  have D3 : DJ w cb P _ T v m c' ls g c ys a n cap zs w3 := ⟨H3, O3, by omega, by omega⟩
  have HA : Hid (allSmall ys) := hA
  obtain ⟨p0, p1, _, _⟩ := boxed H3.pb
  have hne : P ≠ w.heap.size := by omega
  have hne2 : w.heap.size ≠ P := by omega
  have K2 := D3.below (Below.refl _ _).drew
  clear H3 O3 hA
  go_wp2_with fail
  go_region_with (first
    | (go_at_call 29; refine (l1Below_any cb a n cap zs 5 _ K2.d.cur (by omega) (by omega)).mono ?_; rintro e wb ⟨x, rfl, x0, x1, kb, bb⟩; have DB := K2.step kb bb; obtain ⟨s0, s1, _, _⟩ := boxed DB.d.pb; clear kb bb)
    | (go_at_call 12; refine (specPlanned_any T x v (some ⟨g, 0, none⟩) m c' ys.length c ls ys _ DB.d.lv (DB.jobs HA.out)).mono ?_; rintro e wp ⟨vv, rfl, hO, hbp⟩; have DP := DB.below hbp; have zb := DB.d.cur.lt; have zb2 := DB.d.bel.size))
  all_goals
    obtain ⟨av, cs, hv, hL⟩ := hO.toL
    subst hv
    obtain ⟨ss, hss⟩ : ∃ ss, ss = plF T false ls ys x := ⟨_, rfl⟩
    have hs40 : ss.length ≤ 40 := by
      rw [hss]; unfold plF; split
      · rw [staK_len]; exact hy
      · simp
    have hvb : 0 < m → ∀ b off, v = some ⟨b, off, none⟩ → b < wb.heap.size := fun h0 b off e => by
      obtain ⟨b', off', e', h1, _⟩ := DB.d.lv.at_ h0
      rw [e] at e'; cases e'; exact h1
    have hgwb := DB.o.lt
    have hPwb := lt_of_block DB.d.pb
    rw [← hss] at hL ⊢
    clear hss hO p0 p1
    obtain ⟨_, hL2⟩ := hL
    go_wp2_with fail
    refine (l1Once_any cb a n cap zs 2 _ DP.d.cur (by omega) (by omega)).mono ?_
    rintro e w4 ⟨b, rfl, k4, b4⟩
    have D4 := DP.step k4 b4
    rcases hL2 with ⟨rfl, rfl, rfl⟩ | ⟨r, rfl, hrb, R1, hrc, hrm⟩
    · cases b with
      | false =>
        have KF := D4.toK HA.out
        obtain ⟨t0, t1, _, _⟩ := boxed KF.pb
        obtain ⟨r0, r1, g0, g1⟩ := boxed KF.rb
        have HF : Hid _ := KF.fin (ss := []) (IntS.nil_ w4) (fun h0 => absurd h0 (by simp))
        have HTB : Hid _ := KF.tb
        have HNB : Hid _ := KF.nb
        clear KF
        go_wp2
        obtain ⟨F0, F1, F2, F3, F4⟩ := HF.out
        obtain ⟨f0, f1, _, _⟩ := boxed F0
        generalize (w4.setCell ⟨w.heap.size, 0, none⟩ (.int .i64 T)).setCell ⟨w.heap.size, 1, none⟩ (.slice v m c') = WF at F0 F1 F2 F3 F4 f0 f1 ⊢
        exact bodyPost_ret (v := .tuple #[.agg #[.int .i64 T, .slice v m c'], .slice (some ⟨g, 0, none⟩) ys.length c, .slice none 0 0]) (by simp [results, Try.results8, go_sem, f0, f1]) rfl ⟨T, v, m, c', ls, g, c, ys, none, 0, [], by first | rfl | (rw [List.length_set]), F1, HTB.out, HNB.out, F2, hy, F3, by simp, F4⟩
      | true =>
        have KF := D4.toK HA.out
        obtain ⟨t0, t1, _, _⟩ := boxed KF.pb
        obtain ⟨r0, r1, g0, g1⟩ := boxed KF.rb
        have HF : Hid _ := KF.fin (ss := []) (IntS.nil_ w4) (fun h0 => absurd h0 (by simp))
        have HTB : Hid _ := KF.tb
        have HNB : Hid _ := KF.nb
        clear KF
        go_wp2
        obtain ⟨F0, F1, F2, F3, F4⟩ := HF.out
        obtain ⟨f0, f1, _, _⟩ := boxed F0
        generalize (w4.setCell ⟨w.heap.size, 0, none⟩ (.int .i64 T)).setCell ⟨w.heap.size, 1, none⟩ (.slice v m c') = WF at F0 F1 F2 F3 F4 f0 f1 ⊢
        exact bodyPost_ret (v := .tuple #[.agg #[.int .i64 T, .slice v m c'], .slice (some ⟨g, 0, none⟩) ys.length c, .slice none 0 0]) (by simp [results, Try.results8, go_sem, f0, f1]) rfl ⟨T, v, m, c', ls, g, c, ys, none, 0, [], by first | rfl | (rw [List.length_set]), F1, HTB.out, HNB.out, F2, hy, F3, by simp, F4⟩
    · have hrl := R1.lt
      have R4 := R1.blk (b4.block r hrl (by omega))
      have hrR : 0 < ss.length → ∀ b off, (some ⟨r, 0, none⟩ : Option Addr) = some ⟨b, off, none⟩ → b ≠ w.heap.size := fun _ b off e => by injection e with e; injection e with e _ _; omega
      have z4 := b4.size
      have zp := hbp.size
      cases b with
      | false =>
        have KF := D4.toK HA.out
        obtain ⟨t0, t1, _, _⟩ := boxed KF.pb
        obtain ⟨r0, r1, g0, g1⟩ := boxed KF.rb
        have HF : Hid _ := KF.fin (R4.toS rfl hrc hrm) hrR
        have HTB : Hid _ := KF.tb
        have HNB : Hid _ := KF.nb
        clear KF
        go_wp2
        obtain ⟨F0, F1, F2, F3, F4⟩ := HF.out
        obtain ⟨f0, f1, _, _⟩ := boxed F0
        generalize (w4.setCell ⟨w.heap.size, 0, none⟩ (.int .i64 T)).setCell ⟨w.heap.size, 1, none⟩ (.slice v m c') = WF at F0 F1 F2 F3 F4 f0 f1 ⊢
        exact bodyPost_ret (v := .tuple #[.agg #[.int .i64 T, .slice v m c'], .slice (some ⟨g, 0, none⟩) ys.length c, .slice (some ⟨r, 0, none⟩) ss.length cs]) (by simp [results, Try.results8, go_sem, f0, f1]) rfl ⟨T, v, m, c', ls, g, c, ys, (some ⟨r, 0, none⟩), cs, ss, by first | rfl | (rw [List.length_set]), F1, HTB.out, HNB.out, F2, hy, F3, hs40, F4⟩
      | true =>
        by_cases hs0 : 0 < ss.length
        · have hs0' : (0 : Int) < (ss.length : Int) := by omega
          go_wp2_with fail
          refine (l1Below_any cb a n cap zs (ss.length : Int) _ D4.d.cur (by omega) (by omega)).mono ?_
          rintro e w5 ⟨xi, rfl, xi0, xi1, k5, b5⟩
          obtain ⟨i, rfl⟩ := Int.eq_ofNat_of_zero_le xi0
          have hi : i < ss.length := by omega
          have D5 := D4.step k5 b5
          have R5 := R4.blk (b5.block r (by omega) (by omega))
          obtain ⟨W5, hW5⟩ : ∃ W5, W5 = w5.alloc (.cells #[.int .i64 (-1), .int .i64 0, .int .i64 1, .int .i64 5, .int .i64 1000000000, .int .i64 1000000001, .int .i64 (-2)] 2) := ⟨_, rfl⟩
          have bb5 : Below w5.heap.size w5 W5 := by rw [hW5]; exact box_below0
          have KO : Hid (∀ j, j < 7 → W5.heap[w5.heap.size]? = some (.cells #[.int .i64 (-1), .int .i64 0, .int .i64 1, .int .i64 5, .int .i64 1000000000, .int .i64 1000000001, .int .i64 (-2)] 2 (0, 0)) ∧ (#[Value.int .i64 (-1), .int .i64 0, .int .i64 1, .int .i64 5, .int .i64 1000000000, .int .i64 1000000001, .int .i64 (-2)] : Array Value)[j]? = some (.int .i64 (odd7 j))) := fun j hj => by rw [hW5]; exact odd7_at hj w5 _
          have lW5 : w5.heap.size < W5.heap.size := by rw [hW5]; simp
          have D5a := D5.below bb5
          have R5a := R5.below bb5
          have z5 := b5.size
          have l5 := D5.d.cur.lt
          go_wp2_with fail
          rw [← hW5]
          clear hW5
          refine (l1Below_any cb a n cap zs 7 _ D5a.d.cur (by omega) (by omega)).mono ?_
          rintro e w6 ⟨xj, rfl, xj0, xj1, k6, b6⟩
          obtain ⟨j, rfl⟩ := Int.eq_ofNat_of_zero_le xj0
          have hj7 : j < 7 := by omega
          have D6 := D5a.step k6 b6
          have R6 := R5a.blk (b6.block r (by have := bb5.size; omega) (by omega))
          obtain ⟨e1, e2⟩ := KO.out j hj7
          have s0 : w6.cell? ⟨w5.heap.size, j, none⟩ = some (.int .i64 (odd7 j)) := (World.cell?_of_block (a := ⟨w5.heap.size, j, none⟩) (b6.block w5.heap.size lW5 (by omega))).trans (by simp [World.cell?, e1, e2])
          have s1 := R6.cell (i := i) hi
          have s2 : w6.frozen? ⟨r, i, none⟩ = false := by obtain ⟨cur, q1, _⟩ := R6; exact free_of_blk i q1
          have hls : (ss.set i (odd7 j)).length = ss.length := List.length_set ..
          have R7 : IntB (w6.setCell ⟨r, i, none⟩ (.int .i64 (odd7 j))) r (ss.set i (odd7 j)).length (ss.set i (odd7 j)) := by rw [hls]; exact R6.put rfl hi
          have K7 := (D6.toK HA.out).set (r := r) (i := i) (u := .int .i64 (odd7 j)) (by omega) (by omega) (by omega) (fun h0 b off e => by have := hvb h0 b off e; omega)
          obtain ⟨w7, hw7⟩ : ∃ w7, w7 = w6.setCell ⟨r, i, none⟩ (.int .i64 (odd7 j)) := ⟨_, rfl⟩
          rw [← hw7] at R7 K7
          obtain ⟨z7, hz7⟩ : ∃ z7, z7 = odd7 j := ⟨_, rfl⟩
          clear D6 D5a R5a e1 e2 KO bb5
          go_upto_region 7 with fail
          rw [← hw7]
          clear hw7 s0 s1 s2
          have KF := K7
          obtain ⟨t0, t1, _, _⟩ := boxed KF.pb
          obtain ⟨r0, r1, g0, g1⟩ := boxed KF.rb
          have HF : Hid _ := KF.fin (R7.toS rfl (by rw [hls]; exact hrc) hrm) (fun _ b off e => hrR hs0 b off e)
          have HTB : Hid _ := KF.tb
          have HNB : Hid _ := KF.nb
          clear KF
          go_wp2
          obtain ⟨F0, F1, F2, F3, F4⟩ := HF.out
          obtain ⟨f0, f1, _, _⟩ := boxed F0
          generalize (w7.setCell ⟨w.heap.size, 0, none⟩ (.int .i64 T)).setCell ⟨w.heap.size, 1, none⟩ (.slice v m c') = WF at F0 F1 F2 F3 F4 f0 f1 ⊢
          exact bodyPost_ret (v := .tuple #[.agg #[.int .i64 T, .slice v m c'], .slice (some ⟨g, 0, none⟩) ys.length c, .slice (some ⟨r, 0, none⟩) ss.length cs]) (by simp [results, Try.results8, go_sem, f0, f1]) rfl ⟨T, v, m, c', ls, g, c, ys, (some ⟨r, 0, none⟩), cs, (ss.set i (odd7 j)), by first | rfl | (rw [List.length_set]), F1, HTB.out, HNB.out, F2, hy, F3, (by rw [hls]; exact hs40), F4⟩
        · have hs0' : ¬ (0 : Int) < (ss.length : Int) := by omega
          have KF := D4.toK HA.out
          obtain ⟨t0, t1, _, _⟩ := boxed KF.pb
          obtain ⟨r0, r1, g0, g1⟩ := boxed KF.rb
          have HF : Hid _ := KF.fin (R4.toS rfl hrc hrm) hrR
          have HTB : Hid _ := KF.tb
          have HNB : Hid _ := KF.nb
          clear KF
          go_wp2
          obtain ⟨F0, F1, F2, F3, F4⟩ := HF.out
          obtain ⟨f0, f1, _, _⟩ := boxed F0
          generalize (w4.setCell ⟨w.heap.size, 0, none⟩ (.int .i64 T)).setCell ⟨w.heap.size, 1, none⟩ (.slice v m c') = WF at F0 F1 F2 F3 F4 f0 f1 ⊢
          exact bodyPost_ret (v := .tuple #[.agg #[.int .i64 T, .slice v m c'], .slice (some ⟨g, 0, none⟩) ys.length c, .slice (some ⟨r, 0, none⟩) ss.length cs]) (by simp [results, Try.results8, go_sem, f0, f1]) rfl ⟨T, v, m, c', ls, g, c, ys, (some ⟨r, 0, none⟩), cs, ss, by first | rfl | (rw [List.length_set]), F1, HTB.out, HNB.out, F2, hy, F3, hs40, F4⟩

theorem drawMakespan_any (a : Option Addr) (n cap : Nat) (zs : List Int) (w : World) (h : IsBytes w a n cap zs) (hn : n ≤ 4096) :
    Calls Try.prog 10 #[.slice a n cap] w fun e w' => ∃ (g c : Nat) (ys : List Jb) (av : Option Addr) (cs : Nat) (ss : List Int), e = .returned (.tuple #[.slice (some ⟨g, 0, none⟩) ys.length c, .slice av ss.length cs]) ∧ JobS w' (some ⟨g, 0, none⟩) ys.length c ys ∧ ys.length ≤ 40 ∧ IntS w' av ss.length cs ss ∧ ss.length ≤ 40 ∧ Below w.heap.size w w' := by
  go_enter Try.func10, Try.ntmps10
  go_wp2_with fail
  refine (drawPlanOk_any a n cap zs _ h hn).mono ?_
  rintro e w1 ⟨T, v, m, c', ls, g, c, ys, av, cs, ss, rfl, _, _, _, J, hy, I, hs, U1⟩
  have bx : Below w.heap.size w (w1.alloc (.cells #[.int .i64 T, .slice v m c'] 26)) := U1.alloc U1.size _
  have J2 := J.below (box_below0 (o := .cells #[.int .i64 T, .slice v m c'] 26))
  have I2 := I.below (box_below0 (o := .cells #[.int .i64 T, .slice v m c'] 26))
  go_wp2
  exact bodyPost_ret (v := .tuple #[.slice (some ⟨g, 0, none⟩) ys.length c, .slice av ss.length cs]) (by simp [results, Try.results10, go_sem]) rfl ⟨g, c, ys, av, cs, ss, rfl, J2, hy, I2, hs, bx⟩

end Go.Proofs.Ytfepkchopndpeaa
