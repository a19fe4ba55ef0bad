/- Tasks drawn (chapter 9). -/
import Derived.Test.YtmaojjjdepgaeaaTaskS
import Derived.Test.YtmaojjjdepgaeaaJobDraw3
import Derived.Deep.RegionHeld3
import Derived.Deep.Cut
import Derived.Deep.CutRange
namespace Go.Proofs.Ytmaojjjdepgaeaa
open Go.RowKit Go.Sort

/-- rows of jobs and a job in its own box, the cursor beside them -/
structure D9 (w0 W : World) (cb g uc D : Nat) (ys : List Jb) (j : Jb) (a : Option Addr) (n cap : Nat) (zs : List Int) : Prop where
  oj : OwnJ W w0.heap.size g uc ys
  cur : CurAt W cb a n cap zs
  but : But cb w0 W
  box : W.heap[D]? = some (.cells #[.int .i64 j.id, .int .i64 j.cores, .int .i64 j.long, .int .i64 j.due, .int .i64 j.wt, .int .i64 j.rank, .int .i64 j.at_] 49 (0, 0))
  c0 : cb < w0.heap.size
  d0 : w0.heap.size ≤ D
  ne : g ≠ D
theorem D9.step {w0 W W' : World} {cb g uc D : Nat} {ys : List Jb} {j : Jb} {a : Option Addr} {n cap : Nat} {zs : List Int} (h : D9 w0 W cb g uc D ys j a n cap zs) (hc : CurAt W' cb a n cap zs) (hb : But cb W W') : D9 w0 W' cb g uc D ys j a n cap zs := by
  have h1 := h.c0; have h2 := h.oj.base; have h3 := h.d0
  exact ⟨h.oj.blk (hb.block g h.oj.lt (by omega)), hc, h.but.trans hb, (hb.block D (lt_of_block h.box) (by omega)).trans h.box, h.c0, h.d0, h.ne⟩
theorem D9.drew {w0 W : World} {cb g uc D : Nat} {ys : List Jb} {j : Jb} {a : Option Addr} {n cap : Nat} {zs : List Int} (h : D9 w0 W cb g uc D ys j a n cap zs) : D9 w0 W.drew cb g uc D ys j a n cap zs :=
  h.step (h.cur.but (Below.refl _ _).drew h.cur.lt) (But.of (Below.refl _ _).drew)
theorem D9.store {w0 W : World} {cb g uc D : Nat} {ys : List Jb} {j : Jb} {a : Option Addr} {n cap : Nat} {zs : List Int} (h : D9 w0 W cb g uc D ys j a n cap zs) (f : Nat) (hf : f < 7) (z : Int) :
    D9 w0 (W.setCell ⟨D, f, none⟩ (.int .i64 z)) cb g uc D ys (jset j f z) a n cap zs := by
  have h1 := h.c0; have h3 := h.d0
  refine ⟨h.oj.blk (Below.heap_setCell _ _ _ _ h.ne), h.cur.setNew (by omega) _, h.but.setNew h3 _, ?_, h.c0, h.d0, h.ne⟩
  have := blk_set (j := f) h.box (.int .i64 z)
  rw [this]
  obtain rfl | rfl | rfl | rfl | rfl | rfl | rfl : f = 0 ∨ f = 1 ∨ f = 2 ∨ f = 3 ∨ f = 4 ∨ f = 5 ∨ f = 6 := by omega
  all_goals rfl
theorem D9.cell {w0 W : World} {cb g uc D : Nat} {ys : List Jb} {j : Jb} {a : Option Addr} {n cap : Nat} {zs : List Int} (h : D9 w0 W cb g uc D ys j a n cap zs) :
    (W.cell? ⟨D, 0, none⟩ = some (.int .i64 j.id) ∧ W.cell? ⟨D, 1, none⟩ = some (.int .i64 j.cores) ∧ W.cell? ⟨D, 2, none⟩ = some (.int .i64 j.long) ∧ W.cell? ⟨D, 3, none⟩ = some (.int .i64 j.due) ∧ W.cell? ⟨D, 4, none⟩ = some (.int .i64 j.wt) ∧ W.cell? ⟨D, 5, none⟩ = some (.int .i64 j.rank) ∧ W.cell? ⟨D, 6, none⟩ = some (.int .i64 j.at_)) ∧ ∀ f, W.frozen? ⟨D, f, none⟩ = false :=
  ⟨by simp [World.cell?, h.box], fun f => free_of_blk f h.box⟩

def tabA : Array Value := #[.int .i64 200, .int .i64 201, .int .i64 1000000000]
theorem tabA_at : ∀ k, k < 3 → ∃ v : Int, tabA[k]? = some (.int .i64 v) ∧ -1 ≤ v ∧ v ≤ 1000000001
  | 0, _ => ⟨_, rfl, by omega, by omega⟩
  | 1, _ => ⟨_, rfl, by omega, by omega⟩
  | 2, _ => ⟨_, rfl, by omega, by omega⟩
  | k + 3, h => by omega

def tabD : Array Value := #[.int .i64 200, .int .i64 201]
theorem tabD_at : ∀ k, k < 2 → ∃ v : Int, tabD[k]? = some (.int .i64 v) ∧ -1 ≤ v ∧ v ≤ 1000000001
  | 0, _ => ⟨_, rfl, by omega, by omega⟩
  | 1, _ => ⟨_, rfl, by omega, by omega⟩
  | k + 2, h => by omega

def tabL : Array Value := #[.int .i64 50, .int .i64 51]
theorem tabL_at : ∀ k, k < 2 → ∃ v : Int, tabL[k]? = some (.int .i64 v) ∧ -1 ≤ v ∧ v ≤ 1000000001
  | 0, _ => ⟨_, rfl, by omega, by omega⟩
  | 1, _ => ⟨_, rfl, by omega, by omega⟩
  | k + 2, h => by omega

set_option maxRecDepth 8000 in
set_option maxHeartbeats 8000000 in
theorem l9Draw_any (cb : Nat) (a : Option Addr) (n cap : Nat) (zs : List Int) (w : World) (h : CurAt w cb a n cap zs) :
    Calls Try.prog 81 #[.pointer (some ⟨cb, 0, none⟩)] w fun e w' => ∃ g c ys, e = .returned (.slice (some ⟨g, 0, none⟩) ys.length c) ∧ OwnJ w' w.heap.size g c ys ∧ ys.length ≤ 5 ∧ allSmall ys ∧ CurAt w' cb a n cap zs ∧ But cb w w' := by
  obtain ⟨i1, hj, hj0, hj1, hj2⟩ := info_parts infoJ
  have hcb := h.lt
  have h0 := h.but (box_below0 (o := .cells #[] 49)) hcb
  have own0 : OwnJ (w.alloc (.cells #[] 49)) w.heap.size w.heap.size 0 [] := ⟨World.ownsRow_made w #[] 0 (Nat.le_refl _) (Nat.zero_le _) rfl, Nat.le_refl _, Nat.zero_le _, Nat.le_refl _, by simp⟩
  go_enter Try.func81, Try.ntmps81
  go_wp2_with fail
  refine (l1Below_any cb a n cap zs 6 _ h0 (by omega) (by omega)).mono ?_
  rintro e w1 ⟨x, rfl, x0, x1, c1, b1⟩
  obtain ⟨k0, rfl⟩ := Int.eq_ofNat_of_zero_le x0
  have own1 := own0.blk (w' := w1) (b1.block _ (by simp) (by omega))
  have B1 : But cb w w1 := (But.of box_below0).trans b1
  clear own0 h0 b1
  go_wp2
  go_loopw [3, 4, 5] (fun u s _ wr => ∃ (k g uc : Nat) (ys : List Jb), k + ys.length ≤ 5 ∧ s = .int .i64 k ∧ u = .slice (some ⟨g, 0, none⟩) ys.length uc ∧ Hid (OwnJ wr w.heap.size g uc ys) ∧ Hid (allSmall ys) ∧ CurAt wr cb a n cap zs ∧ But cb w wr) (fun _ s _ _ => (intOf s).toNat)
  case atStart => exact ⟨k0, _, 0, [], by simp; omega, rfl, rfl, own1, (fun y hy => by cases hy), c1, B1⟩
  case round =>
    obtain ⟨k, g, uc, ys, hk, rfl, rfl, HO, HA, hc, hb⟩ := hrel
    by_cases hlt : 0 < k
    · have hlt' : (0 : Int) < (k : Int) := by omega
      go_wp2_with fail
      refine (l3DrawJob_any cb a n cap zs k _ hc (by omega) (by omega)).mono ?_
      rintro e w2 ⟨j, rfl, hid, hsm, c2, b2⟩
      have hOg := HO.out
      have hgb := hOg.base
      have O2 := hOg.blk (w' := w2) (b2.block g hOg.lt (by omega))
      have B2 := hb.trans b2
      have hz2 := B2.size
      have hg2 := O2.lt
      have hcb2 := c2.lt
      clear hid hc hb
      obtain ⟨W3, hW3⟩ : ∃ W3, W3 = w2.alloc (.cells #[.int .i64 j.id, .int .i64 j.cores, .int .i64 j.long, .int .i64 j.due, .int .i64 j.wt, .int .i64 j.rank, .int .i64 j.at_] 49) := ⟨_, rfl⟩
      have D3 : D9 w W3 cb g uc w2.heap.size ys j a n cap zs := by
        rw [hW3]
        exact ⟨O2.below box_below0, c2.but box_below0 hcb2, B2.alloc _, heap_alloc_new _ _, hcb, hz2, by omega⟩
      go_wp2_with fail
      rw [← hW3]
      obtain ⟨D, hD⟩ : ∃ D, D = w2.heap.size := ⟨_, rfl⟩
      rw [← hD] at D3 ⊢
      clear hW3 O2 B2 c2 hz2 hg2 hcb2 hD b2
      refine (l1Below_any cb a n cap zs 12 _ D3.cur (by omega) (by omega)).mono ?_
      rintro e w4 ⟨x4, rfl, x40, x41, c4, b4⟩
      have D4 := D3.step c4 b4
      clear D3 c4 b4
      obtain ⟨⟨p0, p1, p2, p3, p4, p5, p6⟩, pf⟩ := D4.cell
      have pf6 := pf 6
      obtain ⟨W5, hW5⟩ : ∃ W5, W5 = w4.setCell ⟨D, 6, none⟩ (.int .i64 x4) := ⟨_, rfl⟩
      have D5 : D9 w W5 cb g uc D ys (jset j 6 x4) a n cap zs := by rw [hW5]; exact D4.store 6 (by omega) x4
      clear pf
      go_wp2_with fail
      rw [← hW5]
      clear hW5 p0 p1 p2 p3 p4 p5 p6 pf6 D4
      refine (l1Below_any cb a n cap zs 5 _ D5.cur (by omega) (by omega)).mono ?_
      rintro e w6 ⟨x6, rfl, x60, x61, c6, b6⟩
      have D6 := D5.step c6 b6
      clear D5 c6 b6
      obtain ⟨⟨p0, p1, p2, p3, p4, p5, p6⟩, pf⟩ := D6.cell
      have pf2 := pf 2
      clear pf
      obtain ⟨W7, hW7⟩ : ∃ W7, W7 = w6.setCell ⟨D, 2, none⟩ (.int .i64 (1 + x6)) := ⟨_, rfl⟩
      have D7 : D9 w W7 cb g uc D ys (jset (jset j 6 x4) 2 (1 + x6)) a n cap zs := by rw [hW7]; exact D6.store 2 (by omega) (1 + x6)
      have hs7 : jsmall (jset (jset j 6 x4) 2 (1 + x6)) := jset_small (jset_small hsm (by omega) (by omega) (by omega)) (by omega) (by omega) (by omega)
      have e72 : (jset (jset j 6 x4) 2 (1 + x6)).long = 1 + x6 := rfl
      have e76 : (jset (jset j 6 x4) 2 (1 + x6)).at_ = x4 := rfl
      obtain ⟨j7, hj7⟩ : ∃ j7, j7 = jset (jset j 6 x4) 2 (1 + x6) := ⟨_, rfl⟩
      rw [← hj7] at D7 hs7 e72 e76
      clear hj7
      go_wp2_with fail
      rw [← hW7]
      clear hW7 p0 p1 p2 p3 p4 p5 p6 pf2 D6 hsm
      have f1 : IntKind.i64.wrap (x4 + (1 + x6)) = x4 + (1 + x6) := by rw [IntKind.wrap_i64]; omega
      have HKK : Hid (∀ W, D9 w W cb g uc D ys j7 a n cap zs → W.cell? ⟨D, 6, none⟩ = some (.int .i64 x4) ∧ W.cell? ⟨D, 2, none⟩ = some (.int .i64 (1 + x6)) ∧ W.cell? ⟨D, 3, none⟩ = some (.int .i64 j7.due) ∧ W.frozen? ⟨D, 3, none⟩ = false) := fun W hW => by
        obtain ⟨⟨p0, p1, p2, p3, p4, p5, p6⟩, pf⟩ := hW.cell
        exact ⟨by rw [p6, e76], by rw [p2, e72], p3, pf 3⟩
      have KE : ∀ W, Below W7.heap.size W7 W → D9 w W cb g uc D ys j7 a n cap zs := fun W hW => D7.step (D7.cur.but hW D7.cur.lt) (But.of hW)
      obtain ⟨k6, k2, k3, kf⟩ := HKK.out _ D7
      have HST : Hid (∀ W z, D9 w W cb g uc D ys j7 a n cap zs → D9 w (W.setCell ⟨D, 3, none⟩ (.int .i64 z)) cb g uc D ys (jset j7 3 z) a n cap zs) := fun W z hW => hW.store 3 (by omega) z
      clear D7 e72 e76
      go_cut [] from 23 to 40 (fun wx => ∃ z, -1 ≤ z ∧ z ≤ 1000000001 ∧ D9 w wx cb g uc D ys (jset j7 3 z) a n cap zs)
      case first =>
        go_region_with ((go_at_call 82; refine (l1Below_any cb a n cap zs 14 _ (KE _ (by first | exact Below.refl _ _ | exact (Below.refl _ _).drew)).cur (by omega) (by omega)).mono ?_; rintro e w8 ⟨x8, rfl, x80, x81, c8, b8⟩; have f2 : IntKind.i64.wrap (x4 + (1 + x6) + x8) = x4 + (1 + x6) + x8 := (by rw [IntKind.wrap_i64]; omega); have SB : D9 w w8 cb g uc D ys j7 a n cap zs := (KE _ (by first | exact Below.refl _ _ | exact (Below.refl _ _).drew)).step c8 b8; obtain ⟨m6, m2, m3, mf⟩ := HKK.out _ SB; have HSB : Hid _ := SB; clear SB c8 b8))
        all_goals (go_wp2_with fail; go_meet; exact ⟨x4 + (1 + x6) + x8, by omega, by omega, by first | exact HST.out _ _ HSB.out | exact (HST.out _ _ HSB.out).drew | exact HST.out _ _ HSB.out.drew⟩)
      case rest =>
        obtain ⟨z9, z90, z91, D9'⟩ := hcut
        have hs9 : jsmall (jset j7 3 z9) := jset_small hs7 (by omega) z90 z91
        obtain ⟨j9, hj9⟩ : ∃ j9, j9 = jset j7 3 z9 := ⟨_, rfl⟩
        rw [← hj9] at D9' hs9
        clear hj9 hs7 HST HKK KE k6 k2 k3 kf f1
        go_wp2_with fail
        refine (l1Once_any cb a n cap zs 20 _ D9'.cur (by omega) (by omega)).mono ?_
        rintro e wa ⟨b, rfl, ca, ba⟩
        have Da := D9'.step ca ba
        clear D9' ca ba
        cases b with
        | false =>
          obtain ⟨jF, hjF⟩ : ∃ jF, jF = j9 := ⟨_, rfl⟩
          rw [← hjF] at Da hs9
          have hsF := hs9
          clear hjF hs9
          obtain ⟨⟨p0, p1, p2, p3, p4, p5, p6⟩, pf⟩ := Da.cell
          have O5 := Da.oj
          have B5 := Da.but
          have C5 := Da.cur
          have hz5 := B5.size
          have hg5 := O5.base
          have OA : (wa.alloc (.cells #[.int .i64 jF.id, .int .i64 jF.cores, .int .i64 jF.long, .int .i64 jF.due, .int .i64 jF.wt, .int .i64 jF.rank, .int .i64 jF.at_] 49)).ownsRow w.heap.size 49 7 (.slice (some ⟨g, 0, none⟩) ys.length uc) ys.length (jcells ys) := (O5.below box_below0).own
          clear pf Da
          go_wp2_with (at_builtin; refine wpList_append_own_at _ rfl (.tmp 37) (.tmp 39) 24 rfl w.heap.size 49 i1 (.agg #[.int .i64 0, .int .i64 0, .int .i64 0, .int .i64 0, .int .i64 0, .int .i64 0, .int .i64 0]) 7 56 Try.underlying24 hj hj0 hj1 hj2 rfl (by decide) _ _ _ rfl OA ⟨wa.heap.size, 0, none⟩ 1 1 [.int .i64 jF.id, .int .i64 jF.cores, .int .i64 jF.long, .int .i64 jF.due, .int .i64 jF.wt, .int .i64 jF.rank, .int .i64 jF.at_] rfl rfl (new7_plain _ _ _) (jl_one jF) (by unfold maxLen; omega) (by omega) (by simp; omega) ?_)
          intro v3 w3 own3 grow3 nil3 at3
          have hc3 : CurAt w3 cb a n cap zs := C5.keep (fun r hr => (grow3.block r (by have := C5.lt; simp; omega) (by simp [Value.ownBlock]; omega)).trans (Below.heap_alloc _ _ _ (by have := C5.lt; omega))) (Nat.le_trans (by simp) grow3.size)
          have B3 : But cb w w3 := (B5.alloc _).grownB (B := w.heap.size) grow3 (Nat.le_refl _) (fun r e => by have e' : g = r := Option.some.inj e; omega)
          obtain ⟨g3, c3, rfl, O3⟩ := ownJ_of' (ys := ys ++ [jF]) own3 (by simp) (by rw [jcells_app]; rfl) (by first | exact nil3 | exact fun e => nomatch (nil3.1 e).1)
          have HO3 : Hid (OwnJ w3 w.heap.size g3 c3 (ys ++ [jF])) := O3
          have HA3 : Hid (allSmall (ys ++ [jF])) := HA.out.snoc hsF
          clear own3 grow3 nil3 at3 OA O3 hsF
          go_wp2
          go_roundw
          case rel => exact ⟨k - 1, g3, c3, ys ++ [jF], by simp; omega, by go_num, by simp, HO3, HA3, hc3, B3⟩
          case measure => first | (simp [intOf]; done) | (simp [intOf]; omega)
        | true =>
          go_wp2_with fail
          refine (l1Below_any cb a n cap zs 10 _ Da.cur (by omega) (by omega)).mono ?_
          rintro e wb ⟨xb, rfl, xb0, xb1, cb', bb⟩
          have Db := Da.step cb' bb
          clear Da cb' bb
          obtain ⟨⟨q0, q1, q2, q3, q4, q5, q6⟩, qf⟩ := Db.cell
          have qf3 := qf 3
          obtain ⟨Wc, hWc⟩ : ∃ Wc, Wc = wb.setCell ⟨D, 3, none⟩ (.int .i64 xb) := ⟨_, rfl⟩
          have Dc : D9 w Wc cb g uc D ys (jset j9 3 xb) a n cap zs := by rw [hWc]; exact Db.store 3 (by omega) xb
          have hsF : jsmall (jset j9 3 xb) := jset_small hs9 (by omega) (by omega) (by omega)
          obtain ⟨jF, hjF⟩ : ∃ jF, jF = jset j9 3 xb := ⟨_, rfl⟩
          rw [← hjF] at Dc hsF
          clear hjF hs9 qf
          go_upto_region 11 with fail
          rw [← hWc]
          clear hWc q0 q1 q2 q3 q4 q5 q6 qf3 Db
          obtain ⟨⟨p0, p1, p2, p3, p4, p5, p6⟩, pf⟩ := Dc.cell
          have O5 := Dc.oj
          have B5 := Dc.but
          have C5 := Dc.cur
          have hz5 := B5.size
          have hg5 := O5.base
          have OA : (Wc.alloc (.cells #[.int .i64 jF.id, .int .i64 jF.cores, .int .i64 jF.long, .int .i64 jF.due, .int .i64 jF.wt, .int .i64 jF.rank, .int .i64 jF.at_] 49)).ownsRow w.heap.size 49 7 (.slice (some ⟨g, 0, none⟩) ys.length uc) ys.length (jcells ys) := (O5.below box_below0).own
          clear pf Dc
          go_wp2_with (at_builtin; refine wpList_append_own_at _ rfl (.tmp 37) (.tmp 39) 24 rfl w.heap.size 49 i1 (.agg #[.int .i64 0, .int .i64 0, .int .i64 0, .int .i64 0, .int .i64 0, .int .i64 0, .int .i64 0]) 7 56 Try.underlying24 hj hj0 hj1 hj2 rfl (by decide) _ _ _ rfl OA ⟨Wc.heap.size, 0, none⟩ 1 1 [.int .i64 jF.id, .int .i64 jF.cores, .int .i64 jF.long, .int .i64 jF.due, .int .i64 jF.wt, .int .i64 jF.rank, .int .i64 jF.at_] rfl rfl (new7_plain _ _ _) (jl_one jF) (by unfold maxLen; omega) (by omega) (by simp; omega) ?_)
          intro v3 w3 own3 grow3 nil3 at3
          have hc3 : CurAt w3 cb a n cap zs := C5.keep (fun r hr => (grow3.block r (by have := C5.lt; simp; omega) (by simp [Value.ownBlock]; omega)).trans (Below.heap_alloc _ _ _ (by have := C5.lt; omega))) (Nat.le_trans (by simp) grow3.size)
          have B3 : But cb w w3 := (B5.alloc _).grownB (B := w.heap.size) grow3 (Nat.le_refl _) (fun r e => by have e' : g = r := Option.some.inj e; omega)
          obtain ⟨g3, c3, rfl, O3⟩ := ownJ_of' (ys := ys ++ [jF]) own3 (by simp) (by rw [jcells_app]; rfl) (by first | exact nil3 | exact fun e => nomatch (nil3.1 e).1)
          have HO3 : Hid (OwnJ w3 w.heap.size g3 c3 (ys ++ [jF])) := O3
          have HA3 : Hid (allSmall (ys ++ [jF])) := HA.out.snoc hsF
          clear own3 grow3 nil3 at3 OA O3 hsF
          go_wp2
          go_roundw
          case rel => exact ⟨k - 1, g3, c3, ys ++ [jF], by simp; omega, by go_num, by simp, HO3, HA3, hc3, B3⟩
          case measure => first | (simp [intOf]; done) | (simp [intOf]; omega)
    · obtain rfl : k = 0 := by omega
      go_wp2_with fail
      refine (l1Once_any cb a n cap zs 14 _ hc (by omega) (by omega)).mono ?_
      rintro e w2 ⟨b, rfl, c2, b2⟩
      have hgb := HO.out.base
      have O2 := HO.out.blk (w' := w2) (b2.block g HO.out.lt (by omega))
      have B2 := hb.trans b2
      have HO2 : Hid (OwnJ w2 w.heap.size g uc ys) := O2
      clear O2 HO b2 hc hb
      have hy5 : ys.length ≤ 5 := by omega
      cases b with
      | false =>
        go_wp2
        go_ret
        exact ⟨g, uc, ys, rfl, HO2.out, hy5, HA.out, c2, B2⟩
      | true =>
        by_cases hl : 0 < ys.length
        · have hl' : (0 : Int) < (ys.length : Int) := by omega
          go_wp2_with fail
          refine (l1Below_any cb a n cap zs 3 _ c2 (by omega) (by omega)).mono ?_
          rintro e w4 ⟨xk, rfl, xk0, xk1, c4, b4⟩
          obtain ⟨k, rfl⟩ := Int.eq_ofNat_of_zero_le xk0
          have O4 := HO2.out.blk (w' := w4) (b4.block g HO2.out.lt (by omega))
          have HO4 : Hid (OwnJ w4 w.heap.size g uc ys) := O4
          have B4 := B2.trans b4
          have hcb4 := c4.lt
          clear O4 b4 c2 B2 HO2
          obtain rfl | rfl | rfl : k = 0 ∨ k = 1 ∨ k = 2 := by omega
          · go_wp2_with fail
            refine (l1Below_any cb a n cap zs 3 _ (c4.but (box_below0 (o := .cells tabA 2)) hcb4) (by omega) (by omega)).mono ?_
            rintro e w5 ⟨xt, rfl, xt0, xt1, c5, b5⟩
            obtain ⟨t, rfl⟩ := Int.eq_ofNat_of_zero_le xt0
            obtain ⟨v, hv, v0, v1⟩ := tabA_at t (by omega)
            have q0 := row_at (L := tabA) b5 hcb4 hv
            have ht : t < 3 := by omega
            have O5 := (HO4.out.below box_below0).blk (w' := w5) (b5.block g (by have := HO4.out.lt; simp; omega) (by omega))
            obtain ⟨s0, s1⟩ := O5.cell (i := 0) (f := 6) hl (by omega)
            have O6 := O5.store (i := 0) (f := 6) hl (by omega) v
            have c6 := c5.setNew (B := g) (j := 0 * 7 + 6) (by omega) (.int .i64 v)
            have B6 := ((B4.alloc (.cells tabA 2)).trans b5).setNew (B := g) (j := 0 * 7 + 6) hgb (.int .i64 v)
            have hA6 := HA.out.set (i := 0) (f := 6) hl (by omega) v0 v1
            have HO6 : Hid _ := O6
            clear hv O5 O6 b5 c5
            simp only [Nat.zero_mul, Nat.zero_add] at s0 s1 c6 B6 HO6
            go_wp2
            go_ret
            exact ⟨g, uc, _, ret_val (by simp), HO6.out, by simpa using hy5, hA6, c6, B6⟩
          · go_wp2_with fail
            refine (l1Below_any cb a n cap zs 2 _ (c4.but (box_below0 (o := .cells tabD 2)) hcb4) (by omega) (by omega)).mono ?_
            rintro e w5 ⟨xt, rfl, xt0, xt1, c5, b5⟩
            obtain ⟨t, rfl⟩ := Int.eq_ofNat_of_zero_le xt0
            obtain ⟨v, hv, v0, v1⟩ := tabD_at t (by omega)
            have q0 := row_at (L := tabD) b5 hcb4 hv
            have ht : t < 2 := by omega
            have O5 := (HO4.out.below box_below0).blk (w' := w5) (b5.block g (by have := HO4.out.lt; simp; omega) (by omega))
            obtain ⟨s0, s1⟩ := O5.cell (i := 0) (f := 3) hl (by omega)
            have O6 := O5.store (i := 0) (f := 3) hl (by omega) v
            have c6 := c5.setNew (B := g) (j := 0 * 7 + 3) (by omega) (.int .i64 v)
            have B6 := ((B4.alloc (.cells tabD 2)).trans b5).setNew (B := g) (j := 0 * 7 + 3) hgb (.int .i64 v)
            have hA6 := HA.out.set (i := 0) (f := 3) hl (by omega) v0 v1
            have HO6 : Hid _ := O6
            clear hv O5 O6 b5 c5
            simp only [Nat.zero_mul, Nat.zero_add] at s0 s1 c6 B6 HO6
            go_wp2
            go_ret
            exact ⟨g, uc, _, ret_val (by simp), HO6.out, by simpa using hy5, hA6, c6, B6⟩
          · go_wp2_with fail
            refine (l1Below_any cb a n cap zs 2 _ (c4.but (box_below0 (o := .cells tabL 2)) hcb4) (by omega) (by omega)).mono ?_
            rintro e w5 ⟨xt, rfl, xt0, xt1, c5, b5⟩
            obtain ⟨t, rfl⟩ := Int.eq_ofNat_of_zero_le xt0
            obtain ⟨v, hv, v0, v1⟩ := tabL_at t (by omega)
            have q0 := row_at (L := tabL) b5 hcb4 hv
            have ht : t < 2 := by omega
            have O5 := (HO4.out.below box_below0).blk (w' := w5) (b5.block g (by have := HO4.out.lt; simp; omega) (by omega))
            obtain ⟨s0, s1⟩ := O5.cell (i := 0) (f := 2) hl (by omega)
            have O6 := O5.store (i := 0) (f := 2) hl (by omega) v
            have c6 := c5.setNew (B := g) (j := 0 * 7 + 2) (by omega) (.int .i64 v)
            have B6 := ((B4.alloc (.cells tabL 2)).trans b5).setNew (B := g) (j := 0 * 7 + 2) hgb (.int .i64 v)
            have hA6 := HA.out.set (i := 0) (f := 2) hl (by omega) v0 v1
            have HO6 : Hid _ := O6
            clear hv O5 O6 b5 c5
            simp only [Nat.zero_mul, Nat.zero_add] at s0 s1 c6 B6 HO6
            go_wp2
            go_ret
            exact ⟨g, uc, _, ret_val (by simp), HO6.out, by simpa using hy5, hA6, c6, B6⟩
        · obtain rfl : ys = [] := List.length_eq_zero_iff.1 (by omega)
          go_wp2
          go_ret
          exact ⟨g, uc, [], rfl, HO2.out, by simp, HA.out, c2, B2⟩

end Go.Proofs.Ytmaojjjdepgaeaa
