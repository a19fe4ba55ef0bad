/- Profiles drawn. -/
import Derived.Test.YtfepkchopndpeaaResv3
import Derived.Deep.RegionHeld3
import Derived.Deep.Cut
import Derived.Deep.CutRange
namespace Go.Proofs.Ytfepkchopndpeaa
open Go.RowKit

theorem But.laid {cb : Nat} {w w' : World} {o : Obj} (h : But cb (w.alloc o) w') (hc : cb < w.heap.size) : w'.heap[w.heap.size]? = some o :=
  (h.block w.heap.size (by simp) (by omega)).trans (heap_alloc_new _ _)
theorem But.laidd {cb : Nat} {w w' : World} {o : Obj} (h : But cb (w.alloc o).drew w') (hc : cb < w.heap.size) : w'.heap[w.heap.size]? = some o :=
  (h.block w.heap.size (by show w.heap.size < (w.alloc o).heap.size; simp) (by omega)).trans (heap_alloc_new _ _)

theorem CurAt.setHi {w w' : World} {cb R : Nat} {a : Option Addr} {n cap : Nat} {zs : List Int} (h : CurAt w cb a n cap zs) (hk : ∀ k, k ≠ R → w'.heap[k]? = w.heap[k]?) (hz : w'.heap.size = w.heap.size) (hR : cb < R) : CurAt w' cb a n cap zs := by
  obtain ⟨h1, h2, h3, i, z, h4, h5⟩ := h
  refine ⟨h1, ⟨h2.le, h2.mx, h2.bd, fun hn => ?_⟩, h3, i, z, h4, by rw [hk cb (by omega)]; exact h5⟩
  obtain ⟨b, off, e, g1, g2⟩ := h2.at_ hn
  have := h3 hn b off e
  exact ⟨b, off, e, by omega, fun i hi => (World.cell?_of_block (w := w) (a := ⟨b, off + i, none⟩) (hk b (by omega))).trans (g2 i hi)⟩

/-- told alike whether it could be reserved or not -/
theorem specReserve_un (T x y m : Int) (a : Option Addr) (n cap : Nat) (ls : List Lev) (w : World) (h : LevS w a n cap ls) :
    Calls Try.prog 22 #[.agg #[.int .i64 T, .slice a n cap], .int .i64 x, .int .i64 y, .int .i64 m] w fun e w' => ∃ (T' : Int) (v : Option Addr) (n' c' : Nat) (b : Bool), e = .returned (.tuple #[.agg #[.int .i64 T', .slice v n' c'], .bool b]) ∧ Below w.heap.size w w' ∧
      (b = true → ∃ (g : Nat) (ls' : List Lev), T' = T ∧ PO T ls' ∧ v = some ⟨g, 0, none⟩ ∧ n' = ls'.length ∧ w.heap.size ≤ g ∧ ls'.length ≤ c' ∧ c' ≤ maxLen ∧ LevD w' g ls'.length c' ls') := by
  refine (specReserve_any T x y m a n cap ls w h).mono ?_
  rintro e w' ⟨hb, ⟨hr, g, c, rfl, hg, hgc, hgm, hlc⟩ | ⟨hr, rfl⟩⟩
  · refine ⟨T, _, _, _, true, rfl, hb, fun _ => ⟨g, _, rfl, ?_, rfl, rfl, hg, hgc, hgm, hlc⟩⟩
    unfold resB at hr
    simp only [Bool.and_eq_true] at hr
    exact poB_t hr.2
  · exact ⟨0, none, 0, 0, false, rfl, hb, fun h => by cases h⟩

/-- what holds while a profile is drawn: block P holds it, its levels lie in a row of the call's own; the result's block is still empty; the cursor -/
structure DrawH (w : World) (cb P : Nat) (T : Int) (g c : Nat) (ls : List Lev) (a : Option Addr) (n cap : Nat) (zs : List Int) (W : World) : Prop where
  po : PO T ls
  t8 : 1 ≤ T ∧ T ≤ 8
  rb : W.heap[w.heap.size]? = some (.cells #[.int .i64 0, .slice none 0 0] 26 (0, 0))
  pb : W.heap[P]? = some (.cells #[.int .i64 T, .slice (some ⟨g, 0, none⟩) ls.length c] 26 (0, 0))
  lc : LevD W g ls.length c ls
  cc : ls.length ≤ c ∧ c ≤ maxLen
  cur : CurAt W cb a n cap zs
  but : But cb w W
  ne : cb < w.heap.size ∧ w.heap.size < P ∧ w.heap.size < g ∧ g ≠ P

theorem DrawH.step {w W W' : World} {cb P g c : Nat} {T : Int} {ls : List Lev} {a : Option Addr} {n cap : Nat} {zs : List Int} (h : DrawH w cb P T g c ls a n cap zs W) (k : CurAt W' cb a n cap zs) (b : But cb W W') : DrawH w cb P T g c ls a n cap zs W' := by
  obtain ⟨e1, e2, e3, e4⟩ := h.ne
  exact ⟨h.po, h.t8, (b.block _ (lt_of_block h.rb) (by omega)).trans h.rb, (b.block _ (lt_of_block h.pb) (by omega)).trans h.pb, h.lc.blk (b.block _ h.lc.lt (by omega)), h.cc, k, h.but.trans b, h.ne⟩
theorem DrawH.below {w W W' : World} {cb P g c : Nat} {T : Int} {ls : List Lev} {a : Option Addr} {n cap : Nat} {zs : List Int} (h : DrawH w cb P T g c ls a n cap zs W) (b : Below W.heap.size W W') : DrawH w cb P T g c ls a n cap zs W' := h.step (h.cur.but b h.cur.lt) (But.of b)
theorem DrawH.levs {w W : World} {cb P g c : Nat} {T : Int} {ls : List Lev} {a : Option Addr} {n cap : Nat} {zs : List Int} (h : DrawH w cb P T g c ls a n cap zs W) : LevS W (some ⟨g, 0, none⟩) ls.length c ls :=
  h.lc.toS rfl h.cc.1 h.cc.2 (fun i hi => by have := po_okTo h.po hi; have := h.po.t1; have := h.t8; omega)

theorem DrawH.set2 {w W : World} {cb P g c bx : Nat} {T : Int} {ls : List Lev} {a : Option Addr} {n cap : Nat} {zs : List Int} (h : DrawH w cb P T g c ls a n cap zs W) (hb : w.heap.size < bx) (hP : bx ≠ P) (hg : bx ≠ g) (u0 u1 : Value) : DrawH w cb P T g c ls a n cap zs ((W.setCell ⟨bx, 0, none⟩ u0).setCell ⟨bx, 1, none⟩ u1) := by
  obtain ⟨e1, e2, e3, e4⟩ := h.ne
  have q1 : ∀ k, k ≠ bx → ((W.setCell ⟨bx, 0, none⟩ u0).setCell ⟨bx, 1, none⟩ u1).heap[k]? = W.heap[k]? := fun k hk => (Below.heap_setCell _ _ _ _ hk).trans (Below.heap_setCell _ _ _ _ hk)
  have hs : ((W.setCell ⟨bx, 0, none⟩ u0).setCell ⟨bx, 1, none⟩ u1).heap.size = W.heap.size := by simp [World.setCell]
  exact ⟨h.po, h.t8, (q1 _ (by omega)).trans h.rb, (q1 _ (by omega)).trans h.pb, h.lc.blk (q1 g (by omega)), h.cc, h.cur.setHi q1 hs (by omega), ⟨h.but.os, h.but.tape, h.but.output, by rw [hs]; exact h.but.size, fun r hr hne => (q1 r (by omega)).trans (h.but.block r hr hne)⟩, h.ne⟩
theorem DrawH.put {w W : World} {cb P g c g' c' : Nat} {T : Int} {ls ls' : List Lev} {a : Option Addr} {n cap : Nat} {zs : List Int} (h : DrawH w cb P T g c ls a n cap zs W) (po' : PO T ls') (hg : w.heap.size < g') (hP : g' ≠ P) (hc : ls'.length ≤ c' ∧ c' ≤ maxLen) (hl : LevD W g' ls'.length c' ls') : DrawH w cb P T g' c' ls' a n cap zs ((W.setCell ⟨P, 0, none⟩ (.int .i64 T)).setCell ⟨P, 1, none⟩ (.slice (some ⟨g', 0, none⟩) ls'.length c')) := by
  obtain ⟨e1, e2, e3, e4⟩ := h.ne
  obtain ⟨q0, q1⟩ := Proofs.Ytfepkchopndpeaa.set2 h.pb (.int .i64 T) (.slice (some ⟨g', 0, none⟩) ls'.length c')
  have hs : ((W.setCell ⟨P, 0, none⟩ (.int .i64 T)).setCell ⟨P, 1, none⟩ (.slice (some ⟨g', 0, none⟩) ls'.length c')).heap.size = W.heap.size := by simp [World.setCell]
  exact ⟨po', h.t8, (q1 _ (by omega)).trans h.rb, q0, hl.blk (q1 g' hP), hc, h.cur.setHi q1 hs (by omega), ⟨h.but.os, h.but.tape, h.but.output, by rw [hs]; exact h.but.size, fun r hr hne => (q1 r (by omega)).trans (h.but.block r hr hne)⟩, ⟨e1, e2, hg, hP⟩⟩

set_option maxRecDepth 8000 in
set_option maxHeartbeats 8000000 in
theorem l2Draw_any (cb : Nat) (a : Option Addr) (n cap : Nat) (zs : List Int) (w : World) (h : CurAt w cb a n cap zs) :
    Calls Try.prog 49 #[.pointer (some ⟨cb, 0, none⟩)] w fun e w' => ∃ (T : Int) (g c : Nat) (ls : List Lev), e = .returned (.agg #[.int .i64 T, .slice (some ⟨g, 0, none⟩) ls.length c]) ∧ PO T ls ∧ (1 ≤ T ∧ T ≤ 8) ∧ LevD w' g ls.length c ls ∧ w.heap.size ≤ g ∧ ls.length ≤ c ∧ c ≤ maxLen ∧ CurAt w' cb a n cap zs ∧ But cb w w' := by
  have hcb := h.lt
  have h0 := h.but (box_below0 (o := (.cells #[.int .i64 0, .slice none 0 0] 26))) hcb
  go_enter Try.func49, Try.ntmps49
  go_wp2_with fail
  refine (l1Below_any cb a n cap zs 8 _ h0 (by omega) (by omega)).mono ?_
  rintro e w1 ⟨x, rfl, x0, x1, c1, b1⟩
  have hR1 := b1.laid hcb
  have hin : inB (1 + x) 0 1000 = true := inB_mk (by omega)
  go_wp2_with fail
  refine (specNew_yes (1 + x) _ hin).mono ?_
  rintro e w2 ⟨B, rfl, hB, hlB, hb2⟩
  have hzR := lt_of_block hR1
  have hR2 := (hb2.block _ hzR).trans hR1
  have H0 : DrawH w cb w2.heap.size (1 + x) B 1 [(0, 1 + x)] a n cap zs (w2.alloc (.cells #[.int .i64 (1 + x), .slice (some ⟨B, 0, none⟩) 1 1] 26)) :=
    ⟨poB_t (by rw [poB_new]; exact hin), by omega, (Below.heap_alloc _ _ _ (by have := hb2.size; omega)).trans hR2, heap_alloc_new _ _, (levB_toD hlB).below box_below, ⟨Nat.le_refl _, by unfold maxLen; omega⟩, (c1.but hb2 c1.lt).but box_below (by have := c1.lt; have := hb2.size; omega), ((((But.refl cb w).alloc (.cells #[.int .i64 0, .slice none 0 0] 26)).trans b1).trans (But.of hb2)).alloc _, by have := hlB.lt; have := hb2.size; exact ⟨hcb, by omega, by omega, by omega⟩⟩
  clear hlB hR1 hR2 h0 b1
  go_wp2_with fail
  refine (l1Below_any cb a n cap zs 6 _ H0.cur (by omega) (by omega)).mono ?_
  rintro e w3 ⟨k0, rfl, k1, k2, c3, b3⟩
  have H3 := H0.step c3 b3
  clear H0 c3 b3 c1
  generalize w2.heap.size = P at H3 ⊢
  go_wp2
  go_loopw [5] (fun i wr => ∃ (k : Nat) (g c : Nat) (ls : List Lev), k ≤ 6 ∧ i = .int .i64 k ∧ DrawH w cb P (1 + x) g c ls a n cap zs wr) (fun i _ => (intOf i).toNat)
  case atStart =>
    obtain ⟨k, rfl⟩ := Int.eq_ofNat_of_zero_le k1
    exact ⟨k, B, 1, _, by omega, rfl, H3⟩
  case round =>
    obtain ⟨k, g, c, ls, hk, rfl, H⟩ := hrel
    by_cases hpos : 0 < k
    · have hpos' : (0 : Int) < (k : Int) := by omega
      go_wp2_with fail
      refine (l1Below_any cb a n cap zs 30 _ H.cur (by omega) (by omega)).mono ?_
      rintro e w4 ⟨fr0, rfl, f0, f1, c4, b4⟩
      have H4 := H.step c4 b4
      clear H c4 b4
      have z4 := H4.but.size
      have zP := lt_of_block H4.pb
      have zg := H4.lc.lt
      obtain ⟨e1, e2, e3, e4⟩ := H4.ne
      obtain ⟨p0, p1, _, _⟩ := boxed H4.pb
      have KB : ∀ {W}, (W.cell? ⟨P, 0, none⟩ = some (.int .i64 (1 + x)) ∧ W.cell? ⟨P, 1, none⟩ = some (.slice (some ⟨g, 0, none⟩) ls.length c) ∧ DrawH w cb P (1 + x) g c ls a n cap zs W) → DrawH w cb P (1 + x) g c ls a n cap zs W := fun h => h.2.2
      have HKK : Hid (∀ W, DrawH w cb P (1 + x) g c ls a n cap zs W → (W.cell? ⟨P, 0, none⟩ = some (.int .i64 (1 + x)) ∧ W.cell? ⟨P, 1, none⟩ = some (.slice (some ⟨g, 0, none⟩) ls.length c) ∧ DrawH w cb P (1 + x) g c ls a n cap zs W)) := fun W hW => ⟨(boxed hW.pb).1, (boxed hW.pb).2.1, hW⟩
      have wf1 : IntKind.i64.wrap (fr0 + 1) = fr0 + 1 := by rw [IntKind.wrap_i64]; omega
      have HG1 : Hid (DrawH w cb P (1 + x) g c ls a n cap zs w4.drew) := H4.below (Below.refl _ _).drew
      have HG2 : Hid (DrawH w cb P (1 + x) g c ls a n cap zs (w4.alloc (.cells #[.int .i64 0, .slice none 0 0] 26)).drew) := H4.below (box_below0.drew)
      go_upto_region 6 with fail
      go_cut [7, 8] from 18 to 39 (fun sb sf wx => ∃ (bx : Nat) (T' : Int) (v : Option Addr) (n' c' : Nat) (b : Bool), sb = .pointer (some ⟨bx, 0, none⟩) ∧ sf = .bool b ∧ wx.heap[bx]? = some (.cells #[.int .i64 T', .slice v n' c'] 26 (0, 0)) ∧ (b = true → ∃ (g' : Nat) (ls' : List Lev), T' = 1 + x ∧ PO (1 + x) ls' ∧ v = some ⟨g', 0, none⟩ ∧ n' = ls'.length ∧ w.heap.size < g' ∧ g' ≠ P ∧ ls'.length ≤ c' ∧ c' ≤ maxLen ∧ LevD wx g' ls'.length c' ls') ∧ w.heap.size < bx ∧ bx ≠ P ∧ DrawH w cb P (1 + x) g c ls a n cap zs wx)
      case first =>
        go_region_held3 (fun w' => w'.cell? ⟨P, 0, none⟩ = some (.int .i64 (1 + x)) ∧ w'.cell? ⟨P, 1, none⟩ = some (.slice (some ⟨g, 0, none⟩) ls.length c) ∧ DrawH w cb P (1 + x) g c ls a n cap zs w') ((refine HKK.out _ ?_; first | with_reducible exact HG1.out | with_reducible exact HG2.out | with_reducible exact SB | with_reducible exact SB.below box_below0 | exact DrawH.set2 SB (by omega) (by omega) (by omega) _ _)) (first
          | (go_at_call 29
             refine (l1Below_any cb a n cap zs _ _ (KB (by assumption)).cur (by omega) (by omega)).mono ?_
             rintro e w5 ⟨x5, rfl, x50, x51, c5, b5⟩
             have wf2 : IntKind.i64.wrap (fr0 + 1 + x5) = fr0 + 1 + x5 := by rw [IntKind.wrap_i64]; omega
             have wf3 : IntKind.i64.wrap (1 + x5) = 1 + x5 := by rw [IntKind.wrap_i64]; omega
             have SB : DrawH w cb P (1 + x) g c ls a n cap zs w5 := (KB (by assumption)).step c5 b5
             have z5 : w4.heap.size ≤ w5.heap.size := by first | exact b5.size | exact Nat.le_trans z5 b5.size | exact Nat.le_trans (by show w4.heap.size ≤ (w4.alloc (.cells #[.int .i64 0, .slice none 0 0] 26)).heap.size; simp) b5.size | exact Nat.le_trans z5 (Nat.le_trans (by simp) b5.size)
             first | (have NB := b5.laidd (by omega); have NC := boxed NB; have NL := lt_of_block NB) | (have NB := b5.laid (by omega); have NC := boxed NB; have NL := lt_of_block NB) | (have NB := (b5.block _ (lt_of_block NB) (by omega)).trans NB; have NC := boxed NB; have NL := lt_of_block NB) | skip
             clear c5 b5)
          | (go_at_call 22
             refine (specReserve_un (1 + x) _ _ _ _ _ _ ls _ (KB (by assumption)).levs).mono ?_
             rintro e w7 ⟨T', v, n', c', b, rfl, hb7, hor⟩
             have SB : DrawH w cb P (1 + x) g c ls a n cap zs w7 := (KB (by assumption)).below hb7
             have z7 : w5.heap.size ≤ w7.heap.size := by first | exact hb7.size | exact Nat.le_trans (by simp) hb7.size
             first | (have NB := newblk hb7; have NC := boxed NB) | (have NB := (hb7.block _ (lt_of_block NB)).trans NB; have NC := boxed NB) | skip
             clear hb7))
        all_goals
          try simp only [World.size_alloc] at hor
          go_wp2_with fail
          go_meet
          first
            | exact ⟨_, T', v, n', c', b, rfl, rfl, heap_alloc_new _ _, fun hbt => by (obtain ⟨g', ls', h1, h2, h3, h4, h5, h6, h7, h8⟩ := hor hbt; have := h8.lt; exact ⟨g', ls', h1, h2, h3, h4, by omega, by omega, h6, h7, h8.below box_below⟩), by omega, by omega, SB.below box_below0⟩
            | exact ⟨_, T', v, n', c', b, rfl, rfl, (Proofs.Ytfepkchopndpeaa.set2 NB _ _).1, fun hbt => by (obtain ⟨g', ls', h1, h2, h3, h4, h5, h6, h7, h8⟩ := hor hbt; exact ⟨g', ls', h1, h2, h3, h4, by omega, by omega, h6, h7, h8.blk ((Proofs.Ytfepkchopndpeaa.set2 NB _ _).2 g' (by omega))⟩), by omega, by omega, DrawH.set2 SB (by omega) (by omega) (by omega) _ _⟩
      case rest =>
        obtain ⟨bx, T', v, n', c', b, rfl, rfl, hbx, hor, hbl, hbP, H6⟩ := hcut
        obtain ⟨m, rfl⟩ : ∃ m, k = m + 1 := ⟨k - 1, by omega⟩
        obtain ⟨s0, s1, _, _⟩ := boxed hbx
        obtain ⟨t0, t1, t2, t3⟩ := boxed H6.pb
        clear p0 p1 KB HKK HG1 HG2
        cases b with
        | false =>
          go_wp2
          go_roundw
          case rel => first | exact ⟨m, g, c, ls, by omega, by go_num, H6⟩ | ((repeat apply Exists.intro); exact ⟨⟨m, g, c, ls, by omega, by go_num, H6⟩, rfl⟩)
          case measure => first | (simp [intOf]; done) | (simp [intOf]; omega)
        | true =>
          obtain ⟨g', ls', rfl, h2, rfl, rfl, h5, h6, h7, h8, h9⟩ := hor rfl
          have HN := H6.put h2 h5 h6 ⟨h7, h8⟩ h9
          have HHN : Hid _ := HN
          clear HN
          go_wp2
          go_roundw
          case rel => first | exact ⟨m, g', c', ls', by omega, by go_num, HHN.out⟩ | ((repeat apply Exists.intro); exact ⟨⟨m, g', c', ls', by omega, by go_num, HHN.out⟩, rfl⟩)
          case measure => first | (simp [intOf]; done) | (simp [intOf]; omega)
    · have e : k = 0 := by omega
      subst e
      obtain ⟨p0, p1, _, _⟩ := boxed H.pb
      obtain ⟨r0, r1, g0, g1⟩ := boxed H.rb
      obtain ⟨e1, e2, e3, e4⟩ := H.ne
      have hne : P ≠ w.heap.size := by omega
      obtain ⟨q0, q1⟩ := set2 H.rb (.int .i64 (1 + x)) (.slice (some ⟨g, 0, none⟩) ls.length c)
      have HQ : Hid _ := q0
      have HL := H.lc.blk (q1 g (by omega))
      have HCu : CurAt ((wr.setCell ⟨w.heap.size, 0, none⟩ (.int .i64 (1 + x))).setCell ⟨w.heap.size, 1, none⟩ (.slice (some ⟨g, 0, none⟩) ls.length c)) cb a n cap zs := H.cur.setHi q1 (by simp [World.setCell]) (by omega)
      have HB : But cb w ((wr.setCell ⟨w.heap.size, 0, none⟩ (.int .i64 (1 + x))).setCell ⟨w.heap.size, 1, none⟩ (.slice (some ⟨g, 0, none⟩) ls.length c)) := ⟨H.but.os, H.but.tape, H.but.output, by simpa [World.setCell] using H.but.size, fun r hr hne' => (q1 r (by omega)).trans (H.but.block r hr hne')⟩
      clear q0 q1
      go_wp2
      generalize (wr.setCell ⟨w.heap.size, 0, none⟩ (.int .i64 (1 + x))).setCell ⟨w.heap.size, 1, none⟩ (.slice (some ⟨g, 0, none⟩) ls.length c) = WF at HQ HL HCu HB ⊢
      obtain ⟨c0, c1, _, _⟩ := boxed HQ.out
      exact bodyPost_ret (v := .agg #[.int .i64 (1 + x), .slice (some ⟨g, 0, none⟩) ls.length c]) (by simp [results, Try.results49, go_sem, c0, c1]) rfl ⟨1 + x, g, c, ls, rfl, H.po, H.t8, HL, by omega, H.cc.1, H.cc.2, HCu, HB⟩

end Go.Proofs.Ytfepkchopndpeaa
