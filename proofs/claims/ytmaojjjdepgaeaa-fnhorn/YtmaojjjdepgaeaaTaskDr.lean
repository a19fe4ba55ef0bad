/- The draws of chapter 9, from a code on. -/
import Derived.Test.YtmaojjjdepgaeaaTask9
import Derived.Test.YtmaojjjdepgaeaaEarS
import Derived.Test.YtmaojjjdepgaeaaL6D
import Derived.Deep.Cut
namespace Go.Proofs.Ytmaojjjdepgaeaa
open Go.RowKit Go.Sort

theorem l1BelowW_any (cb : Nat) (a : Option Addr) (n cap : Nat) (zs : List Int) (m : Int) (w : World) (h : CurAt w cb a n cap zs) (hm : 0 < m) (hm2 : m ≤ 9223372036854775807) :
    Calls Try.prog 82 #[.pointer (some ⟨cb, 0, none⟩), .int .i64 m] w fun e w' => ∃ x : Int, e = .returned (.int .i64 x) ∧ 0 ≤ x ∧ x < m ∧ CurAt w' cb a n cap zs ∧ But cb w w' := by
  by_cases h2 : m ≤ 256
  · exact l1Below_any cb a n cap zs m w h hm h2
  · have hm0 : ¬ m ≤ 0 := by omega
    have hmz : (m == 0) = false := by rw [Bool.eq_false_iff]; intro h9; have := eq_of_beq h9; omega
    go_enter Try.func82, Try.ntmps82
    go_wp2_with fail
    refine (l1Byte_any cb a n cap zs _ h).mono ?_
    rintro e w1 ⟨x1, rfl, x10, x11, c1, b1⟩
    go_wp2_with fail
    refine (l1Byte_any cb a n cap zs _ c1).mono ?_
    rintro e w2 ⟨x2, rfl, x20, x21, c2, b2⟩
    go_wp2_with fail
    refine (l1Byte_any cb a n cap zs _ c2).mono ?_
    rintro e w3 ⟨x3, rfl, x30, x31, c3, b3⟩
    go_wp2_with fail
    refine (l1Byte_any cb a n cap zs _ c3).mono ?_
    rintro e w4 ⟨x4, rfl, x40, x41, c4, b4⟩
    go_wp2
    go_ret
    exact ⟨_, rfl, by first | exact Int.emod_nonneg _ (by omega) | (refine Int.tmod_nonneg _ ?_; omega), by first | exact Int.emod_lt_of_pos _ hm | (exact Int.tmod_lt_of_pos _ hm), c4, ((b1.trans b2).trans b3).trans b4⟩

theorem drawTasks_any (a : Option Addr) (n cap : Nat) (zs : List Int) (w : World) (h : IsBytes w a n cap zs) (hn : n ≤ 4096) :
    Calls Try.prog 71 #[.slice a n cap] w fun e w' => ∃ (gl cl : Nat) (ls : List Jb), e = .returned (.slice (some ⟨gl, 0, none⟩) ls.length cl) ∧ ls.length ≤ 5 ∧ JobS w' (some ⟨gl, 0, none⟩) ls.length cl ls ∧ Below w.heap.size w w' := by
  go_enter Try.func71, Try.ntmps71
  go_wp2_with fail
  refine (l1New_any a n cap zs _ h hn).mono ?_
  rintro e w1 ⟨cb, rfl, hcb, c1, U1⟩
  have z1 := U1.size
  go_wp2_with fail
  refine (l9Draw_any cb a n cap zs _ c1).mono ?_
  rintro e w2 ⟨g, c, ys, rfl, O, hl, hA, c2, b2⟩
  have J : JobS w2 (some ⟨g, 0, none⟩) ys.length c ys := O.toS (fun i hi => (hA _ (by rw [jg_get hi]; exact List.getElem_mem hi)).wf)
  go_wp2
  go_ret
  exact ⟨g, c, ys, rfl, hl, J, U1.trans (b2.below hcb z1)⟩

theorem drawCrowded_any (a : Option Addr) (n cap : Nat) (zs : List Int) (w : World) (h : IsBytes w a n cap zs) (hn : n ≤ 4096) :
    Calls Try.prog 28 #[.slice a n cap] w fun e w' => ∃ (gl cl : Nat) (ls : List Jb), e = .returned (.slice (some ⟨gl, 0, none⟩) ls.length cl) ∧ ls.length ≤ 5 ∧ JobS w' (some ⟨gl, 0, none⟩) ls.length cl ls ∧ Below w.heap.size w w' := by
  go_enter Try.func28, Try.ntmps28
  go_wp2_with fail
  refine (drawTasks_any a n cap zs _ h hn).mono ?_
  rintro e w1 ⟨gl, cl, ls, rfl, hl, J, U1⟩
  go_wp2
  go_ret
  exact ⟨gl, cl, ls, rfl, hl, J, U1⟩

theorem drawDemand_any (a : Option Addr) (n cap : Nat) (zs : List Int) (w : World) (h : IsBytes w a n cap zs) (hn : n ≤ 4096) :
    Calls Try.prog 32 #[.slice a n cap] w fun e w' => ∃ (gl cl : Nat) (ls : List Jb) (x y : Int), e = .returned (.tuple #[.slice (some ⟨gl, 0, none⟩) ls.length cl, .int .i64 x, .int .i64 y]) ∧ ls.length ≤ 5 ∧ (-9223372036854775808 ≤ x ∧ x ≤ 9223372036854775807) ∧ (-9223372036854775808 ≤ y ∧ y ≤ 9223372036854775807) ∧ JobS w' (some ⟨gl, 0, none⟩) ls.length cl ls ∧ Below w.heap.size w w' := by
  go_enter Try.func32, Try.ntmps32
  go_wp2_with fail
  refine (l1New_any a n cap zs _ h hn).mono ?_
  rintro e w1 ⟨cb, rfl, hcb, c1, U1⟩
  have z1 := U1.size
  have l1 := c1.lt
  go_wp2_with fail
  refine (l9Draw_any cb a n cap zs _ c1).mono ?_
  rintro e w2 ⟨g, c, ys, rfl, O, hl, hA, c2, b2⟩
  have hb := O.base
  go_wp2_with fail
  refine (l1DrawTime_any cb a n cap zs _ c2).mono ?_
  rintro e w3 ⟨x, rfl, hx, c3, b3⟩
  have O3 := O.blk (w' := w3) (b3.block g O.lt (by omega))
  have B3 := b2.trans b3
  go_wp2_with fail
  refine (l1DrawTime_any cb a n cap zs _ c3).mono ?_
  rintro e w4 ⟨y, rfl, hy, c4, b4⟩
  have O4 := O3.blk (w' := w4) (b4.block g O3.lt (by omega))
  have B4 := B3.trans b4
  have J : JobS w4 (some ⟨g, 0, none⟩) ys.length c ys := O4.toS (fun i hi => (hA _ (by rw [jg_get hi]; exact List.getElem_mem hi)).wf)
  go_wp2
  exact bodyPost_ret (v := .tuple #[.slice (some ⟨g, 0, none⟩) ys.length c, .int .i64 x, .int .i64 y]) (by simp [results, Try.results32, go_sem]) rfl ⟨g, c, ys, x, y, rfl, hl, hx, hy, J, U1.trans (B4.below hcb z1)⟩

theorem ownI_store {w : World} {base g cap n : Nat} {zs : List Int} (h : w.ownsRow base 2 1 (.slice (some ⟨g, 0, none⟩) n cap) n (zs.map (Value.int .i64))) (i : Nat) (z : Int) :
    (w.setCell ⟨g, i, none⟩ (.int .i64 z)).ownsRow base 2 1 (.slice (some ⟨g, 0, none⟩) n cap) n ((zs.set i z).map (Value.int .i64)) := by
  refine ⟨by simpa using h.1, ?_⟩
  rcases h.2 with ⟨e, _⟩ | ⟨g', cap', cur, e, hg, hgg, h1, h2, h3, h4⟩
  · cases e
  · injection e with e1 _ e3
    injection e1 with e1
    injection e1 with e1 _ _
    subst e1 e3
    refine .inr ⟨g, cap, _, rfl, hg, blk_set hgg _, h1, h2, by simpa using h3, ?_⟩
    rw [List.map_set, ← h4, Array.toList_setIfInBounds, List.take_set]

/-- jobs drawn, a row of numbers beside them -/
structure K9 (w0 W : World) (cb gl cl g c : Nat) (ls : List Jb) (ws : List Int) (a : Option Addr) (n cap : Nat) (zs : List Int) : Prop where
  oj : OwnJ W w0.heap.size gl cl ls
  row : W.ownsRow w0.heap.size 2 1 (.slice (some ⟨g, 0, none⟩) ws.length c) ws.length (ws.map (Value.int .i64))
  cur : CurAt W cb a n cap zs
  but : But cb w0 W
  c0 : cb < w0.heap.size
  ne : gl ≠ g
theorem K9.step {w0 W W' : World} {cb gl cl g c : Nat} {ls : List Jb} {ws : List Int} {a : Option Addr} {n cap : Nat} {zs : List Int} (h : K9 w0 W cb gl cl g c ls ws a n cap zs) (hc : CurAt W' cb a n cap zs) (hb : But cb W W') : K9 w0 W' cb gl cl g c ls ws a n cap zs := by
  have h1 := h.c0; have h2 := h.oj.base
  have h3 := own_ints h.row
  exact ⟨h.oj.blk (hb.block gl h.oj.lt (by omega)), ownI_keep h.row (hb.block g h3.1.lt (by omega)), hc, h.but.trans hb, h.c0, h.ne⟩
theorem K9.fin {w0 W : World} {cb gl cl g c : Nat} {ls : List Jb} {ws : List Int} {a : Option Addr} {n cap : Nat} {zs : List Int} (h : K9 w0 W cb gl cl g c ls ws a n cap zs) (hA : allSmall ls) : JobS W (some ⟨gl, 0, none⟩) ls.length cl ls ∧ IntS W (some ⟨g, 0, none⟩) ws.length c ws :=
  ⟨h.oj.toS (fun i hi => (hA _ (by rw [jg_get hi]; exact List.getElem_mem hi)).wf), (own_ints h.row).1.toS rfl (own_ints h.row).2.2.1 (own_ints h.row).2.2.2.1⟩

set_option maxRecDepth 8000 in
set_option maxHeartbeats 4000000 in
theorem drawKept_any (a : Option Addr) (n cap : Nat) (zs : List Int) (w : World) (h : IsBytes w a n cap zs) (hn : n ≤ 4096) :
    Calls Try.prog 31 #[.slice a n cap] w fun e w' => ∃ (gl cl : Nat) (ls : List Jb) (g c : Nat) (ws : List Int), e = .returned (.tuple #[.slice (some ⟨gl, 0, none⟩) ls.length cl, .slice (some ⟨g, 0, none⟩) ws.length c]) ∧ ls.length ≤ 5 ∧ ws.length ≤ 801 ∧ JobS w' (some ⟨gl, 0, none⟩) ls.length cl ls ∧ IntS w' (some ⟨g, 0, none⟩) ws.length c ws ∧ Below w.heap.size w w' := by
  obtain ⟨i1, hj, hj0, hj1, hj2⟩ := info_parts infoI
  go_enter Try.func31, Try.ntmps31
  go_wp2_with fail
  refine (l1New_any a n cap zs _ h hn).mono ?_
  rintro e w1 ⟨cb, rfl, hcb, c1, U1⟩
  have z1 := U1.size
  have l1 := c1.lt
  go_wp2_with fail
  refine (l9Draw_any cb a n cap zs _ c1).mono ?_
  rintro e w2 ⟨gl, cl, ls, rfl, O, hl, hA, c2, b2⟩
  have J : JobS w2 (some ⟨gl, 0, none⟩) ls.length cl ls := O.toS (fun i hi => (hA _ (by rw [jg_get hi]; exact List.getElem_mem hi)).wf)
  have hb := O.base
  have z2 := b2.size
  go_wp2_with fail
  refine (specEarliest_any _ ls.length cl ls _ J).mono ?_
  rintro e w3 ⟨g, c, ws, rfl, _, hw8, OR, hb3⟩
  have hgl := O.lt
  have og := own_ints OR
  have hg2 := og.2.2.2.2
  have D3 : K9 w1 w3 cb gl cl g c ls ws a n cap zs := ⟨O.below hb3, by
    refine ⟨OR.1, ?_⟩
    rcases OR.2 with e | ⟨g', cap', cur, e, hg, r⟩
    · exact .inl e
    · exact .inr ⟨g', cap', cur, e, by omega, r⟩, c2.but hb3 c2.lt, b2.trans (But.of hb3), l1, by omega⟩
  have HA : Hid (allSmall ls) := hA
  clear O J OR og hg2 hgl hb3 b2 c2 c1 hA hb
  go_wp2_with fail
  refine (l1Once_any cb a n cap zs 3 _ D3.cur (by omega) (by omega)).mono ?_
  rintro e w4 ⟨b, rfl, c4, b4⟩
  have D4 := D3.step c4 b4
  clear D3 c4 b4
  -- the two turns of the work
  cases b with
  | false =>
    go_wp2_with fail
    refine (l1Once_any cb a n cap zs 8 _ D4.cur (by omega) (by omega)).mono ?_
    rintro e w8 ⟨b8, rfl, c8, b8'⟩
    have D8 := D4.step c8 b8'
    clear D4 c8 b8'
    cases b8 with
    | false =>
      have HF : Hid _ := D8.fin HA.out
      have HB : Hid (Below w.heap.size w w8) := U1.trans (D8.but.below hcb z1)
      clear D8
      go_wp2
      go_ret2
      exact ⟨gl, cl, ls, g, c, ws, rfl, hl, by omega, HF.out.1, HF.out.2, HB.out⟩
    | true =>
      go_wp2_with fail
      refine (l1From6_any cb a n cap zs (-1) 4 _ D8.cur (by omega) (by omega) (by omega)).mono ?_
      rintro e w9 ⟨z9, rfl, z90, z91, c9, b9⟩
      have D9 := D8.step c9 b9
      clear D8 c9 b9
      have og := own_ints D9.row
      have hgl := D9.oj.lt
      have hne := D9.ne
      have hz9 := D9.but.size
      have OA : (w9.alloc (.cells #[.int .i64 z9] 2)).ownsRow w1.heap.size 2 1 (.slice (some ⟨g, 0, none⟩) ws.length c) ws.length (ws.map (Value.int .i64)) := ownI_below D9.row box_below0
      go_wp2_with (at_builtin; refine wpList_append_own_at _ rfl (.tmp 30) (.tmp 33) 28 rfl w1.heap.size 2 i1 (.int .i64 0) 1 8 Try.underlying28 hj hj0 hj1 hj2 rfl (by decide) _ _ _ rfl OA ⟨w9.heap.size, 0, none⟩ 1 1 [.int .i64 z9] rfl rfl (own_one _ _ _) (by intro u hu; simp at hu; subst hu; rfl) (by unfold maxLen; omega) (by omega) (by simp; omega) ?_)
      intro v3 w10 own3 grow3 nil3 at3
      have B10 : Below w.heap.size w1 w10 := ((D9.but.below hcb z1).alloc (by omega) _).grown grow3 (by simp; omega) (fun r e => by have e' : g = r := Option.some.inj e; omega)
      have O10 : OwnJ w10 w1.heap.size gl cl ls := D9.oj.blk ((grow3.block gl (by simp; omega) (by simp [Value.ownBlock]; omega)).trans (Below.heap_alloc _ _ _ hgl))
      have J10 : JobS w10 (some ⟨gl, 0, none⟩) ls.length cl ls := O10.toS (fun i hi => (HA.out _ (by rw [jg_get hi]; exact List.getElem_mem hi)).wf)
      have own4 : w10.ownsRow w1.heap.size 2 1 v3 (ws ++ [z9]).length ((ws ++ [z9]).map (Value.int .i64)) := by rw [List.map_append, List.length_append]; exact own3
      obtain ⟨g3, c3, rfl⟩ : ∃ g3 c3, v3 = .slice (some ⟨g3, 0, none⟩) (ws.length + 1) c3 := by
        rcases own4.2 with ⟨_, h0⟩ | ⟨g3, c3, _, e, _⟩
        · simp at h0
        · exact ⟨g3, c3, by simpa using e⟩
      have og4 : w10.ownsRow w1.heap.size 2 1 (.slice (some ⟨g3, 0, none⟩) (ws ++ [z9]).length c3) (ws ++ [z9]).length ((ws ++ [z9]).map (Value.int .i64)) := by
        have e : (ws ++ [z9]).length = ws.length + 1 := by simp
        rw [← e] at own4; exact own4
      have I10 : IntS w10 (some ⟨g3, 0, none⟩) (ws ++ [z9]).length c3 (ws ++ [z9]) := (own_ints og4).1.toS rfl (own_ints og4).2.2.1 (own_ints og4).2.2.2.1
      have HI : Hid _ := I10
      have HJ : Hid _ := J10
      clear own3 own4 og4 grow3 nil3 at3 OA I10 J10 O10 D9 og
      go_wp2
      exact bodyPost_ret (v := .tuple #[.slice (some ⟨gl, 0, none⟩) ls.length cl, .slice (some ⟨g3, 0, none⟩) (ws.length + 1) c3]) (by simp [results, Try.results31, go_sem]) rfl ⟨gl, cl, ls, g3, c3, ws ++ [z9], by simp, hl, by simp; omega, HJ.out, HI.out, U1.trans B10⟩
  | true =>
    by_cases hw0 : 0 < ws.length
    · have hw0' : (0 : Int) < (ws.length : Int) := by omega
      go_wp2_with fail
      refine (l1BelowW_any cb a n cap zs (ws.length : Int) _ D4.cur (by omega) (by omega)).mono ?_
      rintro e w5 ⟨xi, rfl, xi0, xi1, c5, b5⟩
      obtain ⟨i, rfl⟩ := Int.eq_ofNat_of_zero_le xi0
      have hi : i < ws.length := by omega
      have D5 := D4.step c5 b5
      clear D4 c5 b5
      go_wp2_with fail
      refine (l1Below_any cb a n cap zs 7 _ D5.cur (by omega) (by omega)).mono ?_
      rintro e w6 ⟨z, rfl, z0, z6, c6, b6⟩
      have D6 := D5.step c6 b6
      clear D5 c6 b6
      have og := own_ints D6.row
      have s0 := og.1.cell (i := i) hi
      have s1 := og.1.free i
      have hcb1 := D6.c0
      have hg1 := og.2.2.2.2
      obtain ⟨w7, hw7⟩ : ∃ w7, w7 = w6.setCell ⟨g, i, none⟩ (.int .i64 z) := ⟨_, rfl⟩
      have hls : (ws.set i z).length = ws.length := List.length_set ..
      have D7 : K9 w1 w7 cb gl cl g c ls (ws.set i z) a n cap zs := by
        rw [hw7]
        exact ⟨D6.oj.blk (Below.heap_setCell _ _ _ _ D6.ne), by rw [hls]; exact ownI_store D6.row i z, D6.cur.setNew (by omega) _, D6.but.setNew og.2.2.2.2 _, D6.c0, D6.ne⟩
      clear og
      go_upto_region 6 with fail
      rw [← hw7]
      clear hw7 s0 s1 D6
      rw [← hls] at hw8 hi xi1 ⊢
      obtain ⟨vs, hvs⟩ : ∃ vs, vs = ws.set i z := ⟨_, rfl⟩
      rw [← hvs] at D7 hw8 hi xi1 ⊢
      clear hvs hls hw0 hw0'
      go_wp2_with fail
      refine (l1Once_any cb a n cap zs 8 _ D7.cur (by omega) (by omega)).mono ?_
      rintro e w8 ⟨b8, rfl, c8, b8'⟩
      have D8 := D7.step c8 b8'
      clear D7 c8 b8'
      cases b8 with
      | false =>
        have HF : Hid _ := D8.fin HA.out
        have HB : Hid (Below w.heap.size w w8) := U1.trans (D8.but.below hcb z1)
        clear D8
        go_wp2
        go_ret2
        exact ⟨gl, cl, ls, g, c, vs, rfl, hl, by omega, HF.out.1, HF.out.2, HB.out⟩
      | true =>
        go_wp2_with fail
        refine (l1From6_any cb a n cap zs (-1) 4 _ D8.cur (by omega) (by omega) (by omega)).mono ?_
        rintro e w9 ⟨z9, rfl, z90, z91, c9, b9⟩
        have D9 := D8.step c9 b9
        clear D8 c9 b9
        have og := own_ints D9.row
        have hgl := D9.oj.lt
        have hne := D9.ne
        have hz9 := D9.but.size
        have OA : (w9.alloc (.cells #[.int .i64 z9] 2)).ownsRow w1.heap.size 2 1 (.slice (some ⟨g, 0, none⟩) vs.length c) vs.length (vs.map (Value.int .i64)) := ownI_below D9.row box_below0
        go_wp2_with (at_builtin; refine wpList_append_own_at _ rfl (.tmp 30) (.tmp 33) 28 rfl w1.heap.size 2 i1 (.int .i64 0) 1 8 Try.underlying28 hj hj0 hj1 hj2 rfl (by decide) _ _ _ rfl OA ⟨w9.heap.size, 0, none⟩ 1 1 [.int .i64 z9] rfl rfl (own_one _ _ _) (by intro u hu; simp at hu; subst hu; rfl) (by unfold maxLen; omega) (by omega) (by simp; omega) ?_)
        intro v3 w10 own3 grow3 nil3 at3
        have B10 : Below w.heap.size w1 w10 := ((D9.but.below hcb z1).alloc (by omega) _).grown grow3 (by simp; omega) (fun r e => by have e' : g = r := Option.some.inj e; omega)
        have O10 : OwnJ w10 w1.heap.size gl cl ls := D9.oj.blk ((grow3.block gl (by simp; omega) (by simp [Value.ownBlock]; omega)).trans (Below.heap_alloc _ _ _ hgl))
        have J10 : JobS w10 (some ⟨gl, 0, none⟩) ls.length cl ls := O10.toS (fun i hi => (HA.out _ (by rw [jg_get hi]; exact List.getElem_mem hi)).wf)
        have own4 : w10.ownsRow w1.heap.size 2 1 v3 (vs ++ [z9]).length ((vs ++ [z9]).map (Value.int .i64)) := by rw [List.map_append, List.length_append]; exact own3
        obtain ⟨g3, c3, rfl⟩ : ∃ g3 c3, v3 = .slice (some ⟨g3, 0, none⟩) (vs.length + 1) c3 := by
          rcases own4.2 with ⟨_, h0⟩ | ⟨g3, c3, _, e, _⟩
          · simp at h0
          · exact ⟨g3, c3, by simpa using e⟩
        have og4 : w10.ownsRow w1.heap.size 2 1 (.slice (some ⟨g3, 0, none⟩) (vs ++ [z9]).length c3) (vs ++ [z9]).length ((vs ++ [z9]).map (Value.int .i64)) := by
          have e : (vs ++ [z9]).length = vs.length + 1 := by simp
          rw [← e] at own4; exact own4
        have I10 : IntS w10 (some ⟨g3, 0, none⟩) (vs ++ [z9]).length c3 (vs ++ [z9]) := (own_ints og4).1.toS rfl (own_ints og4).2.2.1 (own_ints og4).2.2.2.1
        have HI : Hid _ := I10
        have HJ : Hid _ := J10
        clear own3 own4 og4 grow3 nil3 at3 OA I10 J10 O10 D9 og
        go_wp2
        exact bodyPost_ret (v := .tuple #[.slice (some ⟨gl, 0, none⟩) ls.length cl, .slice (some ⟨g3, 0, none⟩) (vs.length + 1) c3]) (by simp [results, Try.results31, go_sem]) rfl ⟨gl, cl, ls, g3, c3, vs ++ [z9], by simp, hl, by simp; omega, HJ.out, HI.out, U1.trans B10⟩
    · obtain rfl : ws = [] := List.length_eq_zero_iff.1 (by omega)
      obtain ⟨ws, hws⟩ : ∃ ws : List Int, ws = [] := ⟨_, rfl⟩
      have hwl : ws.length ≤ 0 := by rw [hws]; exact Nat.le_refl _
      have hwn : ¬ (0 : Int) < (ws.length : Int) := by omega
      rw [← hws] at D4 hw8 ⊢
      clear hws hw0
      go_wp2_with fail
      refine (l1Once_any cb a n cap zs 8 _ D4.cur (by omega) (by omega)).mono ?_
      rintro e w8 ⟨b8, rfl, c8, b8'⟩
      have D8 := D4.step c8 b8'
      clear D4 c8 b8'
      cases b8 with
      | false =>
        have HF : Hid _ := D8.fin HA.out
        have HB : Hid (Below w.heap.size w w8) := U1.trans (D8.but.below hcb z1)
        clear D8
        go_wp2
        go_ret2
        exact ⟨gl, cl, ls, g, c, ws, rfl, hl, by omega, HF.out.1, HF.out.2, HB.out⟩
      | true =>
        go_wp2_with fail
        refine (l1From6_any cb a n cap zs (-1) 4 _ D8.cur (by omega) (by omega) (by omega)).mono ?_
        rintro e w9 ⟨z9, rfl, z90, z91, c9, b9⟩
        have D9 := D8.step c9 b9
        clear D8 c9 b9
        have og := own_ints D9.row
        have hgl := D9.oj.lt
        have hne := D9.ne
        have hz9 := D9.but.size
        have OA : (w9.alloc (.cells #[.int .i64 z9] 2)).ownsRow w1.heap.size 2 1 (.slice (some ⟨g, 0, none⟩) ws.length c) ws.length (ws.map (Value.int .i64)) := ownI_below D9.row box_below0
        go_wp2_with (at_builtin; refine wpList_append_own_at _ rfl (.tmp 30) (.tmp 33) 28 rfl w1.heap.size 2 i1 (.int .i64 0) 1 8 Try.underlying28 hj hj0 hj1 hj2 rfl (by decide) _ _ _ rfl OA ⟨w9.heap.size, 0, none⟩ 1 1 [.int .i64 z9] rfl rfl (own_one _ _ _) (by intro u hu; simp at hu; subst hu; rfl) (by unfold maxLen; omega) (by omega) (by simp; omega) ?_)
        intro v3 w10 own3 grow3 nil3 at3
        have B10 : Below w.heap.size w1 w10 := ((D9.but.below hcb z1).alloc (by omega) _).grown grow3 (by simp; omega) (fun r e => by have e' : g = r := Option.some.inj e; omega)
        have O10 : OwnJ w10 w1.heap.size gl cl ls := D9.oj.blk ((grow3.block gl (by simp; omega) (by simp [Value.ownBlock]; omega)).trans (Below.heap_alloc _ _ _ hgl))
        have J10 : JobS w10 (some ⟨gl, 0, none⟩) ls.length cl ls := O10.toS (fun i hi => (HA.out _ (by rw [jg_get hi]; exact List.getElem_mem hi)).wf)
        have own4 : w10.ownsRow w1.heap.size 2 1 v3 (ws ++ [z9]).length ((ws ++ [z9]).map (Value.int .i64)) := by rw [List.map_append, List.length_append]; exact own3
        obtain ⟨g3, c3, rfl⟩ : ∃ g3 c3, v3 = .slice (some ⟨g3, 0, none⟩) (ws.length + 1) c3 := by
          rcases own4.2 with ⟨_, h0⟩ | ⟨g3, c3, _, e, _⟩
          · simp at h0
          · exact ⟨g3, c3, by simpa using e⟩
        have og4 : w10.ownsRow w1.heap.size 2 1 (.slice (some ⟨g3, 0, none⟩) (ws ++ [z9]).length c3) (ws ++ [z9]).length ((ws ++ [z9]).map (Value.int .i64)) := by
          have e : (ws ++ [z9]).length = ws.length + 1 := by simp
          rw [← e] at own4; exact own4
        have I10 : IntS w10 (some ⟨g3, 0, none⟩) (ws ++ [z9]).length c3 (ws ++ [z9]) := (own_ints og4).1.toS rfl (own_ints og4).2.2.1 (own_ints og4).2.2.2.1
        have HI : Hid _ := I10
        have HJ : Hid _ := J10
        clear own3 own4 og4 grow3 nil3 at3 OA I10 J10 O10 D9 og
        go_wp2
        exact bodyPost_ret (v := .tuple #[.slice (some ⟨gl, 0, none⟩) ls.length cl, .slice (some ⟨g3, 0, none⟩) (ws.length + 1) c3]) (by simp [results, Try.results31, go_sem]) rfl ⟨gl, cl, ls, g3, c3, ws ++ [z9], by simp, hl, by simp; omega, HJ.out, HI.out, U1.trans B10⟩

end Go.Proofs.Ytmaojjjdepgaeaa
