/- Several texts in one. -/
import Derived.Test.YtcomohobkjkhiaaWorlds
import Derived.Test.YtcomohobkjkhiaaJobDs
import Derived.Test.YtcomohobkjkhiaaInts
import Derived.Test.YtcomohobkjkhiaaSprs
/- Draws of chapter 6. -/
namespace Go.Proofs.Ytcomohobkjkhiaa
open Go.RowKit Go.Sort

theorem l1From6_any (cb : Nat) (a : Option Addr) (n cap : Nat) (zs : List Int) (lo hi : Int) (w : World) (h : CurAt w cb a n cap zs) (h0 : -100 ≤ lo) (h1 : lo ≤ hi) (h2 : hi ≤ 100) :
    Calls Try.prog 31 #[.pointer (some ⟨cb, 0, none⟩), .int .i64 lo, .int .i64 hi] w fun e w' => ∃ x : Int, e = .returned (.int .i64 x) ∧ lo ≤ x ∧ x ≤ hi ∧ CurAt w' cb a n cap zs ∧ But cb w w' := by
  go_enter Try.func31, Try.ntmps31
  go_wp2_with fail
  refine (l1Below_any cb a n cap zs (hi - lo + 1) _ h (by omega) (by omega)).mono ?_
  rintro e w1 ⟨x, rfl, x0, x1, c1, b1⟩
  go_wp2
  go_ret
  exact ⟨lo + x, rfl, by omega, by omega, c1, b1⟩

/-- the odd numbers of machines -/
def oddM : Array Value := #[.int .i64 (-1), .int .i64 0, .int .i64 4, .int .i64 5, .int .i64 10, .int .i64 11]
theorem oddM_at : ∀ k, k < 6 → ∃ v : Int, oddM[k]? = some (.int .i64 v) ∧ -1 ≤ v ∧ v ≤ 11
  | 0, _ => ⟨_, rfl, by omega⟩
  | 1, _ => ⟨_, rfl, by omega⟩
  | 2, _ => ⟨_, rfl, by omega⟩
  | 3, _ => ⟨_, rfl, by omega⟩
  | 4, _ => ⟨_, rfl, by omega⟩
  | 5, _ => ⟨_, rfl, by omega⟩
  | k + 6, h => by omega

set_option maxHeartbeats 1000000 in
theorem drawMachines_any (cb : Nat) (a : Option Addr) (n cap : Nat) (zs : List Int) (w : World) (h : CurAt w cb a n cap zs) :
    Calls Try.prog 21 #[.pointer (some ⟨cb, 0, none⟩)] w fun e w' => ∃ x : Int, e = .returned (.int .i64 x) ∧ -1 ≤ x ∧ x ≤ 11 ∧ CurAt w' cb a n cap zs ∧ But cb w w' := by
  go_enter Try.func21, Try.ntmps21
  go_wp2_with fail
  refine (l1Once_any cb a n cap zs 10 _ h (by omega) (by omega)).mono ?_
  rintro e w1 ⟨b, rfl, h1, hb1⟩
  cases b with
  | true =>
    go_wp2_with fail
    refine (l1Below_any cb a n cap zs 6 _ (h1.but ((Below.refl _ _).alloc (Nat.le_refl _) _) h1.lt) (by omega) (by omega)).mono ?_
    rintro e w2 ⟨x, rfl, x0, x1, h2, hb2⟩
    obtain ⟨k, rfl⟩ := Int.eq_ofNat_of_zero_le x0
    obtain ⟨v, hv, v0, v1⟩ := oddM_at k (by omega)
    have q0 := row_at (L := oddM) hb2 h1.lt hv
    have k7 : k < 6 := by omega
    clear hv
    go_wp2
    go_ret
    exact ⟨v, rfl, v0, v1, h2, (hb1.alloc _).trans hb2⟩
  | false =>
    go_wp2_with fail
    refine (l1Below_any cb a n cap zs 3 _ h1 (by omega) (by omega)).mono ?_
    rintro e w2 ⟨x, rfl, x0, x1, h2, hb2⟩
    go_wp2
    go_ret
    exact ⟨1 + x, rfl, by omega, by omega, h2, hb1.trans hb2⟩

set_option maxHeartbeats 2000000 in
theorem drawOptimum_any (a : Option Addr) (n cap : Nat) (zs : List Int) (w : World) (h : IsBytes w a n cap zs) (hn : n ≤ 4096) :
    Calls Try.prog 5 #[.slice a n cap] w fun e w' => ∃ g c ys m, e = .returned (.tuple #[.slice (some ⟨g, 0, none⟩) ys.length c, .int .i64 m]) ∧ -1 ≤ m ∧ m ≤ 11 ∧ OwnJ w' w.heap.size g c ys ∧ ys.length ≤ 40 ∧ allSmall ys ∧ Below w.heap.size w w' := by
  go_enter Try.func5, Try.ntmps5
  go_wp2_with fail
  refine (l1New_any a n cap zs _ h hn).mono ?_
  rintro e w1 ⟨cb, rfl, hcb, c1, U1⟩
  have z1 := U1.size
  go_wp2_with fail
  refine (drawMachines_any cb a n cap zs _ c1).mono ?_
  rintro e w2 ⟨m, rfl, m0, m1, c2, b2⟩
  have z2 := b2.size
  go_wp2_with fail
  refine (l3DrawAny_any cb a n cap zs 6 _ c2 (by omega) (by omega)).mono ?_
  rintro e w3 ⟨g, c, ys, rfl, O3, hy, hA, c3, b3⟩
  have B3 := b2.trans b3
  have z3 := b3.size
  have hcb2 := c2.lt
  go_wp2_with fail
  refine (l1Once_any cb a n cap zs 20 _ c3 (by omega) (by omega)).mono ?_
  rintro e w4 ⟨b, rfl, c4, b4⟩
  have B4 := B3.trans b4
  have z4 := b4.size
  cases b with
  | false =>
    have O4 := O3.blk (w' := w4) (b4.block g O3.lt (by have := O3.base; omega))
    go_wp2
    go_ret2
    exact ⟨g, c, ys, m, rfl, m0, m1, O4.low (by omega), hy, hA, U1.trans (B4.below hcb (by omega))⟩
  | true =>
    go_wp2_with fail
    refine (l3Draw_any cb a n cap zs 9 _ c4 (by omega) (by omega)).mono ?_
    rintro e w5 ⟨g5, c5', ys5, rfl, O5, hy5, hA5, c5, b5⟩
    have B5 := B4.trans b5
    go_wp2
    go_ret2
    exact ⟨g5, c5', ys5, m, rfl, m0, m1, O5.low (by omega), hy5, hA5, U1.trans (B5.below hcb (by omega))⟩

end Go.Proofs.Ytcomohobkjkhiaa

/- DrawSpan. -/
namespace Go.Proofs.Ytcomohobkjkhiaa
open Go.RowKit Go.Sort

/-- a row of numbers of the call's own -/
theorem specSpreadO_any (a : Option Addr) (n cap : Nat) (ls : List Jb) (m : Int) (w : World) (h : JobS w a n cap ls) :
    Calls Try.prog 13 #[.slice a n cap, .int .i64 m] w fun e w' => ∃ (g c : Nat) (zs : List Int), e = .returned (.slice (some ⟨g, 0, none⟩) zs.length c) ∧ zs.length ≤ 40 ∧ w'.ownsRow w.heap.size 2 1 (.slice (some ⟨g, 0, none⟩) zs.length c) zs.length (zs.map (Value.int .i64)) ∧ Below w.heap.size w w' := by
  have hlen := h.len
  rcases hq : shB ls m with _ | _
  · refine (specSpreadO_no a n cap ls m w h hq).mono ?_
    rintro e w' ⟨v, rfl, O, hb⟩
    exact ⟨v, 0, [], rfl, by simp, O, hb⟩
  · obtain ⟨hjs, hm1, hm2⟩ := shB_t hq
    obtain ⟨m, rfl⟩ : ∃ m' : Nat, m = m' := ⟨m.toNat, by omega⟩
    refine (specSpreadO_yes a n cap ls m w h hq).mono ?_
    rintro e w' ⟨g, c, rfl, O, hb⟩
    have hl := spreadI_len ls m n hlen
    exact ⟨g, c, spreadI ls m, by rw [hl], by rw [hl, ← hlen]; exact hjs.n, by rw [hl]; exact O, hb⟩

set_option maxRecDepth 8000 in
set_option maxHeartbeats 4000000 in
theorem drawSpan_any (a : Option Addr) (n cap : Nat) (zs : List Int) (w : World) (h : IsBytes w a n cap zs) (hn : n ≤ 4096) :
    Calls Try.prog 10 #[.slice a n cap] w fun e w' => ∃ (g c : Nat) (ys : List Jb) (m : Int) (v : Option Addr) (k cv : Nat) (us : List Int), e = .returned (.tuple #[.slice (some ⟨g, 0, none⟩) ys.length c, .slice v k cv, .int .i64 m]) ∧ OwnJ w' w.heap.size g c ys ∧ ys.length ≤ 40 ∧ allSmall ys ∧ IntS w' v k cv us ∧ Below w.heap.size w w' := by
  obtain ⟨i1, hj, hj0, hj1, hj2⟩ := info_parts infoI
  go_enter Try.func10, Try.ntmps10
  go_wp2_with fail
  refine (l1New_any a n cap zs _ h hn).mono ?_
  rintro e w1 ⟨cb, rfl, hcb, c1, U1⟩
  have z1 := U1.size
  go_wp2_with fail
  refine (drawMachines_any cb a n cap zs _ c1).mono ?_
  rintro e w2 ⟨m, rfl, m0, m1, c2, b2⟩
  have z2 := b2.size
  have hcb2 := c2.lt
  go_wp2_with fail
  refine (l3DrawAny_any cb a n cap zs 6 _ c2 (by omega) (by omega)).mono ?_
  rintro e w3 ⟨g, c, ys, rfl, O3, hy, hA, c3, b3⟩
  have B3 := b2.trans b3
  have z3 := b3.size
  have hgb := O3.base
  have hcb3 := c3.lt
  have J3 : JobS w3 (some ⟨g, 0, none⟩) ys.length c ys := O3.toS (fun i hi => (hA _ (by rw [jg_get hi]; exact List.getElem_mem hi)).wf)
  have hgl3 := O3.lt
  have HO3 : Hid (OwnJ w3 w2.heap.size g c ys) := O3
  have HA : Hid (allSmall ys) := hA
  clear O3 hA
  go_wp2_with fail
  refine (specSpreadO_any _ ys.length c ys m _ J3).mono ?_
  rintro e w4 ⟨v, cv, us, rfl, hus, R4, hb4⟩
  have O4 := HO3.out.below hb4
  have c4 := c3.but hb4 hcb3
  have B4 : But cb w1 w4 := B3.trans (But.of hb4)
  have hv := R4.lt v rfl
  have z4 := hb4.size
  have hr := own_ints R4
  have HR4 : Hid _ := R4
  clear R4 J3 HO3 hb4 c3
  go_wp2_with fail
  refine (l1Once_any cb a n cap zs 3 _ c4 (by omega) (by omega)).mono ?_
  rintro e w5 ⟨b, rfl, c5, b5⟩
  have B5 := B4.trans b5
  have z5 := b5.size
  have O5 := O4.blk (w' := w5) (b5.block g O4.lt (by omega))
  have R5 : Hid (w5.ownsRow w3.heap.size 2 1 (.slice (some ⟨v, 0, none⟩) us.length cv) us.length (us.map (Value.int .i64))) := ownI_keep HR4.out (b5.block v (by omega) (by omega))
  clear HR4 O4 c4 b5 B4
  cases b with
  | false =>
    go_wp2_with fail
    refine (l1Once_any cb a n cap zs 12 _ c5 (by omega) (by omega)).mono ?_
    rintro e w8 ⟨b8, rfl, c8, b8'⟩
    have B8 := B5.trans b8'
    have z8 := b8'.size
    have O8 := O5.blk (w' := w8) (b8'.block g O5.lt (by omega))
    have R8 : Hid (w8.ownsRow w3.heap.size 2 1 (.slice (some ⟨v, 0, none⟩) us.length cv) us.length ((us).map (Value.int .i64))) := ownI_keep R5.out (b8'.block v (by omega) (by omega))
    cases b8 with
    | false =>
      obtain ⟨r1, r2, r3, r4, r5⟩ := own_ints R8.out
      go_wp2
      exact bodyPost_ret (v := .tuple #[.slice (some ⟨g, 0, none⟩) ys.length c, .slice (some ⟨v, 0, none⟩) us.length cv, .int .i64 m]) (by simp [results, Try.results10, go_sem]) rfl ⟨g, c, ys, m, _, _, _, _, rfl, O8.low (by omega), hy, HA.out, r1.toS (by simp) r3 r4, U1.trans (B8.below hcb (by omega))⟩
    | true =>
      have OA := ownI_below R8.out (box_below (cs := #[.int .i64 0]) (T := 2))
      have hv8 := R8.out.lt v rfl
      go_wp2_with (at_builtin; refine wpList_append_own_at _ rfl (.tmp 31) (.tmp 32) 28 rfl w3.heap.size 2 i1 (.int .i64 0) 1 8 Try.underlying28 hj hj0 hj1 hj2 rfl (by decide) _ _ _ rfl OA ⟨w8.heap.size, 0, none⟩ 1 1 [.int .i64 0] rfl rfl (own_one _ _ _) (by intro u hu; simp at hu; subst hu; rfl) (by unfold maxLen; omega) (by omega) (by simp; omega) ?_)
      intro v9 w9 own9 grow9 nil9 at9
      obtain ⟨g9, c9, rfl⟩ := own_form own9 (by omega)
      have own9' : w9.ownsRow w3.heap.size 2 1 (.slice (some ⟨g9, 0, none⟩) (us.length + 1) c9) (us.length + 1) ((us ++ [0]).map (Value.int .i64)) := by rw [List.map_append]; first | exact own9 | (rw [List.map_set]; exact own9)
      obtain ⟨r1, r2, r3, r4, r5⟩ := own_ints own9'
      have O9 := (O8.below (box_below (cs := #[.int .i64 0]) (T := 2))).blk (w' := w9) (grow9.block g (by have := O8.lt; simp; omega) (by simp [Value.ownBlock]; omega))
      have B9 : Below w1.heap.size w8 w9 := ((Below.refl _ _).alloc (by omega) _).grown grow9 (by simp; omega) (fun r e => by have e' : v = r := Option.some.inj e; omega)
      have U8 := U1.trans (B8.below hcb (by omega) (B := w.heap.size))
      clear own9 grow9 nil9 at9 OA
      go_wp2
      exact bodyPost_ret (v := .tuple #[.slice (some ⟨g, 0, none⟩) ys.length c, .slice (some ⟨g9, 0, none⟩) (us.length + 1) c9, .int .i64 m]) (by simp [results, Try.results10, go_sem]) rfl ⟨g, c, ys, m, _, _, _, _, rfl, O9.low (by omega), hy, HA.out, r1.toS (by simp) r3 r4, U8.trans (B9.mono (by omega))⟩
  | true =>
    by_cases h0 : ¬ (0 < us.length)
    · have d0 : ¬ ((0 : Int) < (us.length : Int)) := by omega
      clear h0
      go_wp2_with fail
      refine (l1Once_any cb a n cap zs 12 _ c5 (by omega) (by omega)).mono ?_
      rintro e w8 ⟨b8, rfl, c8, b8'⟩
      have B8 := B5.trans b8'
      have z8 := b8'.size
      have O8 := O5.blk (w' := w8) (b8'.block g O5.lt (by omega))
      have R8 : Hid (w8.ownsRow w3.heap.size 2 1 (.slice (some ⟨v, 0, none⟩) us.length cv) us.length ((us).map (Value.int .i64))) := ownI_keep R5.out (b8'.block v (by omega) (by omega))
      cases b8 with
      | false =>
        obtain ⟨r1, r2, r3, r4, r5⟩ := own_ints R8.out
        go_wp2
        exact bodyPost_ret (v := .tuple #[.slice (some ⟨g, 0, none⟩) ys.length c, .slice (some ⟨v, 0, none⟩) us.length cv, .int .i64 m]) (by simp [results, Try.results10, go_sem]) rfl ⟨g, c, ys, m, _, _, _, _, rfl, O8.low (by omega), hy, HA.out, r1.toS (by simp) r3 r4, U1.trans (B8.below hcb (by omega))⟩
      | true =>
        have OA := ownI_below R8.out (box_below (cs := #[.int .i64 0]) (T := 2))
        have hv8 := R8.out.lt v rfl
        go_wp2_with (at_builtin; refine wpList_append_own_at _ rfl (.tmp 31) (.tmp 32) 28 rfl w3.heap.size 2 i1 (.int .i64 0) 1 8 Try.underlying28 hj hj0 hj1 hj2 rfl (by decide) _ _ _ rfl OA ⟨w8.heap.size, 0, none⟩ 1 1 [.int .i64 0] rfl rfl (own_one _ _ _) (by intro u hu; simp at hu; subst hu; rfl) (by unfold maxLen; omega) (by omega) (by simp; omega) ?_)
        intro v9 w9 own9 grow9 nil9 at9
        obtain ⟨g9, c9, rfl⟩ := own_form own9 (by omega)
        have own9' : w9.ownsRow w3.heap.size 2 1 (.slice (some ⟨g9, 0, none⟩) (us.length + 1) c9) (us.length + 1) ((us ++ [0]).map (Value.int .i64)) := by rw [List.map_append]; first | exact own9 | (rw [List.map_set]; exact own9)
        obtain ⟨r1, r2, r3, r4, r5⟩ := own_ints own9'
        have O9 := (O8.below (box_below (cs := #[.int .i64 0]) (T := 2))).blk (w' := w9) (grow9.block g (by have := O8.lt; simp; omega) (by simp [Value.ownBlock]; omega))
        have B9 : Below w1.heap.size w8 w9 := ((Below.refl _ _).alloc (by omega) _).grown grow9 (by simp; omega) (fun r e => by have e' : v = r := Option.some.inj e; omega)
        have U8 := U1.trans (B8.below hcb (by omega) (B := w.heap.size))
        clear own9 grow9 nil9 at9 OA
        go_wp2
        exact bodyPost_ret (v := .tuple #[.slice (some ⟨g, 0, none⟩) ys.length c, .slice (some ⟨g9, 0, none⟩) (us.length + 1) c9, .int .i64 m]) (by simp [results, Try.results10, go_sem]) rfl ⟨g, c, ys, m, _, _, _, _, rfl, O9.low (by omega), hy, HA.out, r1.toS (by simp) r3 r4, U8.trans (B9.mono (by omega))⟩
    · have d0 : (0 : Int) < (us.length : Int) := by omega
      go_wp2_with fail
      refine (l1From6_any cb a n cap zs (-1) 5 _ c5 (by omega) (by omega) (by omega)).mono ?_
      rintro e w6 ⟨x, rfl, x0, x1, c6, b6⟩
      have B6 := B5.trans b6
      have z6 := b6.size
      have O6 := O5.blk (w' := w6) (b6.block g O5.lt (by omega))
      have R6 : w6.ownsRow w3.heap.size 2 1 (.slice (some ⟨v, 0, none⟩) us.length cv) us.length (us.map (Value.int .i64)) := ownI_keep R5.out (b6.block v (by omega) (by omega))
      have k6 : w6.cell? ⟨v, 0, none⟩ = some (.int .i64 (zg us 0)) := by
        rw [R6.cellAt 0 (by omega)]; simp [zg, show 0 < us.length by omega]
      have f6 := R6.frozenAt 0
      have S7 := R6.stored 0 (.int .i64 x)
      have R7 : Hid ((w6.setCell ⟨v, 0, none⟩ (.int .i64 x)).ownsRow w3.heap.size 2 1 (.slice (some ⟨v, 0, none⟩) us.length cv) us.length ((us.set 0 x).map (Value.int .i64))) := by
        rw [List.map_set]; exact S7.1
      have B7 : But cb w1 (w6.setCell ⟨v, 0, none⟩ (.int .i64 x)) := B6.setNew (by omega) _
      have c7 : CurAt (w6.setCell ⟨v, 0, none⟩ (.int .i64 x)) cb a n cap zs := c6.setNew (by omega) _
      have O7 := O6.blk (w' := w6.setCell ⟨v, 0, none⟩ (.int .i64 x)) (Below.heap_setCell _ _ _ _ (by show g ≠ v; omega))
      obtain ⟨w7, hw7⟩ : ∃ w7, w6.setCell ⟨v, 0, none⟩ (.int .i64 x) = w7 := ⟨_, rfl⟩
      have z7 : w6.heap.size ≤ w7.heap.size := by rw [← hw7]; simp [World.setCell]
      rw [hw7] at R7 B7 c7 O7
      clear S7 R6 B6 c6 O6
      go_wp2_with fail
      refine (l1Once_any cb a n cap zs 12 _ c7 (by omega) (by omega)).mono ?_
      rintro e w8 ⟨b8, rfl, c8, b8'⟩
      have B8 := B7.trans b8'
      have z8 := b8'.size
      have O8 := O7.blk (w' := w8) (b8'.block g O7.lt (by omega))
      have R8 : Hid (w8.ownsRow w3.heap.size 2 1 (.slice (some ⟨v, 0, none⟩) us.length cv) us.length ((us.set 0 x).map (Value.int .i64))) := ownI_keep R7.out (b8'.block v (by omega) (by omega))
      cases b8 with
      | false =>
        obtain ⟨r1, r2, r3, r4, r5⟩ := own_ints R8.out
        go_wp2
        exact bodyPost_ret (v := .tuple #[.slice (some ⟨g, 0, none⟩) ys.length c, .slice (some ⟨v, 0, none⟩) us.length cv, .int .i64 m]) (by simp [results, Try.results10, go_sem]) rfl ⟨g, c, ys, m, _, _, _, _, rfl, O8.low (by omega), hy, HA.out, r1.toS (by simp) r3 r4, U1.trans (B8.below hcb (by omega))⟩
      | true =>
        have OA := ownI_below R8.out (box_below (cs := #[.int .i64 0]) (T := 2))
        have hv8 := R8.out.lt v rfl
        go_wp2_with (at_builtin; refine wpList_append_own_at _ rfl (.tmp 31) (.tmp 32) 28 rfl w3.heap.size 2 i1 (.int .i64 0) 1 8 Try.underlying28 hj hj0 hj1 hj2 rfl (by decide) _ _ _ rfl OA ⟨w8.heap.size, 0, none⟩ 1 1 [.int .i64 0] rfl rfl (own_one _ _ _) (by intro u hu; simp at hu; subst hu; rfl) (by unfold maxLen; omega) (by omega) (by simp; omega) ?_)
        intro v9 w9 own9 grow9 nil9 at9
        obtain ⟨g9, c9, rfl⟩ := own_form own9 (by omega)
        have own9' : w9.ownsRow w3.heap.size 2 1 (.slice (some ⟨g9, 0, none⟩) (us.length + 1) c9) (us.length + 1) ((us.set 0 x ++ [0]).map (Value.int .i64)) := by rw [List.map_append]; first | exact own9 | (rw [List.map_set]; exact own9)
        obtain ⟨r1, r2, r3, r4, r5⟩ := own_ints own9'
        have O9 := (O8.below (box_below (cs := #[.int .i64 0]) (T := 2))).blk (w' := w9) (grow9.block g (by have := O8.lt; simp; omega) (by simp [Value.ownBlock]; omega))
        have B9 : Below w1.heap.size w8 w9 := ((Below.refl _ _).alloc (by omega) _).grown grow9 (by simp; omega) (fun r e => by have e' : v = r := Option.some.inj e; omega)
        have U8 := U1.trans (B8.below hcb (by omega) (B := w.heap.size))
        clear own9 grow9 nil9 at9 OA
        go_wp2
        exact bodyPost_ret (v := .tuple #[.slice (some ⟨g, 0, none⟩) ys.length c, .slice (some ⟨g9, 0, none⟩) (us.length + 1) c9, .int .i64 m]) (by simp [results, Try.results10, go_sem]) rfl ⟨g, c, ys, m, _, _, _, _, rfl, O9.low (by omega), hy, HA.out, r1.toS (by simp) r3 r4, U8.trans (B9.mono (by omega))⟩

end Go.Proofs.Ytcomohobkjkhiaa
