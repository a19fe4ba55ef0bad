/- Several texts in one. -/
import Derived.Test.YtcomohobkjkhiaaHeaps
import Derived.Test.YtcomohobkjkhiaaL6
import Derived.Test.YtcomohobkjkhiaaL6S
import Derived.BigRegion
/- Spread of the program. -/
namespace Go.Proofs.Ytcomohobkjkhiaa
open Go.RowKit Go.Sort Go.Shelf

/-- who does what -/
def spreadI (ls : List Jb) (m : Nat) : List Int := (spreadV (List.replicate m 0) (longs ls)).map (fun k : Nat => (k : Int))
/-- the first k of it -/
def spreadK (ls : List Jb) (m k : Nat) : List Int := (spreadV (List.replicate m 0) ((longs ls).take k)).map (fun k : Nat => (k : Int))
/-- the loads behind the first k -/
def loadK (ls : List Jb) (m k : Nat) : List Int := afterV (List.replicate m 0) ((longs ls).take k)
theorem spreadK_len {ls : List Jb} {m k : Nat} (h : k ≤ ls.length) : (spreadK ls m k).length = k := by
  unfold spreadK; rw [List.length_map, spreadV_len, List.length_take, longs_len]; omega
theorem spreadK_all (ls : List Jb) (m : Nat) : spreadK ls m ls.length = spreadI ls m := by
  unfold spreadK spreadI; rw [← longs_len, List.take_length]
theorem spreadK_succ {ls : List Jb} {m k : Nat} (h : k < ls.length) : spreadK ls m (k + 1) = spreadK ls m k ++ [((leastK (loadK ls m k) : Nat) : Int)] := by
  unfold spreadK loadK; rw [longs_succ h, spreadV_snoc, List.map_append]; rfl
theorem loadK_succ {ls : List Jb} {m k : Nat} (h : k < ls.length) : loadK ls m (k + 1) = addAt (loadK ls m k) (leastK (loadK ls m k)) (jg ls k).long := by
  unfold loadK; rw [longs_succ h, afterV_snoc]
theorem loadK_len (ls : List Jb) (m k : Nat) : (loadK ls m k).length = m := by unfold loadK; rw [afterV_len, List.length_replicate]
theorem loadK_ok {ls : List Jb} {m : Nat} (h : JsOk ls) (hm : 1 ≤ m) (k : Nat) : LdOk (loadK ls m k) 400000 := by
  have := LdOk.after ((longs ls).take k) (List.replicate m 0) 0 (LdOk.rep m) (by rw [List.length_replicate]; exact hm) (fun p hp => by have := longs_bd h p (List.mem_of_mem_take hp); omega)
  refine this.mono ?_
  have h1 : ((longs ls).take k).length ≤ 40 := by rw [List.length_take, longs_len]; have := h.n; omega
  omega

theorem implSpread_no (a : Option Addr) (n cap : Nat) (ls : List Jb) (m : Int) (w : World) (h : JobS w a n cap ls) (hq : shB ls m = false) :
    Calls Try.prog 7 #[.slice a n cap, .int .i64 m] w fun e w' => e = .returned (.slice none 0 0) ∧ Below w.heap.size w w' := by
  go_enter Try.func7, Try.ntmps7
  go_wp2_with fail
  refine (shareOk_any a n cap ls m _ h).mono ?_
  rw [hq]
  rintro e w1 ⟨rfl, hb1⟩
  go_wp2
  go_ret
  exact ⟨rfl, hb1⟩

set_option maxRecDepth 8000 in
set_option maxHeartbeats 4000000 in
theorem implSpread_yes (a : Option Addr) (n cap : Nat) (ls : List Jb) (m : Nat) (w : World) (h : JobS w a n cap ls) (hq : shB ls m = true) :
    Calls Try.prog 7 #[.slice a n cap, .int .i64 m] w fun e w' => ∃ g c, e = .returned (.slice (some ⟨g, 0, none⟩) n c) ∧ w.heap.size ≤ g ∧ c ≤ maxLen ∧ n ≤ c ∧ IntB w' g n (spreadI ls m) ∧ Below w.heap.size w w' := by
  obtain ⟨i1, hj, hj0, hj1, hj2⟩ := info_parts infoI
  obtain ⟨hjs, hm1, hm2⟩ := shB_t hq
  have hlen := h.len
  have hn := hjs.n
  have hmx := h.mx
  have hle := h.le
  unfold maxLen at hmx
  have hmk := run_makeI n (by omega)
  go_enter Try.func7, Try.ntmps7
  go_wp2_with fail
  refine (shareOk_any a n cap ls m _ h).mono ?_
  rw [hq]
  rintro e w1 ⟨rfl, hb1⟩
  go_wp2_with fail
  refine (idle_any m _ (by omega) (by omega)).mono ?_
  rintro e w2 ⟨P, bo, bn, g0, c0, ys0, rfl, H2, hs2, hM2, hb2⟩
  have HH2 : Hid _ := H2
  have HS2 : Hid _ := hs2
  have HM2 : Hid _ := hM2
  have HB2 : Hid (Below w.heap.size w w2) := hb1.then hb2 hb1.size
  have HB12 : Hid (Below w1.heap.size w1 w2) := hb2
  have hw1 := hb1.size
  clear H2 hs2 hM2 hb2
  go_wp2
  clear hmk
  have own0 : (w2.alloc (.cells (madeCells #[.int .i64 0] n) 2)).ownsRow w2.heap.size 2 1 (.slice (some ⟨w2.heap.size, 0, none⟩) 0 n) 0 [] := by
    have := World.ownsRow_made (base := w2.heap.size) (e := 2) (size := 1) w2 (madeCells #[.int .i64 0] n) n (by simp) (by unfold maxLen; omega) (by simp [size_madeCells])
    simpa using this
  have HO0 : Hid _ := own0
  have bx2 : Below w2.heap.size w2 (w2.alloc (.cells (madeCells #[.int .i64 0] n) 2)) := box_below
  have HX2 : Hid _ := bx2
  clear own0 bx2
  go_loopw [6, 8, 20] (fun u _ i wr => ∃ (k g uc gh ch : Nat) (ys : List (Int × Int)), k ≤ n ∧ i = .int .i64 k ∧ u = .slice (some ⟨g, 0, none⟩) k uc ∧ Hid (wr.ownsRow w2.heap.size 2 1 (.slice (some ⟨g, 0, none⟩) k uc) k ((spreadK ls m k).map (Value.int .i64))) ∧ Hid (HpW wr (w1.heap.size + 2) P bo bn (some ⟨gh, 0, none⟩) ch ys) ∧ Hid (IsHp ys ys.length) ∧ Hid (Macs ys (loadK ls m k)) ∧ Hid (g ≠ gh) ∧ Hid (Below w.heap.size w wr) ∧ Hid (w2.heap.size ≤ wr.heap.size)) (fun _ _ i _ => n - (intOf i).toNat)
  case atStart => exact ⟨0, _, _, g0, c0, ys0, by omega, rfl, rfl, HO0.out, HH2.out.below HX2.out, HS2.out, HM2.out, by have := HH2.out.ltg; unfold Hid; omega, HB2.out.then HX2.out HB2.out.size, HX2.out.size⟩
  case round =>
    obtain ⟨k, g, uc, gh, ch, ys, hk, rfl, rfl, HO, HH, HS, HM, HD, HB, HZ⟩ := hrel
    by_cases hlt : k < n
    · obtain ⟨b, off, rfl, hbw, hat⟩ := h.at_ (by omega)
      obtain ⟨hc0, hc1, hc2, hc3, hc4, hc5, hc6⟩ := (hat.below HB.out hbw).job (i := k) (by omega)
      have hlt' : (k : Int) < (n : Int) := by omega
      have jb := jok_bd (hjs.ok k (by omega)).1
      have bx : Below wr.heap.size wr (wr.alloc (.cells #[.int .i64 (jg ls k).id, .int .i64 (jg ls k).cores, .int .i64 (jg ls k).long, .int .i64 (jg ls k).due, .int .i64 (jg ls k).wt, .int .i64 (jg ls k).rank, .int .i64 (jg ls k).at_] 46)) := box_below
      have hyl : ys.length = m := by rw [HM.out.len, loadK_len]
      have hfst := HM.out.first HS.out (by rw [loadK_len]; omega)
      have lok := loadK_ok hjs (m := m) (by omega) k (leastK (loadK ls m k))
      have hP2 := HH2.out.ltP
      have hg2 := HH2.out.ge
      have CG := give_any (w1.heap.size + 2) P bo bn gh ch (m - 1) (jg ls k).long ys _ (HH.out.below bx) (by have := HZ.out; have := bx.size; omega) (by omega) (by omega) HS.out (by rw [hfst]; exact lok.1) (by rw [hfst]; have := lok.2; simp only; omega) (by omega) (by omega)
      rw [hfst] at CG
      simp only at CG
      have HBX : Hid _ := bx
      have hgl := World.ownsRow.lt HO.out g rfl
      have hPl := HH.out.ltP
      have hgl2 := HH.out.ltg
      have hl2 := HM.out.len
      have bxs := bx.size
      have HO1 : Hid _ := (HO.out.alloc (.cells #[.int .i64 (jg ls k).id, .int .i64 (jg ls k).cores, .int .i64 (jg ls k).long, .int .i64 (jg ls k).due, .int .i64 (jg ls k).wt, .int .i64 (jg ls k).rank, .int .i64 (jg ls k).at_] 46))
      have hPg : P ≠ g := by omega
      have zx : (wr.alloc (.cells #[.int .i64 (jg ls k).id, .int .i64 (jg ls k).cores, .int .i64 (jg ls k).long, .int .i64 (jg ls k).due, .int .i64 (jg ls k).wt, .int .i64 (jg ls k).rank, .int .i64 (jg ls k).at_] 46)).heap.size = wr.heap.size + 1 := by simp
      clear hfst lok bx hyl
      go_wp2_with (first
        | (go_at_call 28; refine CG.mono ?_; rintro e w3 ⟨rfl, g3, c3, zs, r, H3, hp3, hz3, hs3, T3⟩
           have hgr : (w3.alloc (.cells #[.int .i64 (leastK (loadK ls m k) : Nat)] 2)).ownsRow w2.heap.size 2 1 (.slice (some ⟨g, 0, none⟩) k uc) k ((spreadK ls m k).map (Value.int .i64)) :=
             (ownI_keep HO1.out (T3.block g (by omega) (Ne.symm hPg) (fun g' e => by injection e with e; injection e with e _ _; have := HD.out; omega))).alloc _
           have hz3s := T3.size
           have HH3 : Hid _ := H3
           have HT3 : Hid _ := T3
           have HP3 : Hid _ := hp3
           have HZ3 : Hid _ := hz3
           have HS3 : Hid _ := hs3
           clear H3 T3 hp3 hz3 hs3 CG)
        | (at_builtin; refine wpList_append_own_at _ rfl (.tmp 24) (.tmp 29) 28 rfl w2.heap.size 2 i1 (.int .i64 0) 1 8 Try.underlying28 hj hj0 hj1 hj2 rfl (by decide) _ _ _ rfl hgr ⟨w3.heap.size, 0, none⟩ 1 1 [.int .i64 (leastK (loadK ls m k) : Nat)] rfl rfl (own_one _ _ _) (by intro u hu; simp at hu; subst hu; rfl) (by unfold maxLen; omega) (by omega) (by simp; omega) ?_))
      intro v4 w4 own4 grow4 nil4 at4
      have own5 : w4.ownsRow w2.heap.size 2 1 v4 (k + 1) ((spreadK ls m (k + 1)).map (Value.int .i64)) := by
        rw [spreadK_succ (by omega), List.map_append]; exact own4
      obtain ⟨g4, c4, rfl⟩ : ∃ g4 c4, v4 = .slice (some ⟨g4, 0, none⟩) (k + 1) c4 := own_form own5 (by omega)
      have lw3 : (w3.alloc (.cells #[.int .i64 (leastK (loadK ls m k) : Nat)] 2)).heap.size = w3.heap.size + 1 := by simp
      have hg4 : g4 = g ∨ g4 = w3.heap.size + 1 := by
        rcases at4 with e | e
        · exact Or.inl (Option.some.inj e)
        · exact Or.inr (by first | exact (Option.some.inj e) | exact (Option.some.inj e).trans lw3)
      have hg3 : g3 = gh ∨ wr.heap.size + 1 ≤ g3 := by
        rcases HT3.out.row with e | ⟨g', e, h'⟩ <;> (injection e with e; injection e with e _ _; omega)
      have hl3 := HH3.out.ltg
      have hlP := HH3.out.ltP
      have hdg := HD.out
      have hPge := HH.out.ge
      have hgh := HH.out.ltg.1
      have H4 : HpW w4 (w1.heap.size + 2) P bo bn (some ⟨g3, 0, none⟩) c3 zs := HH3.out.keep ((grow4.block P (by omega) (by simpa [Value.ownBlock] using hPg)).trans (Below.heap_alloc _ _ _ hlP)) (fun g' e => by injection e with e; injection e with e _ _; subst e; exact (grow4.block g3 (by omega) (by simp [Value.ownBlock]; omega)).trans (Below.heap_alloc _ _ _ hl3.2)) (fun k hk => (grow4.block k (by omega) (by simp [Value.ownBlock]; omega)).trans (Below.heap_alloc _ _ _ (by omega)))
      have M4 : Macs zs (loadK ls m (k + 1)) := by
        rw [loadK_succ (by omega)]
        exact HM.out.give (leastK_lt (by rw [loadK_len]; omega)) HP3.out HZ3.out
      have B3 : Below w.heap.size w w3 := (HB.out.then HBX.out HB.out.size).trans ((HH.out.below HBX.out).turnB HT3.out |>.mono (by have := HB12.out.size; have := HX2.out.size; omega))
      have B4 : Below w.heap.size w w4 := (B3.alloc B3.size _).grown grow4 (by have := B3.size; omega) (fun r e => by have e' : g = r := Option.some.inj e; have := HB2.out.size; omega)
      have z4 : w2.heap.size ≤ w4.heap.size := by have := grow4.size; have := HZ.out; omega
      have HO5 : Hid _ := own5
      have HH4 : Hid _ := H4
      have HM4 : Hid _ := M4
      have HB4 : Hid _ := B4
      have HZ4 : Hid _ := z4
      have HD4 : Hid (g4 ≠ g3) := by unfold Hid; omega
      clear own4 own5 grow4 nil4 at4 hgr H4 M4 B3 B4 z4 hg4 hg3 hdg
      go_wp2
      go_roundw
      case rel => first | exact ⟨k + 1, g4, c4, g3, c3, zs, by omega, by go_num, rfl, HO5, HH4, HS3, HM4, HD4, HB4, HZ4⟩ | ((repeat apply Exists.intro); exact ⟨⟨k + 1, g4, c4, g3, c3, zs, by omega, by go_num, rfl, HO5, HH4, HS3, HM4, HD4, HB4, HZ4⟩, rfl⟩)
      case measure => simp [intOf]; omega
    · have e : k = n := by omega
      subst e
      obtain ⟨p1, _, p3, p4, p5⟩ := own_ints HO.out
      have HB12s := HB12.out.size
      go_wp2
      go_ret
      exact ⟨g, uc, rfl, by omega, p4, p3, by rw [← spreadK_all, hlen]; exact p1, HB.out⟩

end Go.Proofs.Ytcomohobkjkhiaa

/- Spread of the model. -/
namespace Go.Proofs.Ytcomohobkjkhiaa
open Go.RowKit Go.Sort Go.Shelf

theorem specSpreadO_no (a : Option Addr) (n cap : Nat) (ls : List Jb) (m : Int) (w : World) (h : JobS w a n cap ls) (hq : shB ls m = false) :
    Calls Try.prog 13 #[.slice a n cap, .int .i64 m] w fun e w' => ∃ v, e = .returned (.slice (some ⟨v, 0, none⟩) 0 0) ∧ w'.ownsRow w.heap.size 2 1 (.slice (some ⟨v, 0, none⟩) 0 0) 0 [] ∧ Below w.heap.size w w' := by
  have bx : Below w.heap.size w (w.alloc (.cells #[] 2)) := box_below
  have hI : (w.alloc (.cells #[] 2)).ownsRow w.heap.size 2 1 (.slice (some ⟨w.heap.size, 0, none⟩) 0 0) 0 [] := World.ownsRow_made w #[] 0 (Nat.le_refl _) (Nat.zero_le _) rfl
  unfold shB at hq
  rcases hj : jsB ls with _ | _
  · go_enter Try.func13, Try.ntmps13
    go_wp2_with (go_at_call 32; refine (specJobsOk_any a n cap ls _ (h.below bx)).mono ?_; rw [hj]; rintro e w1 ⟨rfl, hb1⟩)
    go_ret
    exact ⟨_, rfl, ownI_below hI hb1, bx.then hb1 bx.size⟩
  · rw [hj, Bool.true_and] at hq
    go_enter Try.func13, Try.ntmps13
    go_wp2_with (first
      | (go_at_call 32; refine (specJobsOk_any a n cap ls _ (h.below bx)).mono ?_; rw [hj]; rintro e w1 ⟨rfl, hb1⟩)
      | (go_at_call 33; refine (l1In_any _ _ _ _).mono ?_; rw [hq]; rintro e w2 ⟨rfl, rfl⟩))
    go_ret
    exact ⟨_, rfl, ownI_below hI hb1, bx.then hb1 bx.size⟩

theorem specSpread_no (a : Option Addr) (n cap : Nat) (ls : List Jb) (m : Int) (w : World) (h : JobS w a n cap ls) (hq : shB ls m = false) :
    Calls Try.prog 13 #[.slice a n cap, .int .i64 m] w fun e w' => ∃ v, e = .returned (.slice (some ⟨v, 0, none⟩) 0 0) ∧ IntB w' v 0 [] ∧ Below w.heap.size w w' := by
  refine (specSpreadO_no a n cap ls m w h hq).mono ?_
  rintro e w' ⟨v, rfl, O, hb⟩
  exact ⟨v, rfl, (own_ints (zs := []) O).1, hb⟩

theorem spreadI_len (ls : List Jb) (m n : Nat) (h : ls.length = n) : (spreadI ls m).length = n := by
  rw [← spreadK_all, spreadK_len (Nat.le_refl _), h]

set_option maxRecDepth 8000 in
set_option maxHeartbeats 4000000 in
theorem specSpreadO_yes (a : Option Addr) (n cap : Nat) (ls : List Jb) (m : Nat) (w : World) (h : JobS w a n cap ls) (hq : shB ls m = true) :
    Calls Try.prog 13 #[.slice a n cap, .int .i64 m] w fun e w' => ∃ g c, e = .returned (.slice (some ⟨g, 0, none⟩) n c) ∧ w'.ownsRow w.heap.size 2 1 (.slice (some ⟨g, 0, none⟩) n c) n ((spreadI ls m).map (Value.int .i64)) ∧ Below w.heap.size w w' := by
  obtain ⟨i1, hj, hj0, hj1, hj2⟩ := info_parts infoI
  obtain ⟨hjs, hm1, hm2⟩ := shB_t hq
  have hjq := jsB_mk hjs
  have hlen := h.len
  have hn := hjs.n
  have hmx := h.mx
  have hle := h.le
  unfold maxLen at hmx
  have hin : inB (m : Int) 1 10 = true := by unfold inB; simp; omega
  have hmk := run_makeM m (by omega)
  have bx : Below w.heap.size w (w.alloc (.cells #[] 2)) := box_below
  go_enter Try.func13, Try.ntmps13
  go_wp2_with (first
    | (go_at_call 32; refine (specJobsOk_any a n cap ls _ (h.below bx)).mono ?_; rw [hjq]; rintro e w0 ⟨rfl, hb1⟩)
    | (go_at_call 33; refine (l1In_any _ _ _ _).mono ?_; rw [hin]; rintro e w1 ⟨rfl, rfl⟩))
  clear hmk
  have own0 : (w.alloc (.cells #[] 2)).ownsRow w.heap.size 2 1 (.slice (some ⟨w.heap.size, 0, none⟩) 0 0) 0 [] := World.ownsRow_made w #[] 0 (Nat.le_refl _) (Nat.zero_le _) rfl
  have own1 := ownI_below own0 hb1
  have bx1 : Below w1.heap.size w1 (w1.alloc (.cells (madeCells #[.int .i64 0] m) 2)) := box_below
  have HO0 : Hid _ := ownI_below own1 bx1
  have HL0 : Hid (LdB (w1.alloc (.cells (madeCells #[.int .i64 0] m) 2)) w1.heap.size (List.replicate m 0)) := LdB.made w1 m
  have hw1 := bx.then hb1 bx.size
  have hs1 := bx.size
  have hs2 := hb1.size
  have HB0 : Hid _ := hw1.then bx1 hw1.size
  have hww : w.heap.size < w1.heap.size := by have : (w.alloc (.cells #[] 2)).heap.size = w.heap.size + 1 := by simp
                                              omega
  clear own0 own1 bx1 hb1 hw1 bx hs1 hs2
  go_loopw [5, 7, 8] (fun u i _ wr => ∃ (k g uc : Nat), k ≤ n ∧ i = .int .i64 k ∧ u = .slice (some ⟨g, 0, none⟩) k uc ∧ Hid (wr.ownsRow w.heap.size 2 1 (.slice (some ⟨g, 0, none⟩) k uc) k ((spreadK ls m k).map (Value.int .i64))) ∧ Hid (LdB wr w1.heap.size (loadK ls m k)) ∧ Hid (g ≠ w1.heap.size) ∧ Hid (Below w.heap.size w wr)) (fun _ i _ _ => n - (intOf i).toNat)
  case atStart => exact ⟨0, _, _, by omega, rfl, rfl, HO0.out, HL0.out, by unfold Hid; omega, HB0.out⟩
  case round =>
    obtain ⟨k, g, uc, hk, rfl, rfl, HO, HL, HD, HB⟩ := hrel
    by_cases hlt : k < n
    · obtain ⟨b, off, rfl, hbw, hat⟩ := h.at_ (by omega)
      have hlt' : (k : Int) < (n : Int) := by omega
      have jb := jok_bd (hjs.ok k (by omega)).1
      have hll := loadK_len ls m k
      have hkl : leastK (loadK ls m k) < m := by have := leastK_lt (l := loadK ls m k) (by omega); omega
      have lok := loadK_ok hjs (m := m) (by omega) k (leastK (loadK ls m k))
      have CL := l6Least_any w1.heap.size m (loadK ls m k) wr HL.out (by omega) (by omega) (by unfold maxLen; omega)
      rw [hll] at CL
      rw [← zg_getD] at lok
      have HLL : Hid _ := hll
      have HKL : Hid _ := hkl
      clear hll
      have Hloads : Hid (loadK ls m (k + 1) = addAt (loadK ls m k) (leastK (loadK ls m k)) (jg ls k).long) := loadK_succ (by omega)
      have Hspr : Hid (spreadK ls m (k + 1) = spreadK ls m k ++ [((leastK (loadK ls m k) : Nat) : Int)]) := spreadK_succ (by omega)
      generalize hkk : leastK (loadK ls m k) = q at *
      have HQ : Hid _ := hkk
      clear hkk
      obtain ⟨v, hv⟩ : ∃ v, zg (loadK ls m k) q = v := ⟨_, rfl⟩
      have HV : Hid _ := hv
      rw [hv] at lok
      clear hv
      have hq' : (q : Int) < (m : Int) := by omega
      go_wp2_with (go_at_call 35; refine CL.mono ?_; rintro e w2 ⟨rfl, hb2⟩
                   have hL2 := HL.out.below hb2
                   have lc := hL2.cell (k := q) (by rw [HLL.out]; exact hkl)
                   rw [HV.out] at lc
                   have lf := hL2.free q
                   obtain ⟨hc0, hc1, hc2, hc3, hc4, hc5, hc6⟩ := (hat.below (HB.out.then hb2 HB.out.size) hbw).job (i := k) (by omega)
                   have HL2 : Hid (LdB w2 w1.heap.size (loadK ls m k)) := hL2
                   clear hL2 CL)
      go_region
      have hgl := World.ownsRow.lt HO.out g rfl
      have hll1 := HL.out.lt
      have L3 : LdB (w2.setCell ⟨w1.heap.size, q, none⟩ (.int .i64 (v + (jg ls k).long))).drew w1.heap.size (loadK ls m (k + 1)) := by
        have := HL2.out.add q (jg ls k).long
        rw [HV.out, ← Hloads.out] at this
        exact this
      have hb2s := hb2.size
      have O2 := ownI_below HO.out hb2
      have O3 : (w2.setCell ⟨w1.heap.size, q, none⟩ (.int .i64 (v + (jg ls k).long))).drew.ownsRow w.heap.size 2 1 (.slice (some ⟨g, 0, none⟩) k uc) k ((spreadK ls m k).map (Value.int .i64)) := ownI_keep O2 (Below.heap_setCell _ _ _ _ HD.out)
      have B3 : Below w.heap.size w (w2.setCell ⟨w1.heap.size, q, none⟩ (.int .i64 (v + (jg ls k).long))).drew := ((HB.out.then hb2 HB.out.size).setCell (by show w.heap.size ≤ w1.heap.size; omega) _).drew
      obtain ⟨w3, hw3⟩ : ∃ w3, (w2.setCell ⟨w1.heap.size, q, none⟩ (.int .i64 (v + (jg ls k).long))).drew = w3 := ⟨_, rfl⟩
      rw [hw3] at L3 O3 B3 ⊢
      have B3s := B3.size
      have L3l := L3.lt
      have OA := ownI_below O3 (box_below (cs := #[.int .i64 (q : Nat)]) (T := 2))
      have HL3 : Hid (LdB w3 w1.heap.size (loadK ls m (k + 1))) := L3
      have HB3 : Hid _ := B3
      clear hw3 L3 B3 O2 O3 hb2 lc lf hc0 hc1 hc2 hc3 hc4 hc5 hc6
      go_wp2_with (at_builtin; refine wpList_append_own_at _ rfl (.tmp 42) (.tmp 44) 28 rfl w.heap.size 2 i1 (.int .i64 0) 1 8 Try.underlying28 hj hj0 hj1 hj2 rfl (by decide) _ _ _ rfl OA ⟨w3.heap.size, 0, none⟩ 1 1 [.int .i64 (q : Nat)] rfl rfl (own_one _ _ _) (by intro u hu; simp at hu; subst hu; rfl) (by unfold maxLen; omega) (by omega) (by simp; omega) ?_)
      intro v4 w4 own4 grow4 nil4 at4
      have own5 : w4.ownsRow w.heap.size 2 1 v4 (k + 1) ((spreadK ls m (k + 1)).map (Value.int .i64)) := by
        rw [Hspr.out, List.map_append]; exact own4
      obtain ⟨g4, c4, rfl⟩ : ∃ g4 c4, v4 = .slice (some ⟨g4, 0, none⟩) (k + 1) c4 := own_form own5 (by omega)
      have hg4 : g4 = g ∨ w3.heap.size < g4 := by
        rcases at4 with e | e
        · exact Or.inl (Option.some.inj e)
        · refine Or.inr ?_
          first
            | (have e' : g4 = w3.heap.size + 1 := Option.some.inj e; omega)
            | (have e' := Option.some.inj e; simp at e'; omega)
      have hdg := HD.out
      have L4 : LdB w4 w1.heap.size (loadK ls m (k + 1)) := (HL3.out.below box_below).keep (grow4.block w1.heap.size (by simp; omega) (by simp [Value.ownBlock]; omega))
      have B4 : Below w.heap.size w w4 := (HB3.out.alloc HB3.out.size _).grown grow4 (by simp; omega) (fun r e => by have e' : g = r := Option.some.inj e; omega)
      have HO5 : Hid _ := own5
      have HL4 : Hid (LdB w4 w1.heap.size (loadK ls m (k + 1))) := L4
      have HB4 : Hid _ := B4
      have HD4 : Hid (g4 ≠ w1.heap.size) := by unfold Hid; omega
      clear own4 own5 grow4 nil4 at4 OA L4 B4 hg4 hdg
      go_wp2
      go_roundw
      case rel => first | exact ⟨k + 1, g4, c4, by omega, by go_num, rfl, HO5, HL4, HD4, HB4⟩ | ((repeat apply Exists.intro); exact ⟨⟨k + 1, g4, c4, by omega, by go_num, rfl, HO5, HL4, HD4, HB4⟩, rfl⟩)
      case measure => simp [intOf]; omega
    · have e : k = n := by omega
      subst e
      go_wp2
      go_ret
      exact ⟨g, uc, rfl, by rw [← spreadK_all, hlen]; exact HO.out, HB.out⟩

theorem specSpread_yes (a : Option Addr) (n cap : Nat) (ls : List Jb) (m : Nat) (w : World) (h : JobS w a n cap ls) (hq : shB ls m = true) :
    Calls Try.prog 13 #[.slice a n cap, .int .i64 m] w fun e w' => ∃ g c, e = .returned (.slice (some ⟨g, 0, none⟩) n c) ∧ w.heap.size ≤ g ∧ c ≤ maxLen ∧ n ≤ c ∧ IntB w' g n (spreadI ls m) ∧ Below w.heap.size w w' := by
  refine (specSpreadO_yes a n cap ls m w h hq).mono ?_
  rintro e w' ⟨g, c, rfl, O, hb⟩
  obtain ⟨p1, _, p3, p4, p5⟩ := own_ints O
  exact ⟨g, c, rfl, p5, p4, p3, p1, hb⟩

end Go.Proofs.Ytcomohobkjkhiaa
