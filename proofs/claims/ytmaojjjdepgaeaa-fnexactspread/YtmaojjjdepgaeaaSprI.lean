/- Spread of the program. -/
import Derived.Test.YtmaojjjdepgaeaaHpIM
import Derived.Test.YtmaojjjdepgaeaaL6
namespace Go.Proofs.Ytmaojjjdepgaeaa
open Go.RowKit Go.Sort Go.Shelf

/-- who does what -/
def spreadI (ls : List Jb) (m : Nat) : List Int := (spreadV (List.replicate m 0) (longs ls)).map (fun k : Nat => (k : Int))
/-- the first k of it -/
def spreadK (ls : List Jb) (m k : Nat) : List Int := (spreadV (List.replicate m 0) ((longs ls).take k)).map (fun k : Nat => (k : Int))
/-- the loads behind the first k -/
def loadK (ls : List Jb) (m k : Nat) : List Int := afterV (List.replicate m 0) ((longs ls).take k)
theorem spreadK_len {ls : List Jb} {m k : Nat} (h : k ≤ ls.length) : (spreadK ls m k).length = k := by
  unfold spreadK; rw [List.length_map, spreadV_len, List.length_take, longs_len]; omega
theorem spreadK_all (ls : List Jb) (m : Nat) : spreadK ls m ls.length = spreadI ls m := by
  unfold spreadK spreadI; rw [← longs_len, List.take_length]
theorem spreadK_succ {ls : List Jb} {m k : Nat} (h : k < ls.length) : spreadK ls m (k + 1) = spreadK ls m k ++ [((leastK (loadK ls m k) : Nat) : Int)] := by
  unfold spreadK loadK; rw [longs_succ h, spreadV_snoc, List.map_append]; rfl
theorem loadK_succ {ls : List Jb} {m k : Nat} (h : k < ls.length) : loadK ls m (k + 1) = addAt (loadK ls m k) (leastK (loadK ls m k)) (jg ls k).long := by
  unfold loadK; rw [longs_succ h, afterV_snoc]
theorem loadK_len (ls : List Jb) (m k : Nat) : (loadK ls m k).length = m := by unfold loadK; rw [afterV_len, List.length_replicate]
theorem loadK_ok {ls : List Jb} {m : Nat} (h : JsOk ls) (hm : 1 ≤ m) (k : Nat) : LdOk (loadK ls m k) 400000 := by
  have := LdOk.after ((longs ls).take k) (List.replicate m 0) 0 (LdOk.rep m) (by rw [List.length_replicate]; exact hm) (fun p hp => by have := longs_bd h p (List.mem_of_mem_take hp); omega)
  refine this.mono ?_
  have h1 : ((longs ls).take k).length ≤ 40 := by rw [List.length_take, longs_len]; have := h.n; omega
  omega

theorem implSpread_no (a : Option Addr) (n cap : Nat) (ls : List Jb) (m : Int) (w : World) (h : JobS w a n cap ls) (hq : shB ls m = false) :
    Calls Try.prog 15 #[.slice a n cap, .int .i64 m] w fun e w' => e = .returned (.slice none 0 0) ∧ Below w.heap.size w w' := by
  go_enter Try.func15, Try.ntmps15
  go_wp2_with fail
  refine (shareOk_any a n cap ls m _ h).mono ?_
  rw [hq]
  rintro e w1 ⟨rfl, hb1⟩
  go_wp2
  go_ret
  exact ⟨rfl, hb1⟩

set_option maxRecDepth 8000 in
set_option maxHeartbeats 4000000 in
theorem implSpread_yes (a : Option Addr) (n cap : Nat) (ls : List Jb) (m : Nat) (w : World) (h : JobS w a n cap ls) (hq : shB ls m = true) :
    Calls Try.prog 15 #[.slice a n cap, .int .i64 m] w fun e w' => ∃ g c, e = .returned (.slice (some ⟨g, 0, none⟩) n c) ∧ w.heap.size ≤ g ∧ c ≤ maxLen ∧ n ≤ c ∧ IntB w' g n (spreadI ls m) ∧ Below w.heap.size w w' := by
  obtain ⟨i1, hj, hj0, hj1, hj2⟩ := info_parts infoI
  obtain ⟨hjs, hm1, hm2⟩ := shB_t hq
  have hlen := h.len
  have hn := hjs.n
  have hmx := h.mx
  have hle := h.le
  unfold maxLen at hmx
  have hmk := run_makeI n (by omega)
  go_enter Try.func15, Try.ntmps15
  go_wp2_with fail
  refine (shareOk_any a n cap ls m _ h).mono ?_
  rw [hq]
  rintro e w1 ⟨rfl, hb1⟩
  go_wp2_with fail
  refine (idle_any m _ (by omega) (by omega)).mono ?_
  rintro e w2 ⟨P, bo, bn, g0, c0, ys0, rfl, H2, hs2, hM2, hb2⟩
  have HH2 : Hid _ := H2
  have HS2 : Hid _ := hs2
  have HM2 : Hid _ := hM2
  have HB2 : Hid (Below w.heap.size w w2) := hb1.then hb2 hb1.size
  have HB12 : Hid (Below w1.heap.size w1 w2) := hb2
  have hw1 := hb1.size
  clear H2 hs2 hM2 hb2
  go_wp2
  clear hmk
  have own0 : (w2.alloc (.cells (madeCells #[.int .i64 0] n) 2)).ownsRow w2.heap.size 2 1 (.slice (some ⟨w2.heap.size, 0, none⟩) 0 n) 0 [] := by
    have := World.ownsRow_made (base := w2.heap.size) (e := 2) (size := 1) w2 (madeCells #[.int .i64 0] n) n (by simp) (by unfold maxLen; omega) (by simp [size_madeCells])
    simpa using this
  have HO0 : Hid _ := own0
  have bx2 : Below w2.heap.size w2 (w2.alloc (.cells (madeCells #[.int .i64 0] n) 2)) := box_below
  have HX2 : Hid _ := bx2
  clear own0 bx2
  go_loopw [6, 8, 20] (fun u _ i wr => ∃ (k g uc gh ch : Nat) (ys : List (Int × Int)), k ≤ n ∧ i = .int .i64 k ∧ u = .slice (some ⟨g, 0, none⟩) k uc ∧ Hid (wr.ownsRow w2.heap.size 2 1 (.slice (some ⟨g, 0, none⟩) k uc) k ((spreadK ls m k).map (Value.int .i64))) ∧ Hid (HpW wr (w1.heap.size + 2) P bo bn (some ⟨gh, 0, none⟩) ch ys) ∧ Hid (IsHp ys ys.length) ∧ Hid (Macs ys (loadK ls m k)) ∧ Hid (g ≠ gh) ∧ Hid (Below w.heap.size w wr) ∧ Hid (w2.heap.size ≤ wr.heap.size)) (fun _ _ i _ => n - (intOf i).toNat)
  case atStart => exact ⟨0, _, _, g0, c0, ys0, by omega, rfl, rfl, HO0.out, HH2.out.below HX2.out, HS2.out, HM2.out, by have := HH2.out.ltg; unfold Hid; omega, HB2.out.then HX2.out HB2.out.size, HX2.out.size⟩
  case round =>
    obtain ⟨k, g, uc, gh, ch, ys, hk, rfl, rfl, HO, HH, HS, HM, HD, HB, HZ⟩ := hrel
    by_cases hlt : k < n
    · obtain ⟨b, off, rfl, hbw, hat⟩ := h.at_ (by omega)
      obtain ⟨hc0, hc1, hc2, hc3, hc4, hc5, hc6⟩ := (hat.below HB.out hbw).job (i := k) (by omega)
      have hlt' : (k : Int) < (n : Int) := by omega
      have jb := jok_bd (hjs.ok k (by omega)).1
      have bx : Below wr.heap.size wr (wr.alloc (.cells #[.int .i64 (jg ls k).id, .int .i64 (jg ls k).cores, .int .i64 (jg ls k).long, .int .i64 (jg ls k).due, .int .i64 (jg ls k).wt, .int .i64 (jg ls k).rank, .int .i64 (jg ls k).at_] 49)) := box_below
      have hyl : ys.length = m := by rw [HM.out.len, loadK_len]
      have hfst := HM.out.first HS.out (by rw [loadK_len]; omega)
      have lok := loadK_ok hjs (m := m) (by omega) k (leastK (loadK ls m k))
      have hP2 := HH2.out.ltP
      have hg2 := HH2.out.ge
      have CG := give_any (w1.heap.size + 2) P bo bn gh ch (m - 1) (jg ls k).long ys _ (HH.out.below bx) (by have := HZ.out; have := bx.size; omega) (by omega) (by omega) HS.out (by rw [hfst]; exact lok.1) (by rw [hfst]; have := lok.2; simp only; omega) (by omega) (by omega)
      rw [hfst] at CG
      simp only at CG
      have HBX : Hid _ := bx
      have hgl := World.ownsRow.lt HO.out g rfl
      have hPl := HH.out.ltP
      have hgl2 := HH.out.ltg
      have hl2 := HM.out.len
      have bxs := bx.size
      have HO1 : Hid _ := (HO.out.alloc (.cells #[.int .i64 (jg ls k).id, .int .i64 (jg ls k).cores, .int .i64 (jg ls k).long, .int .i64 (jg ls k).due, .int .i64 (jg ls k).wt, .int .i64 (jg ls k).rank, .int .i64 (jg ls k).at_] 49))
      have hPg : P ≠ g := by omega
      have zx : (wr.alloc (.cells #[.int .i64 (jg ls k).id, .int .i64 (jg ls k).cores, .int .i64 (jg ls k).long, .int .i64 (jg ls k).due, .int .i64 (jg ls k).wt, .int .i64 (jg ls k).rank, .int .i64 (jg ls k).at_] 49)).heap.size = wr.heap.size + 1 := by simp
      clear hfst lok bx hyl
      go_wp2_with (first
        | (go_at_call 58; refine CG.mono ?_; rintro e w3 ⟨rfl, g3, c3, zs, r, H3, hp3, hz3, hs3, T3⟩
           have hgr : (w3.alloc (.cells #[.int .i64 (leastK (loadK ls m k) : Nat)] 2)).ownsRow w2.heap.size 2 1 (.slice (some ⟨g, 0, none⟩) k uc) k ((spreadK ls m k).map (Value.int .i64)) :=
             (ownI_keep HO1.out (T3.block g (by omega) (Ne.symm hPg) (fun g' e => by injection e with e; injection e with e _ _; have := HD.out; omega))).alloc _
           have hz3s := T3.size
           have HH3 : Hid _ := H3
           have HT3 : Hid _ := T3
           have HP3 : Hid _ := hp3
           have HZ3 : Hid _ := hz3
           have HS3 : Hid _ := hs3
           clear H3 T3 hp3 hz3 hs3 CG)
        | (at_builtin; refine wpList_append_own_at _ rfl (.tmp 24) (.tmp 29) 28 rfl w2.heap.size 2 i1 (.int .i64 0) 1 8 Try.underlying28 hj hj0 hj1 hj2 rfl (by decide) _ _ _ rfl hgr ⟨w3.heap.size, 0, none⟩ 1 1 [.int .i64 (leastK (loadK ls m k) : Nat)] rfl rfl (own_one _ _ _) (by intro u hu; simp at hu; subst hu; rfl) (by unfold maxLen; omega) (by omega) (by simp; omega) ?_))
      intro v4 w4 own4 grow4 nil4 at4
      have own5 : w4.ownsRow w2.heap.size 2 1 v4 (k + 1) ((spreadK ls m (k + 1)).map (Value.int .i64)) := by
        rw [spreadK_succ (by omega), List.map_append]; exact own4
      obtain ⟨g4, c4, rfl⟩ : ∃ g4 c4, v4 = .slice (some ⟨g4, 0, none⟩) (k + 1) c4 := own_form own5 (by omega)
      have lw3 : (w3.alloc (.cells #[.int .i64 (leastK (loadK ls m k) : Nat)] 2)).heap.size = w3.heap.size + 1 := by simp
      have hg4 : g4 = g ∨ g4 = w3.heap.size + 1 := by
        rcases at4 with e | e
        · exact Or.inl (Option.some.inj e)
        · exact Or.inr (by first | exact (Option.some.inj e) | exact (Option.some.inj e).trans lw3)
      have hg3 : g3 = gh ∨ wr.heap.size + 1 ≤ g3 := by
        rcases HT3.out.row with e | ⟨g', e, h'⟩ <;> (injection e with e; injection e with e _ _; omega)
      have hl3 := HH3.out.ltg
      have hlP := HH3.out.ltP
      have hdg := HD.out
      have hPge := HH.out.ge
      have hgh := HH.out.ltg.1
      have H4 : HpW w4 (w1.heap.size + 2) P bo bn (some ⟨g3, 0, none⟩) c3 zs := HH3.out.keep ((grow4.block P (by omega) (by simpa [Value.ownBlock] using hPg)).trans (Below.heap_alloc _ _ _ hlP)) (fun g' e => by injection e with e; injection e with e _ _; subst e; exact (grow4.block g3 (by omega) (by simp [Value.ownBlock]; omega)).trans (Below.heap_alloc _ _ _ hl3.2)) (fun k hk => (grow4.block k (by omega) (by simp [Value.ownBlock]; omega)).trans (Below.heap_alloc _ _ _ (by omega)))
      have M4 : Macs zs (loadK ls m (k + 1)) := by
        rw [loadK_succ (by omega)]
        exact HM.out.give (leastK_lt (by rw [loadK_len]; omega)) HP3.out HZ3.out
      have B3 : Below w.heap.size w w3 := (HB.out.then HBX.out HB.out.size).trans ((HH.out.below HBX.out).turnB HT3.out |>.mono (by have := HB12.out.size; have := HX2.out.size; omega))
      have B4 : Below w.heap.size w w4 := (B3.alloc B3.size _).grown grow4 (by have := B3.size; omega) (fun r e => by have e' : g = r := Option.some.inj e; have := HB2.out.size; omega)
      have z4 : w2.heap.size ≤ w4.heap.size := by have := grow4.size; have := HZ.out; omega
      have HO5 : Hid _ := own5
      have HH4 : Hid _ := H4
      have HM4 : Hid _ := M4
      have HB4 : Hid _ := B4
      have HZ4 : Hid _ := z4
      have HD4 : Hid (g4 ≠ g3) := by unfold Hid; omega
      clear own4 own5 grow4 nil4 at4 hgr H4 M4 B3 B4 z4 hg4 hg3 hdg
      go_wp2
      go_roundw
      case rel => first | exact ⟨k + 1, g4, c4, g3, c3, zs, by omega, by go_num, rfl, HO5, HH4, HS3, HM4, HD4, HB4, HZ4⟩ | ((repeat apply Exists.intro); exact ⟨⟨k + 1, g4, c4, g3, c3, zs, by omega, by go_num, rfl, HO5, HH4, HS3, HM4, HD4, HB4, HZ4⟩, rfl⟩)
      case measure => simp [intOf]; omega
    · have e : k = n := by omega
      subst e
      obtain ⟨p1, _, p3, p4, p5⟩ := own_ints HO.out
      have HB12s := HB12.out.size
      go_wp2
      go_ret
      exact ⟨g, uc, rfl, by omega, p4, p3, by rw [← spreadK_all, hlen]; exact p1, HB.out⟩

end Go.Proofs.Ytmaojjjdepgaeaa
