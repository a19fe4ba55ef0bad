/- Spread of the model. -/
import Derived.Test.YtmaojjjdepgaeaaL6S
import Derived.Test.YtmaojjjdepgaeaaSprI
import Derived.BigRegion
namespace Go.Proofs.Ytmaojjjdepgaeaa
open Go.RowKit Go.Sort Go.Shelf

theorem specSpreadO_no (a : Option Addr) (n cap : Nat) (ls : List Jb) (m : Int) (w : World) (h : JobS w a n cap ls) (hq : shB ls m = false) :
    Calls Try.prog 21 #[.slice a n cap, .int .i64 m] w fun e w' => ∃ v, e = .returned (.slice (some ⟨v, 0, none⟩) 0 0) ∧ w'.ownsRow w.heap.size 2 1 (.slice (some ⟨v, 0, none⟩) 0 0) 0 [] ∧ Below w.heap.size w w' := by
  have bx : Below w.heap.size w (w.alloc (.cells #[] 2)) := box_below
  have hI : (w.alloc (.cells #[] 2)).ownsRow w.heap.size 2 1 (.slice (some ⟨w.heap.size, 0, none⟩) 0 0) 0 [] := World.ownsRow_made w #[] 0 (Nat.le_refl _) (Nat.zero_le _) rfl
  unfold shB at hq
  rcases hj : jsB ls with _ | _
  · go_enter Try.func21, Try.ntmps21
    go_wp2_with (go_at_call 62; refine (specJobsOk_any a n cap ls _ (h.below bx)).mono ?_; rw [hj]; rintro e w1 ⟨rfl, hb1⟩)
    go_ret
    exact ⟨_, rfl, ownI_below hI hb1, bx.then hb1 bx.size⟩
  · rw [hj, Bool.true_and] at hq
    go_enter Try.func21, Try.ntmps21
    go_wp2_with (first
      | (go_at_call 62; refine (specJobsOk_any a n cap ls _ (h.below bx)).mono ?_; rw [hj]; rintro e w1 ⟨rfl, hb1⟩)
      | (go_at_call 63; refine (l1In_any _ _ _ _).mono ?_; rw [hq]; rintro e w2 ⟨rfl, rfl⟩))
    go_ret
    exact ⟨_, rfl, ownI_below hI hb1, bx.then hb1 bx.size⟩

theorem specSpread_no (a : Option Addr) (n cap : Nat) (ls : List Jb) (m : Int) (w : World) (h : JobS w a n cap ls) (hq : shB ls m = false) :
    Calls Try.prog 21 #[.slice a n cap, .int .i64 m] w fun e w' => ∃ v, e = .returned (.slice (some ⟨v, 0, none⟩) 0 0) ∧ IntB w' v 0 [] ∧ Below w.heap.size w w' := by
  refine (specSpreadO_no a n cap ls m w h hq).mono ?_
  rintro e w' ⟨v, rfl, O, hb⟩
  exact ⟨v, rfl, (own_ints (zs := []) O).1, hb⟩

theorem spreadI_len (ls : List Jb) (m n : Nat) (h : ls.length = n) : (spreadI ls m).length = n := by
  rw [← spreadK_all, spreadK_len (Nat.le_refl _), h]

set_option maxRecDepth 8000 in
set_option maxHeartbeats 4000000 in
theorem specSpreadO_yes (a : Option Addr) (n cap : Nat) (ls : List Jb) (m : Nat) (w : World) (h : JobS w a n cap ls) (hq : shB ls m = true) :
    Calls Try.prog 21 #[.slice a n cap, .int .i64 m] w fun e w' => ∃ g c, e = .returned (.slice (some ⟨g, 0, none⟩) n c) ∧ w'.ownsRow w.heap.size 2 1 (.slice (some ⟨g, 0, none⟩) n c) n ((spreadI ls m).map (Value.int .i64)) ∧ Below w.heap.size w w' := by
  obtain ⟨i1, hj, hj0, hj1, hj2⟩ := info_parts infoI
  obtain ⟨hjs, hm1, hm2⟩ := shB_t hq
  have hjq := jsB_mk hjs
  have hlen := h.len
  have hn := hjs.n
  have hmx := h.mx
  have hle := h.le
  unfold maxLen at hmx
  have hin : inB (m : Int) 1 10 = true := by unfold inB; simp; omega
  have hmk := run_makeM m (by omega)
  have bx : Below w.heap.size w (w.alloc (.cells #[] 2)) := box_below
  go_enter Try.func21, Try.ntmps21
  go_wp2_with (first
    | (go_at_call 62; refine (specJobsOk_any a n cap ls _ (h.below bx)).mono ?_; rw [hjq]; rintro e w0 ⟨rfl, hb1⟩)
    | (go_at_call 63; refine (l1In_any _ _ _ _).mono ?_; rw [hin]; rintro e w1 ⟨rfl, rfl⟩))
  clear hmk
  have own0 : (w.alloc (.cells #[] 2)).ownsRow w.heap.size 2 1 (.slice (some ⟨w.heap.size, 0, none⟩) 0 0) 0 [] := World.ownsRow_made w #[] 0 (Nat.le_refl _) (Nat.zero_le _) rfl
  have own1 := ownI_below own0 hb1
  have bx1 : Below w1.heap.size w1 (w1.alloc (.cells (madeCells #[.int .i64 0] m) 2)) := box_below
  have HO0 : Hid _ := ownI_below own1 bx1
  have HL0 : Hid (LdB (w1.alloc (.cells (madeCells #[.int .i64 0] m) 2)) w1.heap.size (List.replicate m 0)) := LdB.made w1 m
  have hw1 := bx.then hb1 bx.size
  have hs1 := bx.size
  have hs2 := hb1.size
  have HB0 : Hid _ := hw1.then bx1 hw1.size
  have hww : w.heap.size < w1.heap.size := by have : (w.alloc (.cells #[] 2)).heap.size = w.heap.size + 1 := by simp
                                              omega
  clear own0 own1 bx1 hb1 hw1 bx hs1 hs2
  go_loopw [5, 7, 8] (fun u i _ wr => ∃ (k g uc : Nat), k ≤ n ∧ i = .int .i64 k ∧ u = .slice (some ⟨g, 0, none⟩) k uc ∧ Hid (wr.ownsRow w.heap.size 2 1 (.slice (some ⟨g, 0, none⟩) k uc) k ((spreadK ls m k).map (Value.int .i64))) ∧ Hid (LdB wr w1.heap.size (loadK ls m k)) ∧ Hid (g ≠ w1.heap.size) ∧ Hid (Below w.heap.size w wr)) (fun _ i _ _ => n - (intOf i).toNat)
  case atStart => exact ⟨0, _, _, by omega, rfl, rfl, HO0.out, HL0.out, by unfold Hid; omega, HB0.out⟩
  case round =>
    obtain ⟨k, g, uc, hk, rfl, rfl, HO, HL, HD, HB⟩ := hrel
    by_cases hlt : k < n
    · obtain ⟨b, off, rfl, hbw, hat⟩ := h.at_ (by omega)
      have hlt' : (k : Int) < (n : Int) := by omega
      have jb := jok_bd (hjs.ok k (by omega)).1
      have hll := loadK_len ls m k
      have hkl : leastK (loadK ls m k) < m := by have := leastK_lt (l := loadK ls m k) (by omega); omega
      have lok := loadK_ok hjs (m := m) (by omega) k (leastK (loadK ls m k))
      have CL := l6Least_any w1.heap.size m (loadK ls m k) wr HL.out (by omega) (by omega) (by unfold maxLen; omega)
      rw [hll] at CL
      rw [← zg_getD] at lok
      have HLL : Hid _ := hll
      have HKL : Hid _ := hkl
      clear hll
      have Hloads : Hid (loadK ls m (k + 1) = addAt (loadK ls m k) (leastK (loadK ls m k)) (jg ls k).long) := loadK_succ (by omega)
      have Hspr : Hid (spreadK ls m (k + 1) = spreadK ls m k ++ [((leastK (loadK ls m k) : Nat) : Int)]) := spreadK_succ (by omega)
      generalize hkk : leastK (loadK ls m k) = q at *
      have HQ : Hid _ := hkk
      clear hkk
      obtain ⟨v, hv⟩ : ∃ v, zg (loadK ls m k) q = v := ⟨_, rfl⟩
      have HV : Hid _ := hv
      rw [hv] at lok
      clear hv
      have hq' : (q : Int) < (m : Int) := by omega
      go_wp2_with (go_at_call 65; refine CL.mono ?_; rintro e w2 ⟨rfl, hb2⟩
                   have hL2 := HL.out.below hb2
                   have lc := hL2.cell (k := q) (by rw [HLL.out]; exact hkl)
                   rw [HV.out] at lc
                   have lf := hL2.free q
                   obtain ⟨hc0, hc1, hc2, hc3, hc4, hc5, hc6⟩ := (hat.below (HB.out.then hb2 HB.out.size) hbw).job (i := k) (by omega)
                   have HL2 : Hid (LdB w2 w1.heap.size (loadK ls m k)) := hL2
                   clear hL2 CL)
      go_region
      have hgl := World.ownsRow.lt HO.out g rfl
      have hll1 := HL.out.lt
      have L3 : LdB (w2.setCell ⟨w1.heap.size, q, none⟩ (.int .i64 (v + (jg ls k).long))).drew w1.heap.size (loadK ls m (k + 1)) := by
        have := HL2.out.add q (jg ls k).long
        rw [HV.out, ← Hloads.out] at this
        exact this
      have hb2s := hb2.size
      have O2 := ownI_below HO.out hb2
      have O3 : (w2.setCell ⟨w1.heap.size, q, none⟩ (.int .i64 (v + (jg ls k).long))).drew.ownsRow w.heap.size 2 1 (.slice (some ⟨g, 0, none⟩) k uc) k ((spreadK ls m k).map (Value.int .i64)) := ownI_keep O2 (Below.heap_setCell _ _ _ _ HD.out)
      have B3 : Below w.heap.size w (w2.setCell ⟨w1.heap.size, q, none⟩ (.int .i64 (v + (jg ls k).long))).drew := ((HB.out.then hb2 HB.out.size).setCell (by show w.heap.size ≤ w1.heap.size; omega) _).drew
      obtain ⟨w3, hw3⟩ : ∃ w3, (w2.setCell ⟨w1.heap.size, q, none⟩ (.int .i64 (v + (jg ls k).long))).drew = w3 := ⟨_, rfl⟩
      rw [hw3] at L3 O3 B3 ⊢
      have B3s := B3.size
      have L3l := L3.lt
      have OA := ownI_below O3 (box_below (cs := #[.int .i64 (q : Nat)]) (T := 2))
      have HL3 : Hid (LdB w3 w1.heap.size (loadK ls m (k + 1))) := L3
      have HB3 : Hid _ := B3
      clear hw3 L3 B3 O2 O3 hb2 lc lf hc0 hc1 hc2 hc3 hc4 hc5 hc6
      go_wp2_with (at_builtin; refine wpList_append_own_at _ rfl (.tmp 42) (.tmp 44) 28 rfl w.heap.size 2 i1 (.int .i64 0) 1 8 Try.underlying28 hj hj0 hj1 hj2 rfl (by decide) _ _ _ rfl OA ⟨w3.heap.size, 0, none⟩ 1 1 [.int .i64 (q : Nat)] rfl rfl (own_one _ _ _) (by intro u hu; simp at hu; subst hu; rfl) (by unfold maxLen; omega) (by omega) (by simp; omega) ?_)
      intro v4 w4 own4 grow4 nil4 at4
      have own5 : w4.ownsRow w.heap.size 2 1 v4 (k + 1) ((spreadK ls m (k + 1)).map (Value.int .i64)) := by
        rw [Hspr.out, List.map_append]; exact own4
      obtain ⟨g4, c4, rfl⟩ : ∃ g4 c4, v4 = .slice (some ⟨g4, 0, none⟩) (k + 1) c4 := own_form own5 (by omega)
      have hg4 : g4 = g ∨ w3.heap.size < g4 := by
        rcases at4 with e | e
        · exact Or.inl (Option.some.inj e)
        · refine Or.inr ?_
          first
            | (have e' : g4 = w3.heap.size + 1 := Option.some.inj e; omega)
            | (have e' := Option.some.inj e; simp at e'; omega)
      have hdg := HD.out
      have L4 : LdB w4 w1.heap.size (loadK ls m (k + 1)) := (HL3.out.below box_below).keep (grow4.block w1.heap.size (by simp; omega) (by simp [Value.ownBlock]; omega))
      have B4 : Below w.heap.size w w4 := (HB3.out.alloc HB3.out.size _).grown grow4 (by simp; omega) (fun r e => by have e' : g = r := Option.some.inj e; omega)
      have HO5 : Hid _ := own5
      have HL4 : Hid (LdB w4 w1.heap.size (loadK ls m (k + 1))) := L4
      have HB4 : Hid _ := B4
      have HD4 : Hid (g4 ≠ w1.heap.size) := by unfold Hid; omega
      clear own4 own5 grow4 nil4 at4 OA L4 B4 hg4 hdg
      go_wp2
      go_roundw
      case rel => first | exact ⟨k + 1, g4, c4, by omega, by go_num, rfl, HO5, HL4, HD4, HB4⟩ | ((repeat apply Exists.intro); exact ⟨⟨k + 1, g4, c4, by omega, by go_num, rfl, HO5, HL4, HD4, HB4⟩, rfl⟩)
      case measure => simp [intOf]; omega
    · have e : k = n := by omega
      subst e
      go_wp2
      go_ret
      exact ⟨g, uc, rfl, by rw [← spreadK_all, hlen]; exact HO.out, HB.out⟩

theorem specSpread_yes (a : Option Addr) (n cap : Nat) (ls : List Jb) (m : Nat) (w : World) (h : JobS w a n cap ls) (hq : shB ls m = true) :
    Calls Try.prog 21 #[.slice a n cap, .int .i64 m] w fun e w' => ∃ g c, e = .returned (.slice (some ⟨g, 0, none⟩) n c) ∧ w.heap.size ≤ g ∧ c ≤ maxLen ∧ n ≤ c ∧ IntB w' g n (spreadI ls m) ∧ Below w.heap.size w w' := by
  refine (specSpreadO_yes a n cap ls m w h hq).mono ?_
  rintro e w' ⟨g, c, rfl, O, hb⟩
  obtain ⟨p1, _, p3, p4, p5⟩ := own_ints O
  exact ⟨g, c, rfl, p5, p4, p3, p1, hb⟩

end Go.Proofs.Ytmaojjjdepgaeaa
