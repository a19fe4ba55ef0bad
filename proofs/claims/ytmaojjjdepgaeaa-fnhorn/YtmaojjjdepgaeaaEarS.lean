/- The earliest due first (chapter 9): Earliest of the model. -/
import Derived.Test.YtmaojjjdepgaeaaEars
import Derived.Test.YtmaojjjdepgaeaaTaskS
import Derived.Test.YtmaojjjdepgaeaaInts
namespace Go.Proofs.Ytmaojjjdepgaeaa
open Go.RowKit

theorem IntB.set {w : World} {B n : Nat} {zs : List Int} (h : IntB w B n zs) (hl : zs.length = n) {k : Nat} (hk : k < n) (v : Int) : IntB (w.setCell ⟨B, k, none⟩ (.int .i64 v)) B n (zs.set k v) := by
  obtain ⟨cur, h1, h2, h3⟩ := h
  refine ⟨_, blk_set (j := k) h1 (.int .i64 v), by simpa using h2, fun i hi => ?_⟩
  rw [Array.getElem?_setIfInBounds]
  by_cases e : k = i
  · subst e; rw [if_pos rfl, if_pos (by omega)]; simp [zg, hl, hk]
  · rw [if_neg e, h3 i hi]; simp [zg, e]
theorem IntB.free {w : World} {B n : Nat} {zs : List Int} (h : IntB w B n zs) (k : Nat) : w.frozen? ⟨B, k, none⟩ = false := by
  obtain ⟨cur, h1, _⟩ := h; exact free_of_blk k h1
theorem IntB.keep {w w' : World} {B n : Nat} {zs : List Int} (h : IntB w B n zs) (hb : w'.heap[B]? = w.heap[B]?) : IntB w' B n zs := by
  obtain ⟨cur, h1, h2⟩ := h; exact ⟨cur, hb.trans h1, h2⟩
def lonL (ls : List Jb) (k : Nat) : List Int := (List.range k).map fun i => (jg ls i).long
theorem lonL_len (ls : List Jb) (k : Nat) : (lonL ls k).length = k := by simp [lonL]
theorem lonL_succ (ls : List Jb) (k : Nat) : lonL ls (k + 1) = lonL ls k ++ [(jg ls k).long] := by simp [lonL, List.range_succ]
theorem lonL_all (ls : List Jb) : lonL ls ls.length = remL ls 0 := rfl
def lonN (ls : List Jb) (k : Nat) : Int := sumN (fun i => (jg ls i).long) k
theorem lonN_succ (ls : List Jb) (k : Nat) : lonN ls (k + 1) = lonN ls k + (jg ls k).long := rfl
theorem lonN_bd {ls : List Jb} (h : TsOk ls) : ∀ k, k ≤ ls.length → 0 ≤ lonN ls k ∧ lonN ls k ≤ 50 * k
  | 0, _ => by simp [lonN, sumN]
  | k + 1, hk => by
    have ih := lonN_bd h k (by omega)
    have hb := h.bd (i := k) (by omega)
    rw [lonN_succ]
    omega
theorem earT {ls : List Jb} (h : TsOk ls) (t : Nat) (hs : ∀ s, s < t → 0 < sumT ls s) : t ≤ 800 ∧ 0 ≤ sumT ls t ∧ sumT ls t ≤ 800 := by
  have h1 := earM_all h t hs
  have h2 := sumT_nn h t
  have h3 : sumT ls 0 = lonN ls ls.length := rfl
  have h4 := lonN_bd h ls.length (Nat.le_refl _)
  have h5 := h.n
  unfold earM at h1
  omega

set_option maxRecDepth 8000 in
set_option maxHeartbeats 4000000 in
theorem specEarliest_any (a : Option Addr) (n cap : Nat) (ls : List Jb) (w : World) (h : JobS w a n cap ls) :
    Calls Try.prog 34 #[.slice a n cap] w fun e w' => ∃ (g c : Nat) (zs : List Int), e = .returned (.slice (some ⟨g, 0, none⟩) zs.length c) ∧ IsEar ls zs ∧ zs.length ≤ 800 ∧ w'.ownsRow w.heap.size 2 1 (.slice (some ⟨g, 0, none⟩) zs.length c) zs.length (zs.map (Value.int .i64)) ∧ Below w.heap.size w w' := by
  obtain ⟨i1, hj, hj0, hj1, hj2⟩ := info_parts infoI
  have hlen := h.len
  have hmx := h.mx
  have hle := h.le
  unfold maxLen at hmx
  have own0 : (w.alloc (.cells #[] 2)).ownsRow w.heap.size 2 1 (.slice (some ⟨w.heap.size, 0, none⟩) 0 0) 0 [] := World.ownsRow_made w #[] 0 (Nat.le_refl _) (Nat.zero_le _) rfl
  have bx : Below w.heap.size w (w.alloc (.cells #[] 2)) := (Below.refl _ _).alloc (Nat.le_refl _) _
  have ha : JobS (w.alloc (.cells #[] 2)) a n cap ls := h.below bx
  have za : (w.alloc (.cells #[] 2)).heap.size = w.heap.size + 1 := by simp
  rcases hq : tsB ls with _ | _
  · go_enter Try.func34, Try.ntmps34
    go_wp2_with (go_at_call 40; refine (specTasksOk_any a n cap ls _ ha).mono ?_; rw [hq]; rintro e w1 ⟨rfl, hb1⟩)
    have BR : Below w.heap.size w w1 := bx.then hb1 (by omega)
    have OR := ownI_below own0 hb1
    go_ret
    exact ⟨w.heap.size, 0, [], rfl, Or.inl ⟨hq, rfl⟩, by simp, OR, BR⟩
  have ho := tsB_t hq
  have hn := ho.n
  have hmo : Try.prog.follows .mixedOrders = true := by kernel_rfl
  go_enter Try.func34, Try.ntmps34
  go_wp2_with (go_at_call 40; refine (specTasksOk_any a n cap ls _ ha).mono ?_; rw [hq]; rintro e w1 ⟨rfl, hb1⟩)
  have BR : Hid (Below w.heap.size w w1) := bx.then hb1 (by omega)
  have OR : Hid (w1.ownsRow w.heap.size 2 1 (.slice (some ⟨w.heap.size, 0, none⟩) 0 0) 0 []) := ownI_below own0 hb1
  have z1 : w.heap.size + 1 ≤ w1.heap.size := by have := hb1.size; omega
  have own1 : (w1.alloc (.cells #[] 2)).ownsRow w1.heap.size 2 1 (.slice (some ⟨w1.heap.size, 0, none⟩) 0 0) 0 [] := World.ownsRow_made w1 #[] 0 (Nat.le_refl _) (Nat.zero_le _) rfl
  have bx1 : Below w1.heap.size w1 (w1.alloc (.cells #[] 2)) := (Below.refl _ _).alloc (Nat.le_refl _) _
  have h1 : JobS w1 a n cap ls := h.below BR.out
  clear own0 bx ha za hb1
  go_wp2
  go_loopw [4, 5, 6] (fun u s i wr => ∃ (k g uc : Nat), k ≤ n ∧ i = .int .i64 k ∧ s = .int .i64 (lonN ls k) ∧ u = .slice (some ⟨g, 0, none⟩) k uc ∧ Hid (wr.ownsRow w1.heap.size 2 1 (.slice (some ⟨g, 0, none⟩) k uc) k ((lonL ls k).map (Value.int .i64))) ∧ Below w1.heap.size w1 wr) (fun _ _ i _ => n - (intOf i).toNat)
  case atStart => exact ⟨0, _, 0, by omega, rfl, rfl, rfl, own1, bx1⟩
  case round =>
    obtain ⟨k, g, uc, hk, rfl, rfl, rfl, HO, hw⟩ := hrel
    by_cases hlt : k < n
    · obtain ⟨b, off, rfl, hbw, hat⟩ := (h1.below hw).at_ (by omega)
      have hc := (hat.job (i := k) (by omega)).2.2.1
      have hbw1 : b < w1.heap.size := by obtain ⟨b', off', e, hb', _⟩ := h1.at_ (by omega); injection e with e; injection e with e; omega
      have hlt' : (k : Int) < (n : Int) := by omega
      have bd := lonN_bd ho k (by omega)
      have jb := ho.bd (i := k) (by omega)
      have OA : (wr.alloc (.cells #[.int .i64 (jg ls k).long] 2)).ownsRow w1.heap.size 2 1 (.slice (some ⟨g, 0, none⟩) k uc) k ((lonL ls k).map (Value.int .i64)) := ownI_below HO.out ((Below.refl _ _).alloc (Nat.le_refl _) _)
      have hz := hw.size
      clear hat
      go_wp2_with (at_builtin; refine wpList_append_own_at _ rfl (.tmp 22) (.tmp 28) 28 rfl w1.heap.size 2 i1 (.int .i64 0) 1 8 Try.underlying28 hj hj0 hj1 hj2 rfl (by decide) _ _ _ rfl OA ⟨wr.heap.size, 0, none⟩ 1 1 [.int .i64 (jg ls k).long] rfl rfl (own_one _ _ _) (by intro u hu; simp at hu; subst hu; rfl) (by unfold maxLen; omega) (by omega) (by simp; omega) ?_)
      intro v3 w3 own3 grow3 nil3 at3
      have hg := (World.ownsRow.lt HO.out) g rfl
      have B3 : Below w1.heap.size w1 w3 := (hw.alloc hz _).grown grow3 (by simp; omega) (fun r e => by have e' : g = r := Option.some.inj e; omega)
      have own4 : w3.ownsRow w1.heap.size 2 1 v3 (k + 1) ((lonL ls (k + 1)).map (Value.int .i64)) := by
        rw [lonL_succ, List.map_append]; exact own3
      obtain ⟨g3, c3, rfl⟩ : ∃ g3 c3, v3 = .slice (some ⟨g3, 0, none⟩) (k + 1) c3 := by
        rcases own4.2 with ⟨_, h0⟩ | ⟨g3, c3, _, e, _⟩
        · omega
        · exact ⟨g3, c3, e⟩
      have HO4 : Hid _ := own4
      have hc3 : w3.cell? ⟨b, off + k * 7 + 2, none⟩ = some (.int .i64 (jg ls k).long) := by
        obtain ⟨b', off', e, hb', hat⟩ := (h1.below B3).at_ (by omega)
        injection e with e; injection e with e1 e2
        subst e1 e2
        exact (hat.job (i := k) (by omega)).2.2.1
      clear own3 own4 grow3 nil3 at3 OA hc
      go_wp2
      go_roundw
      case rel => exact ⟨k + 1, g3, c3, by omega, by go_num, by rw [lonN_succ], rfl, HO4, B3⟩
      case measure => simp [intOf]; omega
    · obtain rfl : k = n := by omega
      have OL := own_ints HO.out
      have hgl : w1.heap.size ≤ g := OL.2.2.2.2
      have hglt : g < wr.heap.size := OL.1.lt
      have hucm := OL.2.2.2.1
      have huc := OL.2.2.1
      have HI0 : Hid (IntB wr g k (remL ls 0)) := by unfold Hid; rw [← lonL_all, hlen]; exact OL.1
      have HU0 : Hid (wr.ownsRow w.heap.size 2 1 (.slice (some ⟨w.heap.size, 0, none⟩) 0 0) 0 ((earL ls 0).map (Value.int .i64))) := ownI_keep OR.out (hw.block _ (by omega))
      have HB0 : Hid (Below w.heap.size w wr) := BR.out.then hw (by omega)
      have hs0 : lonN ls k = sumT ls 0 := by rw [← hlen]; rfl
      rw [hs0]
      clear OL HO hs0
      go_wp2
      go_loopw [3, 5, 7] (fun u s i wq => ∃ (t g2 uc2 : Nat), i = .int .i64 t ∧ s = .int .i64 (sumT ls t) ∧ u = .slice (some ⟨g2, 0, none⟩) t uc2 ∧ g2 ≠ g ∧ g < wq.heap.size ∧ Hid (∀ s, s < t → 0 < sumT ls s) ∧ Hid (wq.ownsRow w.heap.size 2 1 (.slice (some ⟨g2, 0, none⟩) t uc2) t ((earL ls t).map (Value.int .i64))) ∧ Hid (IntB wq g k (remL ls t)) ∧ Hid (Below w.heap.size w wq)) (fun _ _ i _ => earM ls (intOf i).toNat)
      case atStart => exact ⟨0, _, 0, rfl, rfl, rfl, by omega, hglt, fun s hs => by omega, HU0.out, HI0.out, HB0.out⟩
      case round =>
        obtain ⟨t, g2, uc2, rfl, rfl, rfl, hgg, hgs, HS, HU, HI, HB⟩ := hrel
        rename World => wq
        obtain ⟨tb, s0, s1⟩ := earT ho t HS.out
        have hwq := HB.out.size
        by_cases hps : 0 < sumT ls t
        · go_wp2
          go_loopw [8, 9] (fun r i wi => ∃ (q : Nat) (bv : Int), q ≤ k ∧ i = .int .i64 q ∧ r = .int .i64 bv ∧ Hid (bv = bI (earB ls (remT ls t) t q)) ∧ Below wq.heap.size wq wi) (fun _ i _ => k - (intOf i).toNat)
          case atStart => exact ⟨0, -1, by omega, rfl, rfl, rfl, Below.refl _ _⟩
          case round =>
            obtain ⟨q, bv, hqn, rfl, rfl, HV, hwi⟩ := hrel
            rename World => wi
            have HB3 : Hid (Below w.heap.size w wi) := HB.out.then hwi hwq
            have HI3 : Hid (IntB wi g k (remL ls t)) := HI.out.below hwi
            by_cases hql : q < k
            · obtain ⟨b, off, rfl, hbw, hat⟩ := (h.below HB3.out).at_ (by omega)
              obtain ⟨hc0, hc1, hc2, hc3, hc4, hc5, hc6⟩ := hat.job (i := q) (by omega)
              have lc := HI3.out.cell (i := q) hql
              rw [remL_at (by omega)] at lc
              have hql' : (q : Int) < (k : Int) := by omega
              have HN : ∀ i : Nat, earB ls (remT ls t) t q = some i → i < q ∧ wi.cell? ⟨b, off + i * 7, none⟩ = some (.int .i64 (jg ls i).id) ∧ wi.cell? ⟨b, off + i * 7 + 3, none⟩ = some (.int .i64 (jg ls i).due) := fun i e => by
                have := earB_lt e
                obtain ⟨e0, e1, e2, e3, _⟩ := hat.job (i := i) (by omega)
                exact ⟨this, e0, e3⟩
              clear hat hc1 hc2 hc4 hc5
              by_cases d0 : remT ls t q = 0
              · have d0' : (remT ls t q == 0) = true := by simpa using d0
                have E : Hid (earB ls (remT ls t) t (q + 1) = earB ls (remT ls t) t q) := earB_skip (Or.inl d0)
                clear d0 HN
                go_wp2
                go_roundw
                case rel => exact ⟨q + 1, bv, by omega, by go_num, rfl, HV.out.trans (congrArg bI E.out.symm), hwi⟩
                case measure => simp [intOf]; omega
              · have d0' : (remT ls t q == 0) = false := by simpa using d0
                by_cases d1 : (t : Int) < (jg ls q).at_
                · have E : Hid (earB ls (remT ls t) t (q + 1) = earB ls (remT ls t) t q) := earB_skip (Or.inr d1)
                  clear d0 HN
                  go_wp2
                  go_roundw
                  case rel => exact ⟨q + 1, bv, by omega, by go_num, rfl, HV.out.trans (congrArg bI E.out.symm), hwi⟩
                  case measure => simp [intOf]; omega
                · by_cases n0 : bv < 0
                  · have E0 := bI_none (o := earB ls (remT ls t) t q) (by rw [← HV.out]; exact n0)
                    have E : Hid (earB ls (remT ls t) t (q + 1) = some q) := earB_first d0 d1 E0
                    clear HN E0 d0
                    go_wp2
                    go_quiet (fail)
                    go_wp2
                    go_roundw
                    case rel => exact ⟨q + 1, q, by omega, by go_num, rfl, (by unfold Hid; rw [E.out]; rfl), hwi.drewN _⟩
                    case measure => simp [intOf]; omega
                  · obtain ⟨y, E0, ey⟩ := bI_some (o := earB ls (remT ls t) t q) (by rw [← HV.out]; exact n0)
                    obtain rfl : bv = (y : Int) := HV.out.trans ey
                    obtain ⟨hyq, hy0, hy3⟩ := HN y E0
                    have hyk : (y : Int) < (k : Int) := by omega
                    clear HN HV ey
                    have g0 : decide ((y : Int) < 0) = false := decide_eq_false n0
                    by_cases f1 : (jg ls q).due < (jg ls y).due
                    · have E : Hid (earB ls (remT ls t) t (q + 1) = some q) := earB_less d0 d1 E0 (Or.inl f1)
                      have g1 : decide ((jg ls q).due < (jg ls y).due) = true := decide_eq_true f1
                      clear E0 d0
                      go_wp2
                      go_quiet (fail)
                      go_wp2
                      go_roundw
                      case rel => exact ⟨q + 1, q, by omega, by go_num, rfl, (by unfold Hid; rw [E.out]; rfl), hwi.drewN _⟩
                      case measure => simp [intOf]; omega
                    · have g1 : decide ((jg ls q).due < (jg ls y).due) = false := decide_eq_false f1
                      by_cases f2 : (jg ls q).due = (jg ls y).due
                      · have f2' : ((jg ls q).due == (jg ls y).due) = true := by simpa using f2
                        by_cases f3 : (jg ls q).id < (jg ls y).id
                        · have E : Hid (earB ls (remT ls t) t (q + 1) = some q) := earB_less d0 d1 E0 (Or.inr ⟨f2, f3⟩)
                          have g3 : decide ((jg ls q).id < (jg ls y).id) = true := decide_eq_true f3
                          clear E0 d0 f2
                          go_wp2
                          go_quiet (fail)
                          go_wp2
                          go_roundw
                          case rel => exact ⟨q + 1, q, by omega, by go_num, rfl, (by unfold Hid; rw [E.out]; rfl), hwi.drewN _⟩
                          case measure => simp [intOf]; omega
                        · have E : Hid (earB ls (remT ls t) t (q + 1) = some y) := earB_keep d0 d1 E0 (by omega)
                          have g3 : decide ((jg ls q).id < (jg ls y).id) = false := decide_eq_false f3
                          clear E0 d0 f2
                          go_wp2
                          go_quiet (fail)
                          go_wp2
                          go_roundw
                          case rel => exact ⟨q + 1, y, by omega, by go_num, rfl, (by unfold Hid; rw [E.out]; rfl), hwi.drewN _⟩
                          case measure => simp [intOf]; omega
                      · have f2' : ((jg ls q).due == (jg ls y).due) = false := by simpa using f2
                        have E : Hid (earB ls (remT ls t) t (q + 1) = some y) := earB_keep d0 d1 E0 (by omega)
                        clear E0 d0 f2
                        go_wp2
                        go_quiet (fail)
                        go_wp2
                        go_roundw
                        case rel => exact ⟨q + 1, y, by omega, by go_num, rfl, (by unfold Hid; rw [E.out]; rfl), hwi.drewN _⟩
                        case measure => simp [intOf]; omega
            · obtain rfl : q = k := by omega
              have HE : Hid (bv = bI (bstT ls t)) := by unfold Hid bstT; rw [hlen]; exact HV.out
              have hg2 := (World.ownsRow.lt HU.out) g2 rfl
              have hzi := hwi.size
              have HUi : Hid (wi.ownsRow w.heap.size 2 1 (.slice (some ⟨g2, 0, none⟩) t uc2) t ((earL ls t).map (Value.int .i64))) := ownI_below HU.out hwi
              have hgi : g < wi.heap.size := by omega
              have HSn : Hid (∀ s, s < t + 1 → 0 < sumT ls s) := fun s hs => by
                by_cases e : s = t
                · subst e; exact hps
                · exact HS.out s (by omega)
              have HM : Hid (earM ls (t + 1) < earM ls t) := earM_step ho hps
              have HX := sumT_step ho t
              clear HV
              by_cases n0 : bv < 0
              · have E0 := bI_none (o := bstT ls t) (by rw [← HE.out]; exact n0)
                have E1 : Hid (outT ls t = 0) := outT_none E0
                have E2 : Hid (remL ls (t + 1) = remL ls t) := remL_none E0
                have E3 : Hid (sumT ls (t + 1) = sumT ls t) := by rcases HX with ⟨_, e⟩ | ⟨i, e, _⟩; exact e; rw [E0] at e; cases e
                clear HX E0
                have OA : ((wi).alloc (.cells #[.int .i64 (0)] 2)).ownsRow w.heap.size 2 1 (.slice (some ⟨g2, 0, none⟩) t uc2) t ((earL ls t).map (Value.int .i64)) := ownI_below HUi.out ((Below.refl _ _).alloc (Nat.le_refl _) _)
                go_wp2_with (at_builtin; refine wpList_append_own_at _ rfl (.tmp 105) (.tmp 106) 28 rfl w.heap.size 2 i1 (.int .i64 0) 1 8 Try.underlying28 hj hj0 hj1 hj2 rfl (by decide) _ _ _ rfl OA ⟨(wi).heap.size, 0, none⟩ 1 1 [.int .i64 (0)] rfl rfl (own_one _ _ _) (by intro u hu; simp at hu; subst hu; rfl) (by unfold maxLen; omega) (by omega) (by simp; omega) ?_)
                intro v3 w3 own3 grow3 nil3 at3
                have B3 : Below w.heap.size w w3 := (HB3.out.alloc (by omega) _).grown grow3 (by simp; omega) (fun r e => by have e' : g2 = r := Option.some.inj e; omega)
                have HK3 : w3.heap[g]? = wi.heap[g]? := (grow3.block g (by simp; omega) (by simp [Value.ownBlock]; omega)).trans (Below.heap_alloc _ _ _ hgi)
                have own4 : w3.ownsRow w.heap.size 2 1 v3 (t + 1) ((earL ls (t + 1)).map (Value.int .i64)) := by
                  rw [earL_succ, List.map_append, E1.out]; exact own3
                obtain ⟨g3, c3, rfl⟩ : ∃ g3 c3, v3 = .slice (some ⟨g3, 0, none⟩) (t + 1) c3 := by
                  rcases own4.2 with ⟨_, h0⟩ | ⟨g3, c3, _, e, _⟩
                  · omega
                  · exact ⟨g3, c3, e⟩
                have hg3 : g3 ≠ g := by
                  rcases at3 with e | e
                  · have e' : g3 = g2 := by simpa [Value.ownBlock] using e
                    omega
                  · have e' : g3 = wi.heap.size + 1 := by simpa [Value.ownBlock] using e
                    omega
                have hgz : g < w3.heap.size := Nat.lt_of_lt_of_le (by simp; omega) grow3.size
                have HO4 : Hid _ := own4
                have HI4 : Hid (IntB w3 g q (remL ls (t + 1))) := by unfold Hid; rw [E2.out]; exact HI3.out.keep HK3
                clear own3 own4 grow3 nil3 at3 OA
                go_wp2
                go_roundw
                case rel => exact ⟨t + 1, g3, c3, by go_num, by rw [E3.out], rfl, hg3, hgz, HSn.out, HO4.out, HI4.out, B3⟩
                case measure => simpa [intOf] using HM.out
              · obtain ⟨y, E0, ey⟩ := bI_some (o := bstT ls t) (by rw [← HE.out]; exact n0)
                obtain rfl : bv = (y : Int) := HE.out.trans ey
                have hyk : y < q := by have := (earB_some E0).1; omega
                have E1 : Hid (outT ls t = (jg ls y).id) := outT_some E0
                have E2 : Hid (remL ls (t + 1) = (remL ls t).set y (remT ls t y - 1)) := remL_some E0
                have E3 : 0 < remT ls t y ∧ sumT ls (t + 1) = sumT ls t - 1 := by
                  rcases HX with ⟨e, _⟩ | ⟨i, e, _, h1, h2⟩
                  · rw [E0] at e; cases e
                  · rw [E0] at e; cases e; exact ⟨h1, h2⟩
                obtain ⟨rm0, hsum⟩ := E3
                have rm1 : remT ls t y ≤ 50 := by
                  have h1 := (horn_of ho t).down (i := y) (by omega) (s := 0) t (by omega) (Nat.le_refl _)
                  have h2 := ho.bd (i := y) (by omega)
                  have h3 : remT ls 0 y = (jg ls y).long := rfl
                  omega
                have HSm : Hid (sumT ls (t + 1) = sumT ls t - 1) := hsum
                have lc := HI3.out.cell (i := y) hyk
                rw [remL_at (by omega)] at lc
                have lf := HI3.out.free y
                obtain ⟨b, off, rfl, hbw, hat⟩ := (h.below HB3.out).at_ (by omega)
                have hid := (hat.job (i := y) (by omega)).1
                have hbg : b ≠ g := by
                  obtain ⟨b', off', e, hb', _⟩ := h1.at_ (by omega)
                  injection e with e; injection e with e _
                  omega
                have hyk' : (y : Int) < (q : Int) := by omega
                obtain ⟨R, hR⟩ : ∃ R, R = remT ls t y := ⟨_, rfl⟩
                rw [← hR] at lc rm0 rm1 E2
                clear hat HX E0 hsum hR ey
                have hset : Hid (IntB (wi.setCell ⟨g, y, none⟩ (.int .i64 (R - 1))) g q (remL ls (t + 1))) := by
                  unfold Hid; rw [E2.out]
                  exact HI3.out.set (by rw [remL_len]; omega) hyk (R - 1)
                have zs : (wi.setCell ⟨g, y, none⟩ (.int .i64 (R - 1))).heap.size = wi.heap.size := by simp [World.setCell]
                have OA : ((wi.setCell ⟨g, y, none⟩ (.int .i64 (R - 1))).alloc (.cells #[.int .i64 (jg ls y).id] 2)).ownsRow w.heap.size 2 1 (.slice (some ⟨g2, 0, none⟩) t uc2) t ((earL ls t).map (Value.int .i64)) :=
                  ownI_below (ownI_keep HUi.out (Below.heap_setCell _ _ _ _ hgg)) ((Below.refl _ _).alloc (Nat.le_refl _) _)
                have BS : Below w.heap.size w (wi.setCell ⟨g, y, none⟩ (.int .i64 (R - 1))) := HB3.out.setCell (by show w.heap.size ≤ g; omega) _
                go_wp2_with (at_builtin; refine wpList_append_own_at _ rfl (.tmp 118) (.tmp 124) 28 rfl w.heap.size 2 i1 (.int .i64 0) 1 8 Try.underlying28 hj hj0 hj1 hj2 rfl (by decide) _ _ _ rfl OA ⟨wi.heap.size, 0, none⟩ 1 1 [.int .i64 (jg ls y).id] rfl rfl (by have := own_one (wi.setCell ⟨g, y, none⟩ (.int .i64 (R - 1))) (jg ls y).id 2; rwa [zs] at this) (by intro u hu; simp at hu; subst hu; rfl) (by unfold maxLen; omega) (by omega) (by simp; omega) ?_)
                intro v3 w3 own3 grow3 nil3 at3
                have B3 : Below w.heap.size w w3 := (BS.alloc (by rw [zs]; omega) _).grown grow3 (by simp [World.setCell]; omega) (fun r e => by have e' : g2 = r := Option.some.inj e; omega)
                have HK3 : w3.heap[g]? = (wi.setCell ⟨g, y, none⟩ (.int .i64 (R - 1))).heap[g]? := (grow3.block g (by simp [World.setCell]; omega) (by simp [Value.ownBlock]; omega)).trans (Below.heap_alloc _ _ _ (by rw [zs]; omega))
                have own4 : w3.ownsRow w.heap.size 2 1 v3 (t + 1) ((earL ls (t + 1)).map (Value.int .i64)) := by
                  rw [earL_succ, List.map_append, E1.out]; exact own3
                obtain ⟨g3, c3, rfl⟩ : ∃ g3 c3, v3 = .slice (some ⟨g3, 0, none⟩) (t + 1) c3 := by
                  rcases own4.2 with ⟨_, h0⟩ | ⟨g3, c3, _, e, _⟩
                  · omega
                  · exact ⟨g3, c3, e⟩
                have hg3 : g3 ≠ g := by
                  rcases at3 with e | e
                  · have e' : g3 = g2 := by simpa [Value.ownBlock] using e
                    omega
                  · have e' : g3 = wi.heap.size + 1 := by simpa [Value.ownBlock, World.setCell] using e
                    omega
                have hgz : g < w3.heap.size := Nat.lt_of_lt_of_le (by simp [World.setCell]; omega) grow3.size
                have HO4 : Hid _ := own4
                have HI4 : Hid (IntB w3 g q (remL ls (t + 1))) := hset.out.keep HK3
                clear own3 own4 grow3 nil3 at3 OA
                go_wp2
                go_roundw
                case rel => exact ⟨t + 1, g3, c3, by go_num, by rw [HSm.out], rfl, hg3, hgz, HSn.out, HO4.out, HI4.out, B3⟩
                case measure => simpa [intOf] using HM.out
        · have e0 : sumT ls t = 0 := by omega
          have E : Hid (IsEar ls (earL ls t)) := Or.inr ⟨hq, t, HS.out, e0, rfl⟩
          clear e0
          go_wp2
          go_ret
          obtain ⟨zs, rfl, e1, e2⟩ : ∃ zs : List Int, zs.length = t ∧ IsEar ls zs ∧ wq.ownsRow w.heap.size 2 1 (.slice (some ⟨g2, 0, none⟩) t uc2) t (zs.map (Value.int .i64)) := ⟨earL ls t, earL_len ls t, E.out, HU.out⟩
          exact ⟨g2, uc2, zs, rfl, e1, tb, e2, HB.out⟩

end Go.Proofs.Ytmaojjjdepgaeaa
