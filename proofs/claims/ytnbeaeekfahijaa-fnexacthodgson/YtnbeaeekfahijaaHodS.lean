/- Hodgson of the model. -/
import Derived.Test.YtnbeaeekfahijaaHodI2
import Derived.Test.YtnbeaeekfahijaaSelS2
namespace Go.Proofs.Ytnbeaeekfahijaa
open Go.RowKit Go.Sort

theorem far_next {M : List Jb} {m f : Nat} (h : ∀ p, p < m → ltLong (jg M f) (jg M p) = false) (hlt : ltLong (jg M f) (jg M m) = true) : ∀ p, p < m + 1 → ltLong (jg M m) (jg M p) = false := fun p hp => by
  by_cases e : p = m
  · subst e; exact swo_long.irrefl _
  · rw [Bool.eq_false_iff]; intro h1
    have := swo_long.trans _ _ _ hlt h1
    rw [h p (by omega)] at this; cases this
theorem far_stay {M : List Jb} {m f : Nat} (h : ∀ p, p < m → ltLong (jg M f) (jg M p) = false) (hlt : ltLong (jg M f) (jg M m) = false) : ∀ p, p < m + 1 → ltLong (jg M f) (jg M p) = false := fun p hp => by
  by_cases e : p = m
  · subst e; exact hlt
  · exact h p (by omega)

theorem OwnJ.cells {w : World} {base g cap : Nat} {ys : List Jb} (h : OwnJ w base g cap ys) : ∀ j u, (jcells ys)[j]? = some u → w.cell? ((⟨g, 0, none⟩ : Addr).add j) = some u := fun j u hju => World.ownsRow.cells h.own (g := g) rfl j u hju
theorem OwnJ.cellsTake {w : World} {base g cap : Nat} {ys : List Jb} (h : OwnJ w base g cap ys) (k : Nat) : ∀ j u, (jcells (ys.take k))[j]? = some u → w.cell? ((⟨g, 0, none⟩ : Addr).add j) = some u := fun j u hju => by
  refine h.cells j u ?_
  have e : jcells ys = jcells (ys.take k) ++ jcells (ys.drop k) := by rw [← jcells_app, List.take_append_drop]
  rw [e, List.getElem?_append_left (List.getElem?_eq_some_iff.1 hju).1]
  exact hju

set_option maxRecDepth 8000 in
set_option maxHeartbeats 8000000 in
theorem specHodgson_any (a : Option Addr) (n cap : Nat) (ls : List Jb) (w : World) (h : JobS w a n cap ls) :
    Calls Try.prog 28 #[.slice a n cap] w fun e w' => ∃ g c ys, e = .returned (.slice (some ⟨g, 0, none⟩) ys.length c) ∧ OwnJ w' w.heap.size g c ys ∧ IsHod ls ys ∧ Below w.heap.size w w' := by
  obtain ⟨i1, hji, hj0, hj1, hj2⟩ := info_parts infoJ
  have hlen := h.len
  rcases hq : jsB ls with _ | _
  · go_enter Try.func28, Try.ntmps28
    go_wp2_with (go_at_call 18; refine (specJobsOk_any _ _ _ _ _ h).mono ?_; rw [hq]; rintro e w1 ⟨rfl, hb1⟩)
    go_ret
    exact ⟨w1.heap.size, 0, [], rfl, (own_nil w1).lower hb1.size, Or.inl ⟨hq, rfl⟩, hb1.alloc hb1.size _⟩
  · have hn40 : n ≤ 40 := by have := (jsB_t hq).n; omega
    go_enter Try.func28, Try.ntmps28
    go_wp2_with fail
    refine (specJobsOk_any _ _ _ _ _ h).mono ?_
    rw [hq]
    rintro e w1 ⟨rfl, hb1⟩
    go_wp2_with fail
    refine (l5Jackson_any a n cap ls _ (h.below hb1) hn40).mono ?_
    rintro e w2 ⟨gE, cE, E, rfl, OE, hEl, hEp, hEs, hb2⟩
    have hE : IsBy ltDue ls E := Or.inr ⟨hq, hEp, hEs⟩
    have hj := (jsB_t hq).perm hEp
    have wfE : ∀ i, i < E.length → jwf (jg E i) := wf_sub (fun x hx => hEp.subset hx) (fun i hi => h.wf i (by omega))
    have z1 := hb1.size
    have hb12 := hb1.then hb2 z1
    have z2 := hb2.size
    have gEl := OE.lt
    -- kept and aside, empty
    have bA : Below w2.heap.size w2 (w2.alloc (.cells #[] 31)) := box_below
    have bB : Below (w2.alloc (.cells #[] 31)).heap.size (w2.alloc (.cells #[] 31)) ((w2.alloc (.cells #[] 31)).alloc (.cells #[] 31)) := box_below
    have HK0 : Hid (OwnJ ((w2.alloc (.cells #[] 31)).alloc (.cells #[] 31)) w2.heap.size w2.heap.size 0 []) := (own_nil w2).below bB
    have HR0 : Hid (OwnJ ((w2.alloc (.cells #[] 31)).alloc (.cells #[] 31)) w2.heap.size (w2.heap.size + 1) 0 []) := by
      have := (own_nil (w2.alloc (.cells #[] 31))).lower (base' := w2.heap.size) (by simp)
      rwa [show (w2.alloc (.cells #[] 31)).heap.size = w2.heap.size + 1 by simp] at this
    have bAB := bA.then bB bA.size
    clear bA bB
    go_wp2
    go_loopw [4, 5, 6, 7] (fun u v s i wr => ∃ (k gK cK gR cR : Nat) (K R : List Jb), k ≤ n ∧ i = .int .i64 k ∧ u = .slice (some ⟨gK, 0, none⟩) K.length cK ∧ v = .slice (some ⟨gR, 0, none⟩) R.length cR ∧ s = .int .i64 (tot K) ∧ Hid (HSt E k K R) ∧ Hid (OwnJ wr w2.heap.size gK cK K) ∧ Hid (OwnJ wr w2.heap.size gR cR R) ∧ gK ≠ gR ∧ Below w2.heap.size w2 wr) (fun _ _ _ i _ => n - (intOf i).toNat)
    case atStart => exact ⟨0, _, 0, _, 0, [], [], by omega, rfl, rfl, rfl, rfl, ⟨rfl, rfl⟩, HK0.out, HR0.out, by omega, bAB⟩
    case round =>
      obtain ⟨k, gK, cK, gR, cR, K, R, hk, rfl, rfl, rfl, rfl, HS, HK, HR, hKR, hw⟩ := hrel
      by_cases hlt : k < n
      · have hlt' : (k : Int) < (n : Int) := by omega
        have hz := hw.size
        have hkl := HS.out.len (by omega)
        have hjM := (HS.out.jsK hj (by omega)).2.2 (by omega)
        have tb := tot_bd (ls := K) (fun x hx => (js_all (jsB_mk (HS.out.jsK hj (by omega)).1)) x hx)
        have jb := jok_bd (hj.ok k (by omega)).1
        have eM : tot (K ++ [jg E k]) = tot K + (jg E k).long := by rw [tot_app]; show tot K + ((jg E k).long + 0) = _; omega
        have hMl : (K ++ [jg E k]).length = K.length + 1 := by simp
        have OEr := OE.keep (hw.block gE gEl) hz
        have C0 := OEr.cell (i := k) (f := 0) (by omega) (by omega)
        have C1 := OEr.cell (i := k) (f := 1) (by omega) (by omega)
        have C2 := OEr.cell (i := k) (f := 2) (by omega) (by omega)
        have C3 := OEr.cell (i := k) (f := 3) (by omega) (by omega)
        have C4 := OEr.cell (i := k) (f := 4) (by omega) (by omega)
        have C5 := OEr.cell (i := k) (f := 5) (by omega) (by omega)
        have C6 := OEr.cell (i := k) (f := 6) (by omega) (by omega)
        simp only [jc, Nat.add_zero] at C0 C1 C2 C3 C4 C5 C6
        have hcE : n ≤ cE := by have := OE.le; omega
        have hmE : cE ≤ maxLen := OE.mx
        unfold maxLen at hmE
        have OA := (HK.out.below (box_below (cs := #[.int .i64 (jg E k).id, .int .i64 (jg E k).cores, .int .i64 (jg E k).long, .int .i64 (jg E k).due, .int .i64 (jg E k).wt, .int .i64 (jg E k).rank, .int .i64 (jg E k).at_]) (T := 31))).own
        have HN : Hid _ := new7_cells' wr (jg E k) 31
        have lK := HK.out.lt
        have lR := HR.out.lt
        have bK := HK.out.base
        have bR := HR.out.base
        have hK40 : K.length ≤ 40 := by omega
        have hR40 : R.length ≤ 40 := by omega
        go_wp2_with (at_builtin; refine wpList_append_own_at _ rfl (.tmp 24) (.tmp 29) 24 rfl w2.heap.size 31 i1 (.agg #[.int .i64 0, .int .i64 0, .int .i64 0, .int .i64 0, .int .i64 0, .int .i64 0, .int .i64 0]) 7 56 Try.underlying24 hji hj0 hj1 hj2 rfl (by decide) _ _ _ rfl OA ⟨wr.heap.size, 0, none⟩ 1 1 [.int .i64 (jg E k).id, .int .i64 (jg E k).cores, .int .i64 (jg E k).long, .int .i64 (jg E k).due, .int .i64 (jg E k).wt, .int .i64 (jg E k).rank, .int .i64 (jg E k).at_] rfl rfl HN.out (jl_one (jg E k)) (by unfold maxLen; omega) (by omega) (by simp; omega) ?_)
        intro v3 w3 own3 grow3 nil3 at3
        obtain ⟨g3, c3, rfl, O3⟩ := ownJ_of' (ys := K ++ [jg E k]) own3 (by simp) (by rw [jcells_app]; rfl) nil3
        have B3 : Below w2.heap.size w2 w3 := (hw.alloc hz _).grown grow3 (by simp; omega) (fun g hg => by have e' : gK = g := Option.some.inj hg; omega)
        have HR3 : Hid (OwnJ w3 w2.heap.size gR cR R) := (HR.out.below (box_below (cs := #[.int .i64 (jg E k).id, .int .i64 (jg E k).cores, .int .i64 (jg E k).long, .int .i64 (jg E k).due, .int .i64 (jg E k).wt, .int .i64 (jg E k).rank, .int .i64 (jg E k).at_]) (T := 31))).keep (grow3.block gR (by simp; omega) (fun e => by have e' : gR = gK := Option.some.inj e; omega)) grow3.size
        have hg3 : g3 ≠ gR := by
          rcases at3 with e | e
          · have e' : g3 = gK := Option.some.inj e; omega
          · simp [Value.ownBlock] at e; omega
        have OEr := OE.keep (B3.block gE gEl) B3.size
        have D2 := OEr.cell (i := k) (f := 2) (by omega) (by omega)
        have D3 := OEr.cell (i := k) (f := 3) (by omega) (by omega)
        simp only [jc] at D2 D3
        have HO3 : Hid _ := O3
        have tk0 : 0 ≤ tot K := tb.1
        have tk1 : tot K ≤ 400000 := by have := tb.2; omega
        have tl0 : 1 ≤ (jg E k).long := jb.1
        have tl1 : (jg E k).long ≤ 10000 := jb.2.1
        clear own3 grow3 nil3 at3 OA HN O3 OEr C0 C1 C2 C3 C4 C5 C6 tb jb HK HR
        by_cases hc : tot (K ++ [jg E k]) ≤ (jg E k).due
        · have hs : Hid (HSt E (k + 1) (K ++ [jg E k]) R) := ⟨K, R, HS.out, Or.inl ⟨hc, rfl, rfl⟩⟩
          rw [eM] at hc
          have HM : Hid (tot (K ++ [jg E k]) = tot K + (jg E k).long) := eM
          have hkl' : Hid (K.length + R.length = k) := hkl
          clear eM hkl
          go_wp2
          go_roundw
          case rel => exact ⟨k + 1, g3, c3, gR, cR, K ++ [jg E k], R, by omega, by go_num, by rw [hMl], rfl, by rw [HM.out], hs, HO3.out, HR3.out, hg3, B3⟩
          case measure => simp [intOf]; omega
        · have hs : Hid (∀ i, IsFar (K ++ [jg E k]) i → HSt E (k + 1) ((K ++ [jg E k]).eraseIdx i) (R ++ [jg (K ++ [jg E k]) i])) := fun i hi => ⟨K, R, HS.out, Or.inr ⟨hc, i, hi, rfl, rfl⟩⟩
          have okM : ∀ i, i < (K ++ [jg E k]).length → jok (jg (K ++ [jg E k]) i) = true := fun i hi => (hjM.ok i hi).1
          have hM40 := hjM.n
          obtain ⟨M, hMd⟩ : ∃ M, K ++ [jg E k] = M := ⟨_, rfl⟩
          rw [hMd] at hs okM hjM hM40 HO3 hMl eM hc
          clear hMd HS
          have hc' : ¬ (tot K + (jg E k).long ≤ (jg E k).due) := by omega
          rw [← hMl]
          have HMl : Hid (M.length = K.length + 1) := hMl
          have hM1 : 1 ≤ M.length := by omega
          have HTM : Hid (tot M = tot K + (jg E k).long) := eM
          have l3 := HO3.out.lt
          have b3 := HO3.out.base
          have hc3 : M.length ≤ c3 := HO3.out.le
          have hmc3 : c3 ≤ maxLen := HO3.out.mx
          unfold maxLen at hmc3
          clear hMl hkl eM hc
          go_wp2
          go_loopw [8, 9] (fun r p wi => ∃ (m f : Nat), m ≤ M.length ∧ f < M.length ∧ p = .int .i64 m ∧ r = .int .i64 f ∧ Hid (∀ p, p < m → ltLong (jg M f) (jg M p) = false) ∧ Below w3.heap.size w3 wi) (fun _ p _ => M.length - (intOf p).toNat)
          case atStart => exact ⟨0, 0, by omega, by omega, rfl, rfl, (fun p hp => by omega), Below.refl _ _⟩
          case round =>
            obtain ⟨m, f, hmM, hfM, rfl, rfl, HF, hwi⟩ := hrel
            rename World => wi
            have Oi := HO3.out.below hwi
            by_cases hmt : m < M.length
            · have hmt' : (m : Int) < (M.length : Int) := by omega
              have hft' : (f : Int) < (M.length : Int) := by omega
              have I0 := (Oi.cell (i := m) (f := 0) hmt (by omega)).1
              have I2 := (Oi.cell (i := m) (f := 2) hmt (by omega)).1
              have E0 := (Oi.cell (i := f) (f := 0) hfM (by omega)).1
              have E2 := (Oi.cell (i := f) (f := 2) hfM (by omega)).1
              simp only [jc, Nat.add_zero] at I0 I2 E0 E2
              have HL : ltLong (jg M f) (jg M m) = decide ((jg M f).long < (jg M m).long ∨ ((jg M f).long = (jg M m).long ∧ (jg M f).id < (jg M m).id)) := rfl
              clear Oi
              by_cases c1 : (jg M f).long < (jg M m).long
              · have HM' : Hid (∀ p, p < m + 1 → ltLong (jg M m) (jg M p) = false) := far_next HF.out (by rw [HL]; simp [c1])
                clear HL I0 E0
                go_wp2
                go_quiet (fail)
                go_wp2
                go_roundw
                case rel => exact ⟨m + 1, m, by omega, by omega, by go_num, rfl, HM', hwi.drewNI _⟩
                case measure => simp [intOf]; omega
              · have d1 : decide ((jg M f).long < (jg M m).long) = false := decide_eq_false c1
                by_cases c2 : (jg M m).long = (jg M f).long
                · have d2 : ((jg M m).long == (jg M f).long) = true := by simpa using c2
                  by_cases c3' : (jg M f).id < (jg M m).id
                  · have HM' : Hid (∀ p, p < m + 1 → ltLong (jg M m) (jg M p) = false) := far_next HF.out (by rw [HL]; simp [c2, c3'])
                    clear HL c1 c2
                    go_wp2
                    go_quiet (fail)
                    go_wp2
                    go_roundw
                    case rel => exact ⟨m + 1, m, by omega, by omega, by go_num, rfl, HM', hwi.drewNI _⟩
                    case measure => simp [intOf]; omega
                  · have HM' : Hid (∀ p, p < m + 1 → ltLong (jg M f) (jg M p) = false) := far_stay HF.out (by rw [HL]; simp; omega)
                    have d3 : decide ((jg M f).id < (jg M m).id) = false := decide_eq_false c3'
                    clear HL c1 c2 c3'
                    go_wp2
                    go_quiet (fail)
                    go_wp2
                    go_roundw
                    case rel => exact ⟨m + 1, f, by omega, by omega, by go_num, rfl, HM', hwi.drewNI _⟩
                    case measure => simp [intOf]; omega
                · have d2 : ((jg M m).long == (jg M f).long) = false := by simpa using c2
                  have HM' : Hid (∀ p, p < m + 1 → ltLong (jg M f) (jg M p) = false) := far_stay HF.out (by rw [HL]; simp; omega)
                  clear HL c1 c2 I0 E0
                  go_wp2
                  go_quiet (fail)
                  go_wp2
                  go_roundw
                  case rel => exact ⟨m + 1, f, by omega, by omega, by go_num, rfl, HM', hwi.drewNI _⟩
                  case measure => simp [intOf]; omega
            · have e : m = M.length := by omega
              subst e
              have hfar : IsFar M f := ⟨hfM, HF.out⟩
              have Oi := HO3.out.below hwi
              have Ri := HR3.out.below hwi
              have Bi := B3.then hwi B3.size
              have Hs' : Hid (HSt E (k + 1) (M.eraseIdx f) (R ++ [jg M f])) := hs.out f hfar
              have hft' : (f : Int) < (M.length : Int) := by omega
              have f0 : (0 : Int) ≤ (f : Int) := by omega
              have I0 := (Oi.cell (i := f) (f := 0) hfM (by omega)).1
              have I1 := (Oi.cell (i := f) (f := 1) hfM (by omega)).1
              have I2 := (Oi.cell (i := f) (f := 2) hfM (by omega)).1
              have I3 := (Oi.cell (i := f) (f := 3) hfM (by omega)).1
              have I4 := (Oi.cell (i := f) (f := 4) hfM (by omega)).1
              have I5 := (Oi.cell (i := f) (f := 5) hfM (by omega)).1
              have I6 := (Oi.cell (i := f) (f := 6) hfM (by omega)).1
              simp only [jc, Nat.add_zero] at I0 I1 I2 I3 I4 I5 I6
              have ml0 : 1 ≤ (jg M f).long := (jok_bd (okM f hfM)).1
              have ml1 : (jg M f).long ≤ 10000 := (jok_bd (okM f hfM)).2.1
              have RA := (Ri.below (box_below (cs := #[.int .i64 (jg M f).id, .int .i64 (jg M f).cores, .int .i64 (jg M f).long, .int .i64 (jg M f).due, .int .i64 (jg M f).wt, .int .i64 (jg M f).rank, .int .i64 (jg M f).at_]) (T := 31))).own
              have HN : Hid _ := new7_cells' wi (jg M f) 31
              have lRi := Ri.lt
              have l3i := Oi.lt
              have bRi := Ri.base
              have zi := Bi.size
              have te := tot_erase hfM
              have HT : Hid (tot (M.eraseIdx f) = tot K + (jg E k).long - (jg M f).long) := (by have := HTM.out; omega : tot (M.eraseIdx f) = tot K + (jg E k).long - (jg M f).long)
              clear te HF hfar hs okM
              go_wp2_with (at_builtin; refine wpList_append_own_at _ rfl (.tmp 96) (.tmp 101) 24 rfl w2.heap.size 31 i1 (.agg #[.int .i64 0, .int .i64 0, .int .i64 0, .int .i64 0, .int .i64 0, .int .i64 0, .int .i64 0]) 7 56 Try.underlying24 hji hj0 hj1 hj2 rfl (by decide) _ _ _ rfl RA ⟨wi.heap.size, 0, none⟩ 1 1 [.int .i64 (jg M f).id, .int .i64 (jg M f).cores, .int .i64 (jg M f).long, .int .i64 (jg M f).due, .int .i64 (jg M f).wt, .int .i64 (jg M f).rank, .int .i64 (jg M f).at_] rfl rfl HN.out (jl_one (jg M f)) (by unfold maxLen; omega) (by omega) (by simp; omega) ?_)
              intro v5 w5 own5 grow5 nil5 at5
              obtain ⟨g5, c5, rfl, O5⟩ := ownJ_of' (ys := R ++ [jg M f]) own5 (by simp) (by rw [jcells_app]; rfl) nil5
              have B5 : Below w2.heap.size w2 w5 := (Bi.alloc zi _).grown grow5 (by simp; omega) (fun g hg => by have e' : gR = g := Option.some.inj hg; omega)
              have OM5 : OwnJ w5 w2.heap.size g3 c3 M := (Oi.below (box_below (cs := #[.int .i64 (jg M f).id, .int .i64 (jg M f).cores, .int .i64 (jg M f).long, .int .i64 (jg M f).due, .int .i64 (jg M f).wt, .int .i64 (jg M f).rank, .int .i64 (jg M f).at_]) (T := 31))).keep (grow5.block g3 (by simp; omega) (fun e => by have e' : g3 = gR := Option.some.inj e; omega)) grow5.size
              have l5 := O5.lt
              have HO5 : Hid _ := O5
              have hnil := JobS.nil_ w5
              clear own5 grow5 nil5 at5 RA HN O5 I0 I1 I2 I3 I4 I5 I6 hnil Oi Ri
              have z5 := B5.size
              have l35 := OM5.lt
              have OE5 := World.ownsRow_made (base := w5.heap.size) (e := 31) (size := 7) w5.drew #[] 0 (Nat.le_refl _) (Nat.zero_le _) rfl
              have BD : Below w5.heap.size w5 (w5.drew.alloc (.cells #[] 31)) := (Below.refl _ _).drew.alloc (Nat.le_refl _) _
              have HC1 : Hid _ := (OM5.below BD).cellsTake f
              have hj1' : (jcells (M.take f)).length = f * 7 := by rw [jcells_len]; simp; omega
              have hj2' : (jcells (M.drop (f + 1))).length = (M.length - (f + 1)) * 7 := by rw [jcells_len]; simp
              have n2 : (f : Int) + 1 ≤ (M.length : Int) := by omega
              have n3 : (M.length : Int) ≤ (c3 : Int) := by omega
              have n5 : ((f : Int) + 1).toNat = f + 1 := by omega
              have n6 : (f : Int) ≤ (c3 : Int) := by omega
              have n8 : (0 : Int) ≤ (f : Int) + 1 := by omega
              have wk : IntKind.i64.wrap ((f : Int) + 1) = (f : Int) + 1 := by rw [IntKind.wrap_i64]; omega
              obtain ⟨ad, HA, HC2⟩ : ∃ ad : Addr, (if c3 = f + 1 then some (⟨g3, 0, none⟩ : Addr) else some ⟨g3, (f + 1) * 7, none⟩) = some ad ∧ Hid (∀ W, Below w5.heap.size w5 W → ∀ j u, (jcells (M.drop (f + 1)))[j]? = some u → W.cell? (ad.add j) = some u) := by
                by_cases hum : c3 = f + 1
                · refine ⟨⟨g3, 0, none⟩, if_pos hum, fun W hW j u hju => ?_⟩
                  rw [List.drop_eq_nil_of_le (by omega)] at hju
                  simp [jcells] at hju
                · refine ⟨⟨g3, (f + 1) * 7, none⟩, if_neg hum, fun W hW j u hju => ?_⟩
                  have := (OM5.below hW).rest (f + 1) j u hju
                  rw [Nat.zero_add] at this
                  exact this
              have hel : (M.eraseIdx f).length = M.length - 1 := List.length_eraseIdx_of_lt hfM
              have hee : jcells (M.take f) ++ jcells (M.drop (f + 1)) = jcells (M.eraseIdx f) := by rw [← jcells_app, List.eraseIdx_eq_take_drop_succ]
              have htl : (M.take f).length = f := by simp; omega
              have HEL : Hid _ := hel
              have HEE : Hid _ := hee
              have HTL : Hid _ := htl
              clear hel hee htl OM5
              go_wp2
              go_region_law (first
                | (refine step_append_own rfl (.tmp 103) (.tmp 106) 24 rfl w5.heap.size 31 i1 (.agg #[.int .i64 0, .int .i64 0, .int .i64 0, .int .i64 0, .int .i64 0, .int .i64 0, .int .i64 0]) 7 56 Try.underlying24 hji hj0 hj1 hj2 rfl (by decide) _ _ _ rfl OE5 ⟨g3, 0, none⟩ f c3 (jcells (M.take f)) rfl hj1' HC1.out (jcells_one _) (by unfold maxLen; omega) (by omega) (by simp) ?_
                   intro v6 w6 own6 grow6 nil6 at6
                   rw [Nat.zero_add, List.nil_append] at own6
                   obtain ⟨g6, c6, rfl, O6⟩ := ownJ_of' (ys := M.take f) own6 (by have := HTL.out; omega) rfl (fun e => nomatch (nil6.1 e).1)
                   have B6 : Below w5.heap.size w5 w6 := BD.grown grow6 BD.size (fun r e => Nat.le_of_eq (show w5.heap.size = r from Option.some.inj e))
                   have HC6 := HC2.out w6 B6)
                | (refine step_append_own rfl (.tmp 107) (.tmp 111) 24 rfl w5.heap.size 31 i1 (.agg #[.int .i64 0, .int .i64 0, .int .i64 0, .int .i64 0, .int .i64 0, .int .i64 0, .int .i64 0]) 7 56 Try.underlying24 hji hj0 hj1 hj2 rfl (by decide) _ _ _ rfl own6 ad (M.length - (f + 1)) (c3 - (f + 1)) (jcells (M.drop (f + 1))) rfl hj2' HC6 (jcells_one _) (by unfold maxLen; omega) (by omega) B6.size ?_
                   intro v7 w7 own7 grow7 nil7 at7
                   obtain ⟨g7, c7, rfl, O7⟩ := ownJ_of' (ys := M.eraseIdx f) own7 (by have := HEL.out; omega) HEE.out (fun e => nomatch (nil7.1 e).1)
                   have B7 : Below w5.heap.size w5 w7 := B6.grown grow7 B6.size (fun r e => by have e' : g6 = r := Option.some.inj e; have := O6.base; omega)))
              all_goals
                have b7 := O7.base
                have HO7 : Hid _ := O7.lower z5
                have HO57 : Hid _ := HO5.out.below B7
                have HB7 : Hid _ := B5.then B7 z5
                clear own6 own7 grow6 grow7 nil6 nil7 at6 at7 O6 O7 B6 B7 HC6 OE5
                go_wp2
                go_roundw
                case rel => exact ⟨k + 1, g7, c7, g5, c5, M.eraseIdx f, R ++ [jg M f], by omega, by go_num, by rw [HEL.out]; exact congrArg (fun x => Value.slice _ x _) (by omega), by rw [List.length_append]; rfl, by rw [HT.out], Hs'.out, HO7.out, HO57.out, by omega, HB7.out⟩
                case measure => simp [intOf]; omega
      · have e : k = n := by omega
        subst e
        have hst := HS.out
        rw [← hEl] at hst
        have hjR := (hst.jsK hj (Nat.le_refl _)).2.1
        have hkl := hst.len (Nat.le_refl _)
        have hE40 := hj.n
        have hRE : ∀ x ∈ R, x ∈ E := fun x hx => by
          have := (hst.perm (Nat.le_refl _)).subset (List.mem_append_right _ hx)
          rwa [List.take_length] at this
        have SR := HR.out.toS (wf_sub hRE wfE)
        have hKR40 : K.length + R.length ≤ 40 := by omega
        have hR40 : R.length ≤ 40 := by omega
        have zr := hw.size
        clear hkl
        go_wp2_with fail
        refine (l5Jackson_any _ R.length cR R _ SR hR40).mono ?_
        rintro e w4 ⟨g4, c4, R', rfl, O4, hRl, hRp, hRs, hb4⟩
        have OA := (HK.out.below hb4).own
        have hcl := O4.cells
        have hjl : (jcells R').length = R.length * 7 := by rw [jcells_len, hRl]
        have z4 := hb4.size
        have bK := HK.out.base
        have hH0 : IsHod ls (K ++ R') := Or.inr ⟨hq, E, K, R, R', hE, hst, Or.inr ⟨jsB_mk hjR, hRp, hRs⟩, rfl⟩
        have hmc4 : c4 ≤ maxLen := O4.mx
        go_wp2_with (at_builtin; refine wpList_append_own_at _ rfl (.tmp 113) (.tmp 115) 24 rfl w2.heap.size 31 i1 (.agg #[.int .i64 0, .int .i64 0, .int .i64 0, .int .i64 0, .int .i64 0, .int .i64 0, .int .i64 0]) 7 56 Try.underlying24 hji hj0 hj1 hj2 rfl (by decide) _ _ _ rfl OA ⟨g4, 0, none⟩ R.length c4 (jcells R') rfl hjl hcl (jcells_one _) (by unfold maxLen; omega) (by omega) (by omega) ?_)
        intro v5 w5 own5 grow5 nil5 at5
        have hkr : K.length + R.length = (K ++ R').length := by simp [hRl]
        obtain ⟨ys, hys⟩ : ∃ ys, ys = K ++ R' := ⟨_, rfl⟩
        obtain ⟨g5, c5, rfl, O5⟩ := ownJ_of (ys := ys) own5 (by rw [hys]; exact hkr) (by rw [hys, jcells_app]) nil5
        have B5 : Below w2.heap.size w2 w5 := (hw.then hb4 zr).grown grow5 (by omega) (fun g hg => by have e' : gK = g := Option.some.inj hg; omega)
        have HO5 : Hid _ := (O5.lower z2).lower z1
        have hH : IsHod ls ys := by rw [hys]; exact hH0
        have BF := hb12.then B5 hb12.size
        clear own5 grow5 nil5 at5 hkr hys hH0 O5
        go_wp2
        go_ret
        exact ⟨g5, c5, ys, rfl, HO5.out, hH, BF⟩

end Go.Proofs.Ytnbeaeekfahijaa
