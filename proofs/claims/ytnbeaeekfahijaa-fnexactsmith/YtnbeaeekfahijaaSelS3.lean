/- Smith of the model. -/
import Derived.Test.YtnbeaeekfahijaaSelS2
import Derived.Test.YtnbeaeekfahijaaRuleI
namespace Go.Proofs.Ytnbeaeekfahijaa
open Go.RowKit Go.Sort

set_option maxRecDepth 8000 in
set_option maxHeartbeats 4000000 in
theorem specSmith_any (a : Option Addr) (n cap : Nat) (ls : List Jb) (w : World) (h : JobS w a n cap ls) :
    Calls Try.prog 16 #[.slice a n cap] w fun e w' => ∃ g c ys, e = .returned (.slice (some ⟨g, 0, none⟩) ys.length c) ∧ OwnJ w' w.heap.size g c ys ∧ IsBy ltSm ls ys ∧ Below w.heap.size w w' := by
  obtain ⟨i1, hj, hj0, hj1, hj2⟩ := info_parts infoJ
  have hm := h.mx
  have hle := h.le
  have hlen := h.len
  unfold maxLen at hm
  have bx : Below w.heap.size w (w.alloc (.cells #[] 31)) := box_below
  rcases hq : jsB ls with _ | _
  · go_enter Try.func16, Try.ntmps16
    go_wp2_with (go_at_call 18; refine (specJobsOk_any _ _ _ _ _ (h.below bx)).mono ?_; rw [hq]; rintro e w1 ⟨rfl, hb1⟩)
    go_ret
    exact ⟨w.heap.size, 0, [], rfl, (own_nil w).below hb1, Or.inl ⟨hq, rfl⟩, bx.then hb1 bx.size⟩
  · have hn : n ≤ 40 := by have := (jsB_t hq).n; omega
    have hok : ∀ i, i < n → jok (jg ls i) = true := fun i hi => js_all hq _ (by rw [jg_get (by omega)]; exact List.getElem_mem (by omega))
    have hmk := run_makeB n (by omega)
    go_enter Try.func16, Try.ntmps16
    go_wp2_with (go_at_call 18; refine (specJobsOk_any _ _ _ _ _ (h.below bx)).mono ?_; rw [hq]; rintro e w1 ⟨rfl, hb1⟩)
    clear hmk
    have own1 := (own_nil w).below hb1
    have bw1 := bx.then hb1 bx.size
    have hz1 := bw1.size
    have bx1 : Below w1.heap.size w1 (w1.alloc (.cells (madeCells #[.bool false] n) 4)) := box_below
    have HOW : Hid _ := own1.below bx1
    have hgl := own1.lt
    have HUS : Hid (UsedB (w1.alloc (.cells (madeCells #[.bool false] n) 4)) w1.heap.size n []) := by
      refine ⟨_, by rw [heap_alloc_new], by simp [size_madeCells], fun i hi => ?_⟩
      simp [madeCells, hi, Nat.mod_one]
    have bw2 := bw1.then bx1 hz1
    clear own1 bx bx1 hb1
    go_loopw [3, 5] (fun u i wr => ∃ (k g uc : Nat) (ps : List Nat), k ≤ n ∧ ps.length = k ∧ i = .int .i64 k ∧ u = .slice (some ⟨g, 0, none⟩) k uc ∧ Hid (SelI ltSm ls ps) ∧ Hid (OwnJ wr w.heap.size g uc (ps.map (jg ls))) ∧ Hid (UsedB wr w1.heap.size n ps) ∧ g ≠ w1.heap.size ∧ Below w.heap.size w wr) (fun _ i _ => n - (intOf i).toNat)
    case atStart => exact ⟨0, _, 0, [], by omega, rfl, rfl, rfl, sel_nil _ _, HOW.out, HUS.out, by omega, bw2⟩
    case round =>
      obtain ⟨k, g, uc, ps, hk, hpl, rfl, rfl, HS, HO, HU, hgU, hw⟩ := hrel
      rename World => wo
      by_cases hlt : k < n
      · obtain ⟨b, off, rfl, hbw, hat⟩ := h.at_ (by omega)
        have hlt' : (k : Int) < (n : Int) := by omega
        clear HUS HOW bw2
        go_wp2
        go_loopw [6, 7] (fun r p wr => ∃ (m : Nat) (q : Int), m ≤ n ∧ p = .int .i64 m ∧ r = .int .i64 q ∧ Hid (BestTo ltSm ls ps m q) ∧ Below wo.heap.size wo wr) (fun _ p _ => n - (intOf p).toNat)
        case atStart => exact ⟨0, -1, by omega, rfl, rfl, best_zero _ _ _, Below.refl _ _⟩
        case round =>
          obtain ⟨m, q, hmn, rfl, rfl, HB, hwi⟩ := hrel
          rename World => wi
          have hww := hw.then hwi hw.size
          by_cases hmt : m < n
          · have hmt' : (m : Int) < (n : Int) := by omega
            have US := HU.out.below hwi
            obtain ⟨I0, _, I2, _, I4, _, _⟩ := (hat.below hww hbw).job (i := m) (by omega)
            by_cases hu : m ∈ ps
            · have UC := US.cellT hmt hu
              have HB' : Hid (BestTo ltSm ls ps (m + 1) q) := HB.out.used hu
              clear US I0 I2 I4
              go_wp2
              go_roundw
              case rel => exact ⟨m + 1, q, by omega, by go_num, rfl, HB', hwi⟩
              case measure => simp [intOf]; omega
            · have UC := US.cellF hmt hu
              clear US
              rcases HB.out with ⟨rfl, _⟩ | ⟨bb, rfl, hbm, hbn, _⟩
              · have HB' : Hid (BestTo ltSm ls ps (m + 1) m) := HB.out.first swo_sm hu
                clear I0 I2 I4
                go_wp2
                go_roundw
                case rel => exact ⟨m + 1, m, by omega, by go_num, rfl, HB', hwi⟩
                case measure => simp [intOf]; omega
              · obtain ⟨E0, _, E2, _, E4, _, _⟩ := (hat.below hww hbw).job (i := bb) (by omega)
                have okm := hok m hmt
                have okb := hok bb (by omega)
                obtain ⟨p0, p1⟩ := worth_bd okb okm
                obtain ⟨r0, r1⟩ := worth_bd okm okb
                have hq1 : ¬ ((bb : Int) < 0) := by omega
                have hbb' : (bb : Int) < (n : Int) := by omega
                have hb0 : (0 : Int) ≤ (bb : Int) := by omega
                have HL : ltSm (jg ls m) (jg ls bb) = decide ((jg ls bb).wt * (jg ls m).long < (jg ls m).wt * (jg ls bb).long ∨ ((jg ls m).wt * (jg ls bb).long = (jg ls bb).wt * (jg ls m).long ∧ (jg ls m).id < (jg ls bb).id)) := by
                  unfold ltSm; rw [cl_eq (jok_bd okm).1, cl_eq (jok_bd okb).1]
                clear okm okb
                go_wp2
                go_quiet (fail)
                go_wp2
                go_quiet (fail)
                go_wp2
                by_cases c1 : (jg ls bb).wt * (jg ls m).long < (jg ls m).wt * (jg ls bb).long
                · have HB' : Hid (BestTo ltSm ls ps (m + 1) m) := HB.out.better swo_sm hu (by rw [HL]; simp [c1])
                  clear HL
                  go_quiet (fail)
                  go_wp2
                  go_roundw
                  case rel => exact ⟨m + 1, m, by omega, by go_num, rfl, HB', hwi.drewNI _⟩
                  case measure => simp [intOf]; omega
                · have d1 : decide ((jg ls bb).wt * (jg ls m).long < (jg ls m).wt * (jg ls bb).long) = false := decide_eq_false c1
                  by_cases c2 : (jg ls m).wt * (jg ls bb).long = (jg ls bb).wt * (jg ls m).long
                  · have d2 : ((jg ls m).wt * (jg ls bb).long == (jg ls bb).wt * (jg ls m).long) = true := by simpa using c2
                    by_cases c3 : (jg ls m).id < (jg ls bb).id
                    · have HB' : Hid (BestTo ltSm ls ps (m + 1) m) := HB.out.better swo_sm hu (by rw [HL]; simp [c2, c3])
                      clear HL c1 c2
                      go_quiet (fail)
                      go_wp2
                      go_roundw
                      case rel => exact ⟨m + 1, m, by omega, by go_num, rfl, HB', hwi.drewNI _⟩
                      case measure => simp [intOf]; omega
                    · have HB' : Hid (BestTo ltSm ls ps (m + 1) bb) := HB.out.worse (by rw [HL]; simp; omega)
                      have d3 : decide ((jg ls m).id < (jg ls bb).id) = false := decide_eq_false c3
                      clear HL c1 c2 c3
                      go_quiet (fail)
                      go_wp2
                      go_roundw
                      case rel => exact ⟨m + 1, bb, by omega, by go_num, rfl, HB', hwi.drewNI _⟩
                      case measure => simp [intOf]; omega
                  · have d2 : ((jg ls m).wt * (jg ls bb).long == (jg ls bb).wt * (jg ls m).long) = false := by simpa using c2
                    have HB' : Hid (BestTo ltSm ls ps (m + 1) bb) := HB.out.worse (by rw [HL]; simp; omega)
                    clear HL c1 c2
                    go_quiet (fail)
                    go_wp2
                    go_roundw
                    case rel => exact ⟨m + 1, bb, by omega, by go_num, rfl, HB', hwi.drewNI _⟩
                    case measure => simp [intOf]; omega
          · have e : m = n := by omega
            subst e
            obtain ⟨bb, rfl, hbm, hbn, hbest⟩ := (show BestTo ltSm ls ps ls.length q by rw [hlen]; exact HB.out).some (by omega)
            have HS' : Hid (SelI ltSm ls (ps ++ [bb])) := HS.out.step hbm hbn hbest
            rw [hlen] at hbm
            have hbb' : (bb : Int) < (m : Int) := by omega
            have hb0 : (0 : Int) ≤ (bb : Int) := by omega
            have US := HU.out.below hwi
            have UF := (US.cell hbm).2
            have UC := US.cellF hbm hbn
            have HU2 : Hid (UsedB (wi.setCell ⟨w1.heap.size, bb, none⟩ (.bool true)) (w1.heap.size) m (ps ++ [bb])) := US.set hbm
            have O1 := (HO.out.below hwi).keep (w' := wi.setCell ⟨w1.heap.size, bb, none⟩ (.bool true)) (Below.heap_setCell _ _ _ _ hgU) (by simp [World.setCell])
            have hw2 : Below w.heap.size w (wi.setCell ⟨w1.heap.size, bb, none⟩ (.bool true)) := hww.setCell hz1 _
            clear US hbest HU
            obtain ⟨w2, hw2e⟩ : ∃ w2, wi.setCell ⟨w1.heap.size, bb, none⟩ (.bool true) = w2 := ⟨_, rfl⟩
            rw [hw2e] at HU2 O1 hw2
            obtain ⟨J0, J1, J2, J3, J4, J5, J6⟩ := (hat.below hw2 hbw).job (i := bb) (by omega)
            have OA := (O1.below (box_below (cs := #[.int .i64 (jg ls bb).id, .int .i64 (jg ls bb).cores, .int .i64 (jg ls bb).long, .int .i64 (jg ls bb).due, .int .i64 (jg ls bb).wt, .int .i64 (jg ls bb).rank, .int .i64 (jg ls bb).at_]) (T := 31))).own
            have hz2 := hw2.size
            have hmp : (ps.map (jg ls)).length = k := by simp [hpl]
            rw [hmp] at OA
            have hgl2 := O1.lt
            go_wp2_with (at_builtin; refine wpList_append_own_at _ rfl (.tmp 84) (.tmp 89) 24 rfl w.heap.size 31 i1 (.agg #[.int .i64 0, .int .i64 0, .int .i64 0, .int .i64 0, .int .i64 0, .int .i64 0, .int .i64 0]) 7 56 Try.underlying24 hj hj0 hj1 hj2 rfl (by decide) _ _ _ rfl OA ⟨w2.heap.size, 0, none⟩ 1 1 [.int .i64 (jg ls bb).id, .int .i64 (jg ls bb).cores, .int .i64 (jg ls bb).long, .int .i64 (jg ls bb).due, .int .i64 (jg ls bb).wt, .int .i64 (jg ls bb).rank, .int .i64 (jg ls bb).at_] rfl rfl (fun j u hu => new7_cells' _ _ _ j u hu) (jl_one (jg ls bb)) (by unfold maxLen; omega) (by omega) (by simp; omega) ?_)
            intro v3 w3 own3 grow3 nil3 at3
            obtain ⟨g3, c3, rfl, O3⟩ := ownJ_of' (ys := (ps ++ [bb]).map (jg ls)) own3 (by simp [hpl]) (by rw [List.map_append, jcells_app]; rfl) nil3
            have B3 : Below w.heap.size w w3 := (hw2.alloc hz2 _).grown grow3 (by simp; omega) (fun r e => by have e' : g = r := Option.some.inj e; have := O1.base; omega)
            have hU2l := HU2.out.lt
            have HU3 : Hid (UsedB w3 (w1.heap.size) m (ps ++ [bb])) := HU2.out.keep (((grow3.block (w1.heap.size) (by simp; omega) (by simpa [Value.ownBlock] using Ne.symm hgU))).trans (Below.heap_alloc _ _ _ hU2l))
            have hg3 : g3 ≠ w1.heap.size := by
              rcases at3 with e | e
              · have e' : g3 = g := Option.some.inj e; omega
              · simp [Value.ownBlock] at e; omega
            clear own3 grow3 nil3 at3 OA HU2
            go_wp2
            go_roundw
            case rel => exact ⟨k + 1, g3, c3, ps ++ [bb], by omega, by simp [hpl], by go_num, rfl, HS', O3, HU3, hg3, B3⟩
            case measure => simp [intOf]; omega
      · have e : k = n := by omega
        subst e
        have HP := HS.out.perm (by omega)
        go_wp2
        go_ret
        exact ⟨g, uc, ps.map (jg ls), by simp [hpl], HO.out, Or.inr ⟨hq, HP, HS.out.srt⟩, hw⟩

end Go.Proofs.Ytnbeaeekfahijaa
