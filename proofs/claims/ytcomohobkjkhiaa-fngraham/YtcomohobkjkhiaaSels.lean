/- Several texts in one. -/
import Derived.Test.YtcomohobkjkhiaaJobQS
import Derived.Test.YtcomohobkjkhiaaOpts
import Derived.Test.YtcomohobkjkhiaaRules
import Derived.Test.YtcomohobkjkhiaaEndsS
/- By keys, the less one first: the model's own picking. -/
namespace Go.Proofs.Ytcomohobkjkhiaa
open Go.RowKit Go.Sort

/-- by a key, of alike ones by number -/
def ltK (κ : Jb → Int) (x y : Jb) : Bool := decide (κ x < κ y ∨ (κ x = κ y ∧ x.id < y.id))
theorem swo_ltK (κ : Jb → Int) : SWO (ltK κ) := by
  refine ⟨fun x => ?_, fun x y z h1 h2 => ?_, fun x y z h1 h2 => ?_⟩
  · simp [ltK]
  · unfold ltK at *; simp only [decide_eq_true_eq] at *; omega
  · unfold ltK at *; simp only [decide_eq_false_iff_not] at *; omega
theorem ltK_due : ltK (·.due) = ltDue := rfl
theorem ltK_long : ltK (·.long) = ltLong := rfl

theorem infoB : (Try.prog.info? 4).map (fun i => (i.zero, i.size, i.bytes)) = some (some (.bool false), 1, 1) := by kernel_rfl

theorem run_makeB (n : Nat) (hn : n ≤ 1048576) (wx : World) : (Instr.makeSlice 75 (.int .i64 (n : Int)) (.int .i64 (n : Int))).run Try.prog wx = .ok (.slice (some ⟨wx.heap.size, 0, none⟩) n n) (wx.alloc (.cells (madeCells #[.bool false] n) 4)) := by
  obtain ⟨i0, hi, hz0, hz1, hz2⟩ := info_parts infoB
  have := run_make (P := Try.prog) wx 75 4 i0 _ Try.underlying75 hi hz0 .i64 .i64 n n (by omega) (Int.le_refl _) (by rw [hz2]; omega) (by omega)
  rw [hz1] at this
  simpa only [Int.toNat_natCast, Nat.mul_one, show (Value.bool false).cells = #[Value.bool false] from rfl] using this

/-- block U tells which are picked -/
def UsedB (w : World) (U n : Nat) (ps : List Nat) : Prop := ∃ cur : Array Value, w.heap[U]? = some (.cells cur 4 (0, 0)) ∧ cur.size = n ∧ ∀ i, i < n → cur[i]? = some (.bool (decide (i ∈ ps)))
theorem UsedB.keep {w w' : World} {U n : Nat} {ps : List Nat} (h : UsedB w U n ps) (hk : w'.heap[U]? = w.heap[U]?) : UsedB w' U n ps := by
  obtain ⟨cur, h1, h2⟩ := h; exact ⟨cur, hk.trans h1, h2⟩
theorem UsedB.lt {w : World} {U n : Nat} {ps : List Nat} (h : UsedB w U n ps) : U < w.heap.size := by
  obtain ⟨cur, h1, _⟩ := h; exact lt_of_block h1
theorem UsedB.below {w w' : World} {U n : Nat} {ps : List Nat} (h : UsedB w U n ps) (hb : Below w.heap.size w w') : UsedB w' U n ps := h.keep (hb.block U h.lt)
theorem UsedB.cell {w : World} {U n : Nat} {ps : List Nat} (h : UsedB w U n ps) {i : Nat} (hi : i < n) : w.cell? ⟨U, i, none⟩ = some (.bool (decide (i ∈ ps))) ∧ w.frozen? ⟨U, i, none⟩ = false := by
  obtain ⟨cur, h1, h2, h3⟩ := h
  have := h3 i hi
  exact ⟨by simp [World.cell?, h1, this], free_of_blk i h1⟩
theorem UsedB.cellT {w : World} {U n : Nat} {ps : List Nat} (h : UsedB w U n ps) {i : Nat} (hi : i < n) (hm : i ∈ ps) : w.cell? ⟨U, i, none⟩ = some (.bool true) := by
  have := (h.cell hi).1; rwa [decide_eq_true hm] at this
theorem UsedB.cellF {w : World} {U n : Nat} {ps : List Nat} (h : UsedB w U n ps) {i : Nat} (hi : i < n) (hm : i ∉ ps) : w.cell? ⟨U, i, none⟩ = some (.bool false) := by
  have := (h.cell hi).1; rwa [decide_eq_false hm] at this
theorem UsedB.set {w : World} {U n : Nat} {ps : List Nat} (h : UsedB w U n ps) {i : Nat} (hi : i < n) : UsedB (w.setCell ⟨U, i, none⟩ (.bool true)) U n (ps ++ [i]) := by
  obtain ⟨cur, h1, h2, h3⟩ := h
  refine ⟨_, blk_set h1 _, by simp [h2], fun j hj => ?_⟩
  rw [Array.getElem?_setIfInBounds]
  by_cases e : i = j
  · subst e; rw [if_pos rfl, if_pos (by omega)]; simp
  · rw [if_neg e, h3 j hj]; congr 2; apply decide_eq_decide.2; simp [Ne.symm e]

theorem OwnJ.keep {w w' : World} {base g cap : Nat} {ys : List Jb} (h : OwnJ w base g cap ys) (hb : w'.heap[g]? = w.heap[g]?) (hz : w.heap.size ≤ w'.heap.size) : OwnJ w' base g cap ys := by
  refine ⟨⟨h.own.1, ?_⟩, h.le, h.mx, h.base, Nat.lt_of_lt_of_le h.lt hz⟩
  rcases h.own.2 with ⟨e, _⟩ | ⟨g', cap', cur, e, hg, hgg, r⟩
  · cases e
  · have e2 := e
    injection e2 with e1 _ _
    injection e1 with e1
    injection e1 with e1 _ _
    subst e1
    exact .inr ⟨g, cap', cur, e, hg, hb.trans hgg, r⟩

theorem new7_cells' (W : World) (j : Jb) (T : TypeId) : ∀ i u, (jl j)[i]? = some u → (W.alloc (.cells #[.int .i64 j.id, .int .i64 j.cores, .int .i64 j.long, .int .i64 j.due, .int .i64 j.wt, .int .i64 j.rank, .int .i64 j.at_] T)).cell? ((⟨W.heap.size, 0, none⟩ : Addr).add i) = some u := fun i u hi => new7_cells W j T i u hi

theorem mapκ (κ : Jb → Int) (ls : List Jb) {i : Nat} (h : i < ls.length) : zg (ls.map κ) i = κ (jg ls i) := by simp [zg, jg, h]

set_option maxRecDepth 8000 in
set_option maxHeartbeats 4000000 in
theorem l5By_any (κ : Jb → Int) (a : Option Addr) (n cap : Nat) (ls : List Jb) (a2 : Option Addr) (cap2 : Nat) (w : World) (h : JobS w a n cap ls) (hk2 : IntS w a2 n cap2 (ls.map κ)) (hn : n ≤ 40) :
    Calls Try.prog 36 #[.slice a n cap, .slice a2 n cap2] w fun e w' => ∃ g c ys, e = .returned (.slice (some ⟨g, 0, none⟩) n c) ∧ OwnJ w' w.heap.size g c ys ∧ ys.length = n ∧ ys.Perm ls ∧ ys.Pairwise (fun x y => ltK κ y x = false) ∧ Below w.heap.size w w' := by
  obtain ⟨i1, hj, hj0, hj1, hj2⟩ := info_parts infoJ
  have hm := h.mx
  have hle := h.le
  have hlen := h.len
  have hle2 := hk2.le
  have hm2 := hk2.mx
  unfold maxLen at hm hm2
  have hmk := run_makeB n (by omega)
  have own0 : OwnJ (w.alloc (.cells #[] 46)) w.heap.size w.heap.size 0 [] := ⟨World.ownsRow_made w #[] 0 (Nat.le_refl _) (Nat.zero_le _) rfl, Nat.le_refl _, Nat.zero_le _, Nat.le_refl _, by simp⟩
  have bx : Below w.heap.size w (w.alloc (.cells #[] 46)) := box_below
  have bx1 : Below (w.alloc (.cells #[] 46)).heap.size (w.alloc (.cells #[] 46)) ((w.alloc (.cells #[] 46)).alloc (.cells (madeCells #[.bool false] n) 4)) := box_below
  have own1 := own0.below bx1
  have bw1 := bx.then bx1 bx.size
  have us1 : UsedB ((w.alloc (.cells #[] 46)).alloc (.cells (madeCells #[.bool false] n) 4)) (w.heap.size + 1) n [] := by
    refine ⟨_, by rw [show w.heap.size + 1 = (w.alloc (.cells #[] 46)).heap.size by simp, heap_alloc_new], by simp [size_madeCells], fun i hi => ?_⟩
    simp [madeCells, hi, Nat.mod_one]
  have HUS : Hid _ := us1
  have HOW : Hid _ := own1
  clear us1 own1 own0 bx bx1
  go_enter Try.func36, Try.ntmps36
  go_wp2
  clear hmk
  go_loopw [5, 7] (fun u i wr => ∃ (k g uc : Nat) (ps : List Nat), k ≤ n ∧ ps.length = k ∧ i = .int .i64 k ∧ u = .slice (some ⟨g, 0, none⟩) k uc ∧ Hid (SelI (ltK κ) ls ps) ∧ Hid (OwnJ wr w.heap.size g uc (ps.map (jg ls))) ∧ Hid (UsedB wr (w.heap.size + 1) n ps) ∧ g ≠ w.heap.size + 1 ∧ Below w.heap.size w wr) (fun _ i _ => n - (intOf i).toNat)
  case atStart => exact ⟨0, _, 0, [], by omega, rfl, rfl, rfl, sel_nil _ _, HOW.out, HUS.out, by omega, bw1⟩
  case round =>
    obtain ⟨k, g, uc, ps, hk, hpl, rfl, rfl, HS, HO, HU, hgU, hw⟩ := hrel
    rename World => wo
    by_cases hlt : k < n
    · obtain ⟨b, off, rfl, hbw, hat⟩ := h.at_ (by omega)
      obtain ⟨b2, off2, rfl, hbw2, hat2⟩ := hk2.at_ (by omega)
      have hlt' : (k : Int) < (n : Int) := by omega
      clear HUS HOW bw1
      go_wp2
      go_loopw [8, 9] (fun r p wr => ∃ (m : Nat) (q : Int), m ≤ n ∧ p = .int .i64 m ∧ r = .int .i64 q ∧ Hid (BestTo (ltK κ) ls ps m q) ∧ Below wo.heap.size wo wr) (fun _ p _ => n - (intOf p).toNat)
      case atStart => exact ⟨0, -1, by omega, rfl, rfl, best_zero _ _ _, Below.refl _ _⟩
      case round =>
        obtain ⟨m, q, hmn, rfl, rfl, HB, hwi⟩ := hrel
        rename World => wi
        have hww := hw.then hwi hw.size
        by_cases hmt : m < n
        · have hmt' : (m : Int) < (n : Int) := by omega
          have US := HU.out.below hwi
          have I0 := (hat.below hww hbw) m (by omega) 0 (by omega)
          have K0 := (hww.cell (p := ⟨b2, off2 + m, none⟩) hbw2).trans (hat2 m hmt)
          rw [mapκ κ ls (by omega)] at K0
          simp only [jc, Nat.add_zero] at I0
          by_cases hu : m ∈ ps
          · have UC := US.cellT hmt hu
            have HB' : Hid (BestTo (ltK κ) ls ps (m + 1) q) := HB.out.used hu
            clear US I0 K0
            go_wp2
            go_quiet (fail)
            go_wp2
            go_roundw
            case rel => exact ⟨m + 1, q, by omega, by go_num, rfl, HB', hwi.drewNI _⟩
            case measure => simp [intOf]; omega
          · have UC := US.cellF hmt hu
            clear US
            rcases HB.out with ⟨rfl, _⟩ | ⟨bb, rfl, hbm, hbn, _⟩
            · have HB' : Hid (BestTo (ltK κ) ls ps (m + 1) m) := HB.out.first (swo_ltK κ) hu
              have hq : decide ((-1 : Int) < 0) = true := rfl
              clear I0 K0
              go_wp2
              go_quiet (fail)
              go_wp2
              go_roundw
              case rel => exact ⟨m + 1, m, by omega, by go_num, rfl, HB', hwi.drewNI _⟩
              case measure => simp [intOf]; omega
            · have I1 := (hat.below hww hbw) bb (by omega) 0 (by omega)
              have K1 := (hww.cell (p := ⟨b2, off2 + bb, none⟩) hbw2).trans (hat2 bb (by omega))
              rw [mapκ κ ls (by omega)] at K1
              simp only [jc, Nat.add_zero] at I1
              have hq : decide ((bb : Int) < 0) = false := by simp
              have hbb' : (bb : Int) < (n : Int) := by omega
              have hb0 : (0 : Int) ≤ (bb : Int) := by omega
              have HL : ltK κ (jg ls m) (jg ls bb) = decide (κ (jg ls m) < κ (jg ls bb) ∨ (κ (jg ls m) = κ (jg ls bb) ∧ (jg ls m).id < (jg ls bb).id)) := rfl
              by_cases c1 : κ (jg ls m) < κ (jg ls bb)
              · have HB' : Hid (BestTo (ltK κ) ls ps (m + 1) m) := HB.out.better (swo_ltK κ) hu (by rw [HL]; simp [c1])
                clear I0 I1 HL
                go_wp2
                go_quiet (fail)
                go_wp2
                go_roundw
                case rel => exact ⟨m + 1, m, by omega, by go_num, rfl, HB', hwi.drewNI _⟩
                case measure => simp [intOf]; omega
              · have d1 : decide (κ (jg ls m) < κ (jg ls bb)) = false := decide_eq_false c1
                by_cases c2 : κ (jg ls m) = κ (jg ls bb)
                · have d2 : (κ (jg ls m) == κ (jg ls bb)) = true := by simpa using c2
                  by_cases c3 : (jg ls m).id < (jg ls bb).id
                  · have HB' : Hid (BestTo (ltK κ) ls ps (m + 1) m) := HB.out.better (swo_ltK κ) hu (by rw [HL]; simp [c2, c3])
                    clear HL c1 c2
                    go_wp2
                    go_quiet (fail)
                    go_wp2
                    go_roundw
                    case rel => exact ⟨m + 1, m, by omega, by go_num, rfl, HB', hwi.drewNI _⟩
                    case measure => simp [intOf]; omega
                  · have HB' : Hid (BestTo (ltK κ) ls ps (m + 1) bb) := HB.out.worse (by rw [HL]; simp; omega)
                    have d3 : decide ((jg ls m).id < (jg ls bb).id) = false := decide_eq_false c3
                    clear HL c1 c2 c3
                    go_wp2
                    go_quiet (fail)
                    go_wp2
                    go_roundw
                    case rel => exact ⟨m + 1, bb, by omega, by go_num, rfl, HB', hwi.drewNI _⟩
                    case measure => simp [intOf]; omega
                · have d2 : (κ (jg ls m) == κ (jg ls bb)) = false := by simpa using c2
                  have HB' : Hid (BestTo (ltK κ) ls ps (m + 1) bb) := HB.out.worse (by rw [HL]; simp; omega)
                  clear HL c1 c2 I0 I1
                  go_wp2
                  go_quiet (fail)
                  go_wp2
                  go_roundw
                  case rel => exact ⟨m + 1, bb, by omega, by go_num, rfl, HB', hwi.drewNI _⟩
                  case measure => simp [intOf]; omega
        · have e : m = n := by omega
          subst e
          obtain ⟨bb, rfl, hbm, hbn, hbest⟩ := (show BestTo (ltK κ) ls ps ls.length q by rw [hlen]; exact HB.out).some (by omega)
          have HS' : Hid (SelI (ltK κ) ls (ps ++ [bb])) := HS.out.step hbm hbn hbest
          rw [hlen] at hbm
          have hbb' : (bb : Int) < (m : Int) := by omega
          have hb0 : (0 : Int) ≤ (bb : Int) := by omega
          have US := HU.out.below hwi
          have UF := (US.cell hbm).2
          have UC := US.cellF hbm hbn
          have HU2 : Hid (UsedB (wi.setCell ⟨w.heap.size + 1, bb, none⟩ (.bool true)) (w.heap.size + 1) m (ps ++ [bb])) := US.set hbm
          have O1 := (HO.out.below hwi).keep (w' := wi.setCell ⟨w.heap.size + 1, bb, none⟩ (.bool true)) (Below.heap_setCell _ _ _ _ hgU) (by simp [World.setCell])
          have hw2 : Below w.heap.size w (wi.setCell ⟨w.heap.size + 1, bb, none⟩ (.bool true)) := hww.setCell (show w.heap.size ≤ w.heap.size + 1 by omega) _
          clear US hbest HU
          obtain ⟨w2, hw2e⟩ : ∃ w2, wi.setCell ⟨w.heap.size + 1, bb, none⟩ (.bool true) = w2 := ⟨_, rfl⟩
          rw [hw2e] at HU2 O1 hw2
          obtain ⟨J0, J1, J2, J3, J4, J5, J6⟩ := (hat.below hw2 hbw).job (i := bb) (by omega)
          have OA := (O1.below (box_below (cs := #[.int .i64 (jg ls bb).id, .int .i64 (jg ls bb).cores, .int .i64 (jg ls bb).long, .int .i64 (jg ls bb).due, .int .i64 (jg ls bb).wt, .int .i64 (jg ls bb).rank, .int .i64 (jg ls bb).at_]) (T := 46))).own
          have hz2 := hw2.size
          have hmp : (ps.map (jg ls)).length = k := by simp [hpl]
          rw [hmp] at OA
          have hgl2 := O1.lt
          go_wp2_with (at_builtin; refine wpList_append_own_at _ rfl (.tmp 74) (.tmp 79) 24 rfl w.heap.size 46 i1 (.agg #[.int .i64 0, .int .i64 0, .int .i64 0, .int .i64 0, .int .i64 0, .int .i64 0, .int .i64 0]) 7 56 Try.underlying24 hj hj0 hj1 hj2 rfl (by decide) _ _ _ rfl OA ⟨w2.heap.size, 0, none⟩ 1 1 [.int .i64 (jg ls bb).id, .int .i64 (jg ls bb).cores, .int .i64 (jg ls bb).long, .int .i64 (jg ls bb).due, .int .i64 (jg ls bb).wt, .int .i64 (jg ls bb).rank, .int .i64 (jg ls bb).at_] rfl rfl (fun j u hu => new7_cells' _ _ _ j u hu) (jl_one (jg ls bb)) (by unfold maxLen; omega) (by omega) (by simp; omega) ?_)
          intro v3 w3 own3 grow3 nil3 at3
          obtain ⟨g3, c3, rfl, O3⟩ := ownJ_of' (ys := (ps ++ [bb]).map (jg ls)) own3 (by simp [hpl]) (by rw [List.map_append, jcells_app]; rfl) nil3
          have B3 : Below w.heap.size w w3 := (hw2.alloc hz2 _).grown grow3 (by simp; omega) (fun r e => by have e' : g = r := Option.some.inj e; have := O1.base; omega)
          have hU2l := HU2.out.lt
          have HU3 : Hid (UsedB w3 (w.heap.size + 1) m (ps ++ [bb])) := HU2.out.keep (((grow3.block (w.heap.size + 1) (by simp; omega) (by simpa [Value.ownBlock] using Ne.symm hgU))).trans (Below.heap_alloc _ _ _ hU2l))
          have hg3 : g3 ≠ w.heap.size + 1 := by
            rcases at3 with e | e
            · have e' : g3 = g := Option.some.inj e; omega
            · simp [Value.ownBlock] at e; omega
          clear own3 grow3 nil3 at3 OA HU2
          go_wp2
          go_roundw
          case rel => exact ⟨k + 1, g3, c3, ps ++ [bb], by omega, by simp [hpl], by go_num, rfl, HS', O3, HU3, hg3, B3⟩
          case measure => simp [intOf]; omega
    · have e : k = n := by omega
      subst e
      have HP := HS.out.perm (by omega)
      go_wp2
      go_ret
      exact ⟨g, uc, ps.map (jg ls), rfl, HO.out, by simp [hpl], HP, HS.out.srt, hw⟩

end Go.Proofs.Ytcomohobkjkhiaa

/- Jackson and Shortest of the model. -/
namespace Go.Proofs.Ytcomohobkjkhiaa
open Go.RowKit Go.Sort

/-- the keys of the first k -/
def keysL (κ : Jb → Int) (ls : List Jb) (k : Nat) : List Int := (ls.take k).map κ
/-- an empty row of the call's own -/
theorem own_nil (w : World) : OwnJ (w.alloc (.cells #[] 46)) w.heap.size w.heap.size 0 [] := ⟨World.ownsRow_made w #[] 0 (Nat.le_refl _) (Nat.zero_le _) rfl, Nat.le_refl _, Nat.zero_le _, Nat.le_refl _, by simp⟩
theorem OwnJ.lower {w : World} {base base' g cap : Nat} {ys : List Jb} (h : OwnJ w base g cap ys) (hb : base' ≤ base) : OwnJ w base' g cap ys := by
  refine ⟨⟨h.own.1, ?_⟩, h.le, h.mx, Nat.le_trans hb h.base, h.lt⟩
  rcases h.own.2 with ⟨e, _⟩ | ⟨g', cap', cur, e, hg, r⟩
  · cases e
  · exact .inr ⟨g', cap', cur, e, Nat.le_trans hb hg, r⟩

theorem mapκ_succ (κ : Jb → Int) (ls : List Jb) {k : Nat} (h : k < ls.length) : keysL κ ls (k + 1) = keysL κ ls k ++ [κ (jg ls k)] := by
  unfold keysL; rw [take_one h, List.map_append]; rfl

end Go.Proofs.Ytcomohobkjkhiaa
