/- Kept of the program. -/
import Derived.Test.YtmaojjjdepgaeaaTaskFew
import Derived.Test.YtmaojjjdepgaeaaTaskK
import Derived.Test.YtmaojjjdepgaeaaPieceLn
import Derived.Deep.RegionHeld3
namespace Go.Proofs.Ytmaojjjdepgaeaa
open Go.RowKit Go.Sort

/-- how often each has been worked at, as a line -/
def lnW (ls : List Jb) (zs : List Int) (k : Nat) : List Int := (List.range 40).map fun i => if i < ls.length then workN zs (jg ls i).id k else 0
theorem lnW_len (ls : List Jb) (zs : List Int) (k : Nat) : (lnW ls zs k).length = 40 := by simp [lnW]
theorem lnW_at {ls : List Jb} {zs : List Int} {k i : Nat} (hi : i < 40) : zg (lnW ls zs k) i = if i < ls.length then workN zs (jg ls i).id k else 0 := by simp [zg, lnW, hi]
theorem lnW_0 (ls : List Jb) (zs : List Int) : lnW ls zs 0 = z40 := by
  have e : ∀ i ∈ List.range 40, (if i < ls.length then workN zs (jg ls i).id 0 else 0) = (fun _ => (0 : Int)) i := fun i _ => by simp [workN, sumN]
  unfold lnW
  rw [List.map_congr_left e]
  rfl
theorem lnW_none {ls : List Jb} {zs : List Int} {k : Nat} (h : TsOk ls) (h0 : zg zs k = 0) : lnW ls zs (k + 1) = lnW ls zs k := by
  unfold lnW
  apply List.map_congr_left
  intro i _
  by_cases hi : i < ls.length
  · have hb := h.bd hi
    rw [if_pos hi, if_pos hi, workN_succ, if_neg (by omega), Int.add_zero]
  · rw [if_neg hi, if_neg hi]
theorem lnW_step {ls : List Jb} {zs : List Int} {k q : Nat} (hj : JsOk ls) (hq : q < ls.length) (e : (jg ls q).id = zg zs k) : lnW ls zs (k + 1) = (lnW ls zs k).set q (workN zs (jg ls q).id k + 1) := by
  apply List.ext_getElem (by simp [lnW])
  intro i h1 h2
  rw [List.getElem_set]
  simp only [lnW, List.getElem_map, List.getElem_range]
  by_cases c : q = i
  · subst c
    rw [if_pos rfl, if_pos hq, workN_succ, if_pos e.symm]
  · rw [if_neg c]
    by_cases hi : i < ls.length
    · have hne : zg zs k ≠ (jg ls i).id := fun h => by
        rcases Nat.lt_or_gt_of_ne c with h9 | h9
        · exact (hj.ok i hi).2 q h9 (by rw [e, h])
        · exact (hj.ok q hq).2 i h9 (by rw [e, h])
      rw [if_pos hi, if_pos hi, workN_succ, if_neg hne, Int.add_zero]
    · rw [if_neg hi, if_neg hi]
theorem eqL_all {ls : List Jb} {zs : List Int} (ho : TsOk ls) (h : ∀ t, t < zs.length → Hr ls zs t) : kpB ls zs = eqL (lnW ls zs zs.length) (lnJ ls ls.length) := by
  have hn := ho.n
  rcases he : eqL (lnW ls zs zs.length) (lnJ ls ls.length) with _ | _
  · refine kpB_no fun p => ?_
    have : eqL (lnW ls zs zs.length) (lnJ ls ls.length) = true := eqL_iff.2 fun i hi => by
      rw [lnW_at hi, lnJ_at hi]
      by_cases c : i < ls.length
      · rw [if_pos c, if_pos c]; exact p.all i c
      · rw [if_neg c, if_neg c]
    rw [he] at this; cases this
  · refine kpB_mk ⟨ho, h, fun i hi => ?_⟩
    have := eqL_iff.1 he i (by omega)
    rwa [lnW_at (by omega), lnJ_at (by omega), if_pos hi, if_pos hi] at this

theorem kp_in {a : Int} (h1 : -9223372036854775808 ≤ a) (h2 : a ≤ 9223372036854775807) : wrap64 a = a := by unfold wrap64; omega
theorem kp_wrap (a : Int) : IntKind.i64.wrap a = wrap64 a := by
  show (if (true && decide (a % 2 ^ 64 ≥ 2 ^ 63)) = true then a % 2 ^ 64 - 2 ^ 64 else a % 2 ^ 64) = wrap64 a
  unfold wrap64
  by_cases h : a % 2 ^ 64 ≥ 2 ^ 63
  · rw [if_pos (by simpa using h)]; omega
  · rw [if_neg (by simpa using h)]; omega

set_option maxRecDepth 8000 in
set_option maxHeartbeats 4000000 in
theorem implKept_any (a a2 : Option Addr) (n cap n2 cap2 : Nat) (ls : List Jb) (zs : List Int) (w : World) (h : JobS w a n cap ls) (h2 : IntS w a2 n2 cap2 zs) (hn2 : n2 ≤ 1048576) :
    Calls Try.prog 35 #[.slice a n cap, .slice a2 n2 cap2] w fun e w' => e = .returned (.bool (kpB ls zs)) ∧ Below w.heap.size w w' := by
  have hlen := h.len
  have hle := h.le
  have hlen2 := h2.len
  rcases hq : tsB ls with _ | _
  · rw [kpB_no fun p => by have := tsB_mk p.tasks; rw [hq] at this; cases this]
    go_enter Try.func35, Try.ntmps35
    go_wp2_with (go_at_call 39; refine (implTasksOk_any a n cap ls _ h).mono ?_; rw [hq]; rintro e w1 ⟨rfl, hb1⟩)
    go_ret
    exact ⟨rfl, hb1⟩
  have ho := tsB_t hq
  have hn := ho.n
  have hjs := ho.jobs
  have hmo : Try.prog.follows .mixedOrders = true := by kernel_rfl
  obtain ⟨R, hR⟩ : ∃ R, R = kpB ls zs := ⟨_, rfl⟩
  rw [← hR]
  have HR : Hid (R = kpB ls zs) := hR
  clear hR
  go_enter Try.func35, Try.ntmps35
  go_wp2_with (go_at_call 39; refine (implTasksOk_any a n cap ls _ h).mono ?_; rw [hq]; rintro e w1 ⟨rfl, hb1⟩)
  rw [ar_z40]
  obtain ⟨W0, hW0⟩ : ∃ W0, W0 = w1.alloc (.cells (ar z40) 89) := ⟨_, rfl⟩
  have B0 : Below w.heap.size w W0 := by rw [hW0]; exact hb1.alloc hb1.size _
  have L0 : LnB W0 w1.heap.size (lnW ls zs 0) := by rw [hW0, lnW_0]; exact ⟨heap_new _ _, rfl⟩
  have z1 := hb1.size
  rw [← hW0]
  clear hW0
  go_loopw [6, 7, 8, 14] (fun _ _ _ i wr => ∃ k : Nat, k ≤ n2 ∧ i = .int .i64 k ∧ Hid (∀ t, t < k → Hr ls zs t) ∧ Hid (LnB wr w1.heap.size (lnW ls zs k)) ∧ Below w.heap.size w wr) (fun _ _ _ i _ => n2 - (intOf i).toNat)
  case atStart => exact ⟨0, by omega, rfl, fun t ht => by omega, L0, B0⟩
  case round =>
    obtain ⟨k, hk, rfl, HA, HL, hw⟩ := hrel
    rename World => wr
    by_cases hlt : k < n2
    · have hlt' : (k : Int) < (n2 : Int) := by omega
      have h2r := h2.below hw
      obtain ⟨b2, off2, rfl, hbw2, hat2⟩ := h2r.at_ (by omega)
      have hz := hat2 k hlt
      have HNH : Hid (¬ Hr ls zs k → R = false) := fun hx => HR.out.trans (kp_no_hr (by omega) hx)
      by_cases c0 : zg zs k = 0
      · have c0' : (zg zs k == 0) = true := by simpa using c0
        have HA2 : Hid (∀ t, t < k + 1 → Hr ls zs t) := fun t ht => by
          by_cases e : t = k
          · subst e; exact Or.inl c0
          · exact HA.out t (by omega)
        have HL2 : Hid (LnB wr w1.heap.size (lnW ls zs (k + 1))) := by unfold Hid; rw [lnW_none ho c0]; exact HL.out
        clear c0
        go_wp2
        go_roundw
        case rel => exact ⟨k + 1, by omega, by go_num, HA2, HL2, hw⟩
        case measure => simp [intOf]; omega
      · have c0' : (zg zs k == 0) = false := by simpa using c0
        have C0 : Hid (zg zs k ≠ 0) := c0
        clear c0
        go_wp2_with fail
        refine (numberOf_any a n cap ls (zg zs k) wr (h.below hw)).mono ?_
        rintro e w3 ⟨r, rfl, hr, hg3⟩
        have b3 : Below wr.heap.size wr w3 := GrS.below hg3
        clear hg3
        have U3 := hw.then b3 hw.size
        have LA3 : Hid (LnB w3 w1.heap.size (lnW ls zs k)) := HL.out.below b3
        rcases hr with ⟨rfl, hr⟩ | ⟨i, rfl, hin, hie, _⟩
        · have E : Hid (R = false) := HNH.out (fun hx => by
            rcases hx with hx | ⟨i, hi, e, _⟩
            · exact C0.out hx
            · exact hr i (by omega) e)
          clear hr
          go_wp2
          go_quiet (fail)
          go_wp2
          go_ret
          exact ⟨by rw [E.out]; rfl, by first | exact U3 | exact U3.drew | exact U3.drewN _⟩
        · obtain ⟨b, off, rfl, hbw, hat⟩ := h.at_ (by omega)
          obtain ⟨hc0, hc1, hc2, hc3, hc4, hc5, hc6⟩ := (hat.below U3 hbw).job (i := i) (by omega)
          clear hat
          have hib : (i : Int) < (n : Int) := by omega
          have hi0 : ¬ ((i : Int) < 0) := by omega
          have hi0' : decide ((i : Int) < 0) = false := by simp
          have tb := ho.bd (i := i) (by omega)
          have w1' : IntKind.i64.wrap ((jg ls i).due - 1) = (jg ls i).due - 1 := by rw [kp_wrap]; exact kp_in (by omega) (by omega)
          by_cases g : (jg ls i).at_ ≤ k ∧ (k : Int) < (jg ls i).due
          · have g1 : inB (k : Int) (jg ls i).at_ ((jg ls i).due - 1) = true := by unfold inB; simp; omega
            have HA2 : Hid (∀ t, t < k + 1 → Hr ls zs t) := fun t ht => by
              by_cases e : t = k
              · subst e; exact Or.inr ⟨i, by omega, hie, g.1, g.2⟩
              · exact HA.out t (by omega)
            have CW : ∀ W, Calls Try.prog 68 #[.int .i64 k, .int .i64 (jg ls i).at_, .int .i64 ((jg ls i).due - 1)] W fun e w' => e = .returned (.bool true) ∧ w' = W := fun W => by
              have := within_any (k : Int) (jg ls i).at_ ((jg ls i).due - 1) W
              rwa [g1] at this
            have hset := lnW_step (zs := zs) (k := k) hjs (show i < ls.length by omega) hie
            have wb := workN_bd zs (jg ls i).id k
            have cl := LA3.out.cell (k := i) (by omega)
            have fr := LA3.out.free i
            rw [lnW_at (by omega), if_pos (by omega)] at cl
            obtain ⟨V, hV⟩ : ∃ V, V = workN zs (jg ls i).id k := ⟨_, rfl⟩
            rw [← hV] at hset cl wb
            have w2 : IntKind.i64.wrap (V + 1) = V + 1 := by rw [kp_wrap]; exact kp_in (by omega) (by omega)
            have hi40 : (i : Int) < 40 := by omega
            have HS : Hid (∀ q, LnB ((w3.drewN q).setCell ⟨w1.heap.size, i, none⟩ (.int .i64 (V + 1))) w1.heap.size (lnW ls zs (k + 1))) := fun q => by
              have := (LA3.out.keep (w' := w3.drewN q) rfl).set i (V + 1)
              rwa [← hset] at this
            have HU : Hid (∀ q, Below w.heap.size w ((w3.drewN q).setCell ⟨w1.heap.size, i, none⟩ (.int .i64 (V + 1)))) := fun q => (U3.drewN q).setCell (by simpa using z1) _
            clear hset hV g wb hie
            go_wp2
            go_quiet ((go_at_call 68; exact Calls.quiet_of_same (CW _)))
            go_wp2
            go_roundw
            case rel => exact ⟨k + 1, by omega, by go_num, HA2, HS.out _, HU.out _⟩
            case measure => simp [intOf]; omega
          · have g1 : inB (k : Int) (jg ls i).at_ ((jg ls i).due - 1) = false := by
              unfold inB
              rcases Classical.not_and_iff_not_or_not.1 g with g | g
              · simp; omega
              · simp; omega
            have E : Hid (R = false) := HNH.out (fun hx => g (hr_same hjs C0.out (by omega) hie hx))
            have CW : ∀ W, Calls Try.prog 68 #[.int .i64 k, .int .i64 (jg ls i).at_, .int .i64 ((jg ls i).due - 1)] W fun e w' => e = .returned (.bool false) ∧ w' = W := fun W => by
              have := within_any (k : Int) (jg ls i).at_ ((jg ls i).due - 1) W
              rwa [g1] at this
            clear g hie
            go_wp2
            go_quiet ((go_at_call 68; exact Calls.quiet_of_same (CW _)))
            go_wp2
            go_ret
            exact ⟨by rw [E.out]; rfl, U3.drewN _⟩
    · obtain rfl : k = n2 := by omega
      have hE : R = eqL (lnW ls zs k) (lnJ ls n) := by
        have := eqL_all ho (fun t ht => HA.out t (by omega))
        rw [hlen, hlen2] at this
        exact HR.out.trans this
      have hxl := lnW_len ls zs k
      have hzl := lnJ_len ls n
      have L5 := HL.out
      have hls : ((Try.prog.info? 89).map (·.size)) = some ((lnW ls zs k).map (Value.int .i64)).length := by rw [List.length_map, hxl]; exact sizedLn
      have hul := Try.underlying89
      have hrg : wr.rangeAt w1.heap.size 0 ((lnW ls zs k).map (Value.int .i64)) := fun j v hv => by
        rw [cell_of_row _ _ _ _ _ _ L5.1, Nat.zero_add]
        simpa [ar] using hv
      have H5 : JobS wr a n cap ls := h.below hw
      obtain ⟨vs, hvs⟩ : ∃ vs, vs = (lnW ls zs k).map (Value.int .i64) := ⟨_, rfl⟩
      obtain ⟨us, hus⟩ : ∃ us, us = ar (lnJ ls n) := ⟨_, rfl⟩
      have hEq : ∀ W, (Op.equalIn 10000 89 (.agg vs.toArray) (.agg us)).run Try.prog W = .ok R W := fun W => by rw [hvs, hus, hE]; exact run_eqLine W 9998 (lnW ls zs k) (lnJ ls n) hxl hzl
      have hgd : Try.prog.eqGuardType Try.prog.depth 89 = false := by kernel_rfl
      have CL : ∀ W, JobS W a n cap ls → Calls Try.prog 86 #[.slice a n cap] W fun e w' => e = .returned (.agg us) ∧ Below W.heap.size W w' := fun W hW => by rw [hus]; exact lineOfJobs_any a n cap ls W hW (by omega)
      rw [← hvs] at hls hrg
      have HK : Hid (∀ W, Below wr.heap.size wr W → Below wr.heap.size wr W ∧ W.rangeAt w1.heap.size 0 vs) := fun W hb => ⟨hb, fun j v hv => (hb.cell (p := ⟨w1.heap.size, 0 + j, none⟩) L5.lt).trans (hrg j v hv)⟩
      have S0 : Below wr.heap.size wr wr := Below.refl _ _
      have K0 := HK.out _ S0
      have KB : ∀ W, (Below wr.heap.size wr W ∧ W.rangeAt w1.heap.size 0 vs) → Below wr.heap.size wr W := fun _ h => h.1
      clear hvs hus hrg hE L5
      go_wp2_with fail
      go_region_held3 (fun W => Below wr.heap.size wr W ∧ W.rangeAt w1.heap.size 0 vs) ((refine HK.out _ ?_; first | with_reducible exact SB | with_reducible exact SB.drew | with_reducible exact S0.drew | with_reducible exact S0)) ((go_at_call 86; refine (CL _ (H5.below (KB _ (by assumption)))).mono ?_; rintro e w6 ⟨rfl, hb6⟩; have SB : Below wr.heap.size wr w6 := (KB _ (by assumption)).then hb6 (KB _ (by assumption)).size))
      all_goals
        go_wp2
        go_ret
        exact ⟨rfl, hw.then (by first | exact SB | exact SB.drew) hw.size⟩

end Go.Proofs.Ytmaojjjdepgaeaa
