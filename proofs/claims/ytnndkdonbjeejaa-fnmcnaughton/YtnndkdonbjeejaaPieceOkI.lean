/- PiecesOk of the program. -/
import Derived.Test.YtnndkdonbjeejaaNbs
import Derived.Test.YtnndkdonbjeejaaLines
import Derived.Deep.RegionHeld3
namespace Go.Proofs.Ytnndkdonbjeejaa
open Go.RowKit Go.Sort

theorem pk_share {ls : List Jb} {m : Int} {ps : List Pc} (h : shB ls m = false) : pkB ls m ps = false := pkB_no fun p => by
  have : shB ls m = true := by
    unfold shB
    rw [jsB_mk p.jobs, Bool.true_and]
    unfold inB
    simp only [Bool.and_eq_true, decide_eq_true_eq]
    exact ⟨p.m0, p.m1⟩
  rw [h] at this; cases this
theorem pk_one {ls : List Jb} {m : Int} {ps : List Pc} (h : ∃ p ∈ ps, ¬ Pk1 ls m p) : pkB ls m ps = false := pkB_no fun p => by
  obtain ⟨q, hq, hn⟩ := h
  exact hn (p.one q hq)
theorem lnP_out {ls : List Jb} {ps : List Pc} {k i : Nat} (hi : i < 40) (h : ¬ i < ls.length) : zg (lnP ls ps k) i = 0 := by simp [zg, lnP, hi, h]
/-- the lines are alike just where each job has its length -/
theorem eqL_work {ls : List Jb} {ps : List Pc} (hj : JsOk ls) (hr : ∀ j ∈ ls, 0 ≤ workOf j.id ps ∧ workOf j.id ps ≤ 9223372036854775807) : eqL (lnP ls ps ps.length) (lnJ ls ls.length) = true ↔ ∀ j ∈ ls, workOf j.id ps = j.long := by
  have hn := hj.n
  have e : ∀ i, i < ls.length → zg (lnP ls ps ps.length) i = workOf (jg ls i).id ps := fun i hi => by
    have := hr (jg ls i) (by rw [jg_get hi]; exact List.getElem_mem hi)
    rw [lnP_at (by omega) hi, List.take_of_length_le (Nat.le_refl _)]
    exact wrap64_in (by omega) (by omega)
  rw [eqL_iff]
  constructor
  · intro h j hjm
    obtain ⟨i, hi, rfl⟩ := List.getElem_of_mem hjm
    have h1 := h i (by omega)
    rw [e i hi, lnJ_at (by omega), if_pos hi, jg_get hi] at h1
    exact h1
  · intro h i hi
    by_cases hl : i < ls.length
    · rw [e i hl, lnJ_at hi, if_pos hl]
      exact h _ (by rw [jg_get hl]; exact List.getElem_mem hl)
    · rw [lnP_out hi hl, lnJ_at hi, if_neg hl]

set_option maxRecDepth 8000 in
set_option maxHeartbeats 8000000 in
theorem implPiecesOk_any (a a2 : Option Addr) (n cap n2 cap2 : Nat) (ls : List Jb) (m : Int) (ps : List Pc) (w : World) (h : JobS w a n cap ls) (h2 : PieceS w a2 n2 cap2 ps) (hn2 : n2 ≤ 1048576) :
    Calls Try.prog 15 #[.slice a n cap, .int .i64 m, .slice a2 n2 cap2] w fun e w' => e = .returned (.bool (pkB ls m ps)) ∧ Below w.heap.size w w' := by
  have hlen := h.len
  have hlen2 := h2.len
  rcases hs : shB ls m with _ | _
  · rw [pk_share hs]
    go_enter Try.func15, Try.ntmps15
    go_wp2_with (go_at_call 33; refine (shareOk_any a n cap ls m _ h).mono ?_; rw [hs]; rintro e w1 ⟨rfl, hb1⟩)
    go_ret
    exact ⟨rfl, hb1⟩
  obtain ⟨hjs, hm1, hm2⟩ := shB_t hs
  have hn40 := hjs.n
  rw [hlen] at hn40
  obtain ⟨r, hr⟩ : ∃ r, r = pkB ls m ps := ⟨_, rfl⟩
  rw [← hr]
  have HR : Hid (r = pkB ls m ps) := hr
  clear hr
  go_enter Try.func15, Try.ntmps15
  go_wp2_with fail
  refine (shareOk_any a n cap ls m _ h).mono ?_
  rw [hs]
  rintro e w1 ⟨rfl, hb1⟩
  go_wp2_with fail
  refine (apartM_any a2 n2 cap2 ps _ (h2.below hb1) hn2).mono ?_
  rintro e w2 ⟨ys, hy, sy, rfl, hb2⟩
  have U2 := hb1.then hb2 hb1.size
  rcases ny : nbB (·.mac) ys (ys.length - 1) with _ | _
  · obtain rfl : r = false := HR.out.trans (pk_mac hy sy ny)
    go_wp2
    go_ret
    exact ⟨rfl, U2⟩
  go_wp2_with fail
  refine (apartJ_any a2 n2 cap2 ps _ (h2.below U2) hn2).mono ?_
  rintro e w3 ⟨zs, hz, sz, rfl, hb3⟩
  have U3 := U2.then hb3 U2.size
  rcases nz : nbB (·.job) zs (zs.length - 1) with _ | _
  · obtain rfl : r = false := HR.out.trans (pk_jobs hz sz nz)
    go_wp2
    go_ret
    exact ⟨rfl, U3⟩
  go_wp2_with fail
  refine (lineOfPieces_any a a2 n cap n2 cap2 ls m ps _ (h.below U3) (h2.below U3) hjs hm1 hm2).mono ?_
  rintro e w4 ⟨b, xs, hxl, rfl, hT, hb4⟩
  have U4 := U3.then hb4 U3.size
  obtain ⟨W5, hW5⟩ : ∃ W5, W5 = (w4.alloc (.cells (ar z40) 65)).setRow w4.heap.size (ar xs) := ⟨_, rfl⟩
  have hh : (w4.alloc (.cells (ar z40) 65)).heap[w4.heap.size]? = some (.cells (ar z40) 65 (0, 0)) := heap_new _ _
  have L5 : LnB W5 w4.heap.size xs := by rw [hW5]; exact ⟨setRow_heap _ _ _ _ _ _ hh, hxl⟩
  have B5 : Below w.heap.size w W5 := by rw [hW5]; exact setRow_below (U4.alloc U4.size _) U4.size _
  have sx : (Try.prog.info? 65).map (·.size) = some (ar xs).size := by rw [ar_size, hxl]; exact sizedLn
  have sx0 : (ar z40).size = (ar xs).size := by rw [ar_size, ar_size, hxl]; rfl
  go_wp2_with (refine wpList_plain rfl fun _ hK => wp_store_row 65 (.tmp 7) (.tmp 28) rfl w4.heap.size (ar xs) rfl rfl 65 (ar z40) hh sx sx0 (ar_one _) (hK _ _ ?_))
  rw [ar_z40, ← hW5]
  clear hW5 hh sx0
  rcases hT with ⟨rfl, hall, hx⟩ | ⟨rfl, hno⟩
  · have HE : Hid (r = eqL xs (lnJ ls n)) := by
      have hf : ∀ p ∈ ps, 0 ≤ p.fr ∧ p.fr < p.up ∧ p.up ≤ 9223372036854775807 := fun p hp => by
        obtain ⟨i, hi, rfl⟩ := List.getElem_of_mem hp
        have h1 := hall i hi
        have h3 : -9223372036854775808 ≤ (pcg ps i).up ∧ (pcg ps i).up ≤ 9223372036854775807 := h2.wf i (by omega) 3 (by omega)
        rw [← pcg_get hi]
        exact ⟨h1.f0, h1.lt, h3.2⟩
      have hwk := fun (j : Jb) (_ : j ∈ ls) => work_fits hz sz nz (M := 9223372036854775807) (by omega) hf j.id
      have hiff := eqL_work (ps := ps) hjs hwk
      rw [← hx, hlen] at hiff
      unfold Hid
      rw [HR.out]
      rcases he : eqL xs (lnJ ls n) with _ | _
      · refine pkB_no fun p => ?_
        rw [hiff.2 p.work] at he; cases he
      · exact pkB_mk (pk_told hjs hm1 hm2 hy sy hz sz hall.all ny nz (hiff.1 he))
    have hls : ((Try.prog.info? 65).map (·.size)) = some (xs.map (Value.int .i64)).length := by rw [List.length_map, hxl]; exact sizedLn
    have hul := Try.underlying65
    have hrg : W5.rangeAt w4.heap.size 0 (xs.map (Value.int .i64)) := fun j v hv => by
      rw [cell_of_row _ _ _ _ _ _ L5.1, Nat.zero_add]
      simpa [ar] using hv
    have H5 : JobS W5 a n cap ls := h.below B5
    have hzl := lnJ_len ls n
    obtain ⟨vs, hvs⟩ : ∃ vs, vs = xs.map (Value.int .i64) := ⟨_, rfl⟩
    obtain ⟨us, hus⟩ : ∃ us, us = ar (lnJ ls n) := ⟨_, rfl⟩
    have hEq : ∀ W, (Op.equalIn 10000 65 (.agg vs.toArray) (.agg us)).run Try.prog W = .ok r W := fun W => by rw [hvs, hus, HE.out]; exact run_eqLine W 9998 xs (lnJ ls n) hxl hzl
    have hgd : Try.prog.eqGuardType Try.prog.depth 65 = false := by kernel_rfl
    have CL : ∀ W, JobS W a n cap ls → Calls Try.prog 43 #[.slice a n cap] W fun e w' => e = .returned (.agg us) ∧ Below W.heap.size W w' := fun W hW => by rw [hus]; exact lineOfJobs_any a n cap ls W hW hn40
    rw [← hvs] at hls hrg
    have HK : Hid (∀ W, Below W5.heap.size W5 W → Below W5.heap.size W5 W ∧ W.rangeAt w4.heap.size 0 vs) := fun W hb => ⟨hb, fun j v hv => (hb.cell (p := ⟨w4.heap.size, 0 + j, none⟩) L5.lt).trans (hrg j v hv)⟩
    have S0 : Below W5.heap.size W5 W5 := Below.refl _ _
    have K0 := HK.out _ S0
    have KB : ∀ W, (Below W5.heap.size W5 W ∧ W.rangeAt w4.heap.size 0 vs) → Below W5.heap.size W5 W := fun _ h => h.1
    clear hvs hus hrg hy sy hz sz ny nz hall hx HE HR L5
    go_region_held3 (fun W => Below W5.heap.size W5 W ∧ W.rangeAt w4.heap.size 0 vs) ((refine HK.out _ ?_; first | with_reducible exact SB | with_reducible exact SB.drew | with_reducible exact S0.drew | with_reducible exact S0)) ((go_at_call 43; refine (CL _ (H5.below (KB _ (by assumption)))).mono ?_; rintro e w6 ⟨rfl, hb6⟩; have SB : Below W5.heap.size W5 w6 := (KB _ (by assumption)).then hb6 (KB _ (by assumption)).size))
    all_goals
      go_wp2
      go_ret
      exact ⟨rfl, B5.then (by first | exact SB | exact SB.drew) B5.size⟩
  · obtain rfl : r = false := HR.out.trans (pk_one hno)
    go_quiet (fail)
    go_wp2
    go_ret
    exact ⟨rfl, B5.drewN _⟩

end Go.Proofs.Ytnndkdonbjeejaa
