/- The program's startsOk and Makespan. -/
import Derived.Test.YtcmpenlgkccgkaaPlcI
import Derived.Test.YtcmpenlgkccgkaaPlanMk
import Derived.Test.YtcmpenlgkccgkaaInts
import Derived.Deep.Cut
import Derived.Deep.CutRange
namespace Go.Proofs.Ytcmpenlgkccgkaa
open Go.RowKit Go.Sort

noncomputable def stB (ss : List Int) (k : Nat) : Bool := @decide (stOk ss k) (Classical.propDecidable _)
theorem stB_t {ss : List Int} {k : Nat} (h : stB ss k = true) : stOk ss k := @of_decide_eq_true _ (Classical.propDecidable _) h
theorem stB_f {ss : List Int} {k : Nat} (h : stB ss k = false) : ¬ stOk ss k := @of_decide_eq_false _ (Classical.propDecidable _) h
theorem stB_mk {ss : List Int} {k : Nat} (h : stOk ss k) : stB ss k = true := @decide_eq_true _ (Classical.propDecidable _) h
theorem stB_no {ss : List Int} {k : Nat} (h : ¬ stOk ss k) : stB ss k = false := @decide_eq_false _ (Classical.propDecidable _) h

theorem startOk_any (s : Int) (w : World) : Calls Try.prog 62 #[.int .i64 s] w fun e w' => e = .returned (.bool (inB s (-1) 1000000000)) ∧ w' = w := by
  by_cases c : s = -1
  · subst c
    go_enter Try.func62, Try.ntmps62
    go_wp2
    go_ret
    exact ⟨rfl, rfl⟩
  · have hne : (s == -1) = false := by simpa using c
    have e : inB s (-1) 1000000000 = okB s := by
      unfold okB inB
      by_cases h : 0 ≤ s
      · rw [decide_eq_true h, decide_eq_true (show -1 ≤ s by omega)]
      · rw [decide_eq_false h, decide_eq_false (show ¬ -1 ≤ s by omega)]
    rw [e]
    clear e
    go_enter Try.func62, Try.ntmps62
    go_wp2_with (go_at_call 63; refine (implOk_any _ _).mono ?_; rintro e w' ⟨rfl, rfl⟩)
    go_ret
    exact ⟨rfl, rfl⟩

/-- is each of them so? -/
def sokTo (u : List Int) (k : Nat) : Prop := ∀ i, i < k → inB (zg u i) (-1) 1000000000 = true
noncomputable def sokB (u : List Int) (k : Nat) : Bool := @decide (sokTo u k) (Classical.propDecidable _)
theorem sokB_mk {u : List Int} {k : Nat} (h : sokTo u k) : sokB u k = true := @decide_eq_true _ (Classical.propDecidable _) h
theorem sokB_no {u : List Int} {k : Nat} (h : ¬ sokTo u k) : sokB u k = false := @decide_eq_false _ (Classical.propDecidable _) h
theorem sokB_t {u : List Int} {k : Nat} (h : sokB u k = true) : sokTo u k := @of_decide_eq_true _ (Classical.propDecidable _) h
theorem sokB_f {u : List Int} {k : Nat} (h : sokB u k = false) : ¬ sokTo u k := @of_decide_eq_false _ (Classical.propDecidable _) h

set_option maxHeartbeats 1000000 in
theorem sok_any (a : Option Addr) (n cap : Nat) (u : List Int) (w : World) (h : IntS w a n cap u) :
    Calls Try.prog 65 #[.slice a n cap, .func (.func 62) #[] #[]] w fun e w' => e = .returned (.bool (sokB u n)) ∧ w' = w := by
  have hlen := h.len
  have hmx := h.mx
  have hle := h.le
  unfold maxLen at hmx
  obtain ⟨r, hr⟩ : ∃ r, r = sokB u n := ⟨_, rfl⟩
  have HR : Hid (r = sokB u n) := hr
  rw [← hr]
  clear hr
  go_enter Try.func65, Try.ntmps65
  go_wp2
  go_loopw [9] (fun i wr => ∃ k : Nat, k ≤ n ∧ i = .int .i64 k ∧ Hid (sokTo u k) ∧ wr = w) (fun i _ => n - (intOf i).toNat)
  case atStart => exact ⟨0, by omega, rfl, fun j hj => by omega, rfl⟩
  case round =>
    obtain ⟨k, hk, rfl, hok, rfl⟩ := hrel
    by_cases hlt : k < n
    · obtain ⟨b, off, rfl, hbw, hat⟩ := h.at_ (by omega)
      have hc := hat k hlt
      have hlt' : (k : Int) < (n : Int) := by omega
      clear hat
      rcases q : inB (zg u k) (-1) 1000000000 with _ | _
      · have E : Hid (r = false) := HR.out.trans (sokB_no fun q9 => by have := q9 k hlt; rw [q] at this; cases this)
        go_wp2_with (go_at_call 62; refine (startOk_any _ _).mono ?_; rw [q]; rintro e w' ⟨rfl, hq⟩; have hq' := hq.symm; clear hq; subst hq')
        go_ret
        exact ⟨by rw [E.out]; rfl, rfl⟩
      · have N : Hid (sokTo u (k + 1)) := fun j hj => by
          by_cases e : j = k
          · subst e; exact q
          · exact hok.out j (by omega)
        go_wp2_with (go_at_call 62; refine (startOk_any _ _).mono ?_; rw [q]; rintro e w' ⟨rfl, hq⟩; have hq' := hq.symm; clear hq; subst hq')
        go_roundw
        case rel => first | exact ⟨k + 1, by omega, by go_num, N, rfl⟩ | exact ⟨k + 1, by omega, by go_num, N, trivial⟩ | exact ⟨k + 1, by omega, by go_num, N⟩
        case measure => simp [intOf]; omega
    · obtain rfl : k = n := by omega
      have E : Hid (r = true) := HR.out.trans (sokB_mk hok.out)
      have hnn : ¬ (k : Int) < (k : Int) := by omega
      go_wp2
      go_ret
      exact ⟨by rw [E.out]; rfl, rfl⟩

theorem sokB_st (ss : List Int) (k : Nat) : sokB ss k = stB ss k := by
  rcases h : sokB ss k with _ | _
  · exact (stB_no fun h9 => sokB_f h fun i hi => inB_mk (h9 i hi)).symm
  · exact (stB_mk fun i hi => inB_t (sokB_t h i hi)).symm
theorem eachStart_any (a : Option Addr) (n cap : Nat) (ss : List Int) (w : World) (h : IntS w a n cap ss) :
    Calls Try.prog 65 #[.slice a n cap, .func (.func 62) #[] #[]] w fun e w' => e = .returned (.bool (stB ss n)) ∧ w' = w := by
  rw [← sokB_st]
  exact sok_any a n cap ss w h

/-- may these be their starts? -/
noncomputable def soB (js : List Jb) (ss : List Int) : Bool := jsB js && (decide (ss.length = js.length) && stB ss js.length)
theorem startsOk_any (a a2 : Option Addr) (n cap n2 cap2 : Nat) (js : List Jb) (ss : List Int) (w : World) (h : JobS w a n cap js) (h2 : IntS w a2 n2 cap2 ss) :
    Calls Try.prog 37 #[.slice a n cap, .slice a2 n2 cap2] w fun e w' => e = .returned (.bool (soB js ss)) ∧ Below w.heap.size w w' := by
  have hlen := h.len
  have hlen2 := h2.len
  rcases hq : jsB js with _ | _
  · have E : Hid (soB js ss = false) := by unfold Hid soB; rw [hq]; rfl
    obtain ⟨r, hr⟩ : ∃ r, r = soB js ss := ⟨_, rfl⟩
    have HR : Hid (r = false) := hr.trans E.out
    rw [← hr]
    clear hr
    go_enter Try.func37, Try.ntmps37
    go_wp2_with (go_at_call 64; refine (implJobsOk_any a n cap js _ h).mono ?_; rw [hq]; rintro e w1 ⟨rfl, hb1⟩)
    go_ret
    exact ⟨by rw [HR.out]; rfl, hb1⟩
  · by_cases hl : n2 = n
    · subst hl
      have E : Hid (soB js ss = stB ss n2) := by unfold Hid soB; rw [hq, decide_eq_true (by omega), hlen]; rfl
      obtain ⟨r, hr⟩ : ∃ r, r = soB js ss := ⟨_, rfl⟩
      have HR : Hid (r = stB ss n2) := hr.trans E.out
      rw [← hr]
      clear hr
      rcases hs : stB ss n2 with _ | _
      · rw [hs] at HR
        go_enter Try.func37, Try.ntmps37
        go_wp2_with (first | (go_at_call 64; refine (implJobsOk_any a n2 cap js _ h).mono ?_; rw [hq]; rintro e w1 ⟨rfl, hb1⟩) | (go_at_call 65; refine (eachStart_any a2 n2 cap2 ss _ (h2.below hb1)).mono ?_; rw [hs]; rintro e w2 ⟨rfl, hq2⟩; have hq2' := hq2.symm; clear hq2; subst hq2'))
        go_ret
        exact ⟨by rw [HR.out]; rfl, hb1⟩
      · rw [hs] at HR
        go_enter Try.func37, Try.ntmps37
        go_wp2_with (first | (go_at_call 64; refine (implJobsOk_any a n2 cap js _ h).mono ?_; rw [hq]; rintro e w1 ⟨rfl, hb1⟩) | (go_at_call 65; refine (eachStart_any a2 n2 cap2 ss _ (h2.below hb1)).mono ?_; rw [hs]; rintro e w2 ⟨rfl, hq2⟩; have hq2' := hq2.symm; clear hq2; subst hq2'))
        go_ret
        exact ⟨by rw [HR.out]; rfl, hb1⟩
    · have E : Hid (soB js ss = false) := by unfold Hid soB; rw [hq, decide_eq_false (by omega)]; rfl
      obtain ⟨r, hr⟩ : ∃ r, r = soB js ss := ⟨_, rfl⟩
      have HR : Hid (r = false) := hr.trans E.out
      rw [← hr]
      clear hr
      have hnn : ((n2 : Int) == (n : Int)) = false := by simp; omega
      go_enter Try.func37, Try.ntmps37
      go_wp2_with (go_at_call 64; refine (implJobsOk_any a n cap js _ h).mono ?_; rw [hq]; rintro e w1 ⟨rfl, hb1⟩)
      go_ret
      exact ⟨by rw [HR.out]; rfl, hb1⟩

theorem mkF_so {js : List Jb} {ss : List Int} : mkF js ss = if soB js ss = true then mkK js ss js.length else -1 := by
  unfold soB
  by_cases c : jsB js = true ∧ ss.length = js.length ∧ stOk ss js.length
  · rw [mkF_t c.1 c.2.1 c.2.2, c.1, decide_eq_true c.2.1, stB_mk c.2.2]; rfl
  · rw [if_neg]
    · unfold mkF
      rw [if_neg fun h9 => c ⟨h9.1, h9.2.1, @of_decide_eq_true _ (Classical.propDecidable _) h9.2.2⟩]
    · intro h9
      simp only [Bool.and_eq_true, decide_eq_true_eq] at h9
      exact c ⟨h9.1, h9.2.1, stB_t h9.2.2⟩
theorem soB_t {js : List Jb} {ss : List Int} (h : soB js ss = true) : jsB js = true ∧ ss.length = js.length ∧ stOk ss js.length := by
  unfold soB at h
  simp only [Bool.and_eq_true, decide_eq_true_eq] at h
  exact ⟨h.1, h.2.1, stB_t h.2.2⟩

set_option maxRecDepth 8000 in
set_option maxHeartbeats 4000000 in
theorem implMakespan_any (a a2 : Option Addr) (n cap n2 cap2 : Nat) (js : List Jb) (ss : List Int) (w : World) (h : JobS w a n cap js) (h2 : IntS w a2 n2 cap2 ss) :
    Calls Try.prog 11 #[.slice a n cap, .slice a2 n2 cap2] w fun e w' => e = .returned (.int .i64 (mkF js ss)) ∧ Below w.heap.size w w' := by
  have hlen := h.len
  have hlen2 := h2.len
  have hmx := h.mx
  have hle := h.le
  unfold maxLen at hmx
  obtain ⟨r, hr⟩ : ∃ r, r = mkF js ss := ⟨_, rfl⟩
  have HR : Hid (r = mkF js ss) := hr
  rw [← hr]
  clear hr
  rcases hq : soB js ss with _ | _
  · have HE : Hid (r = -1) := by unfold Hid; rw [HR.out, mkF_so, hq]; rfl
    go_enter Try.func11, Try.ntmps11
    go_wp2_with (go_at_call 37; refine (startsOk_any a a2 n cap n2 cap2 js ss _ h h2).mono ?_; rw [hq]; rintro e w1 ⟨rfl, hb1⟩)
    go_ret
    exact ⟨by rw [HE.out]; rfl, hb1⟩
  · have HE : Hid (r = mkK js ss js.length) := by unfold Hid; rw [HR.out, mkF_so, hq]; rfl
    obtain ⟨hj, hl, hst⟩ := soB_t hq
    have js_ := jsB_t hj
    have hn40 := js_.n
    have hln : n2 = n := by omega
    subst hln
    have Hst : Hid _ := hst
    clear hst hj
    go_enter Try.func11, Try.ntmps11
    go_wp2_with (go_at_call 37; refine (startsOk_any a a2 n2 cap n2 cap2 js ss _ h h2).mono ?_; rw [hq]; rintro e w1 ⟨rfl, hb1⟩)
    clear hq
    have HJ1 : Hid _ := h.below hb1
    have HI1 : Hid _ := h2.below hb1
    clear h h2
    go_loopw [5, 14] (fun s i wr => ∃ k : Nat, k ≤ n2 ∧ i = .int .i64 k ∧ s = .int .i64 (mkK js ss k) ∧ Below w1.heap.size w1 wr) (fun _ i _ => n2 - (intOf i).toNat)
    case atStart => exact ⟨0, by omega, rfl, rfl, Below.refl _ _⟩
    case round =>
      obtain ⟨k, hk, rfl, rfl, hw⟩ := hrel
      rename World => wr
      by_cases hlt : k < n2
      · obtain ⟨b, off, rfl, hbw, hat⟩ := (HJ1.out.below hw).at_ (by omega)
        obtain ⟨b2, off2, rfl, hbw2, hat2⟩ := (HI1.out.below hw).at_ (by omega)
        obtain ⟨hc0, hc1, hc2, hc3, hc4, hc5, hc6⟩ := hat.job (i := k) (by omega)
        have z0 := hat2 k hlt
        have hlt' : (k : Int) < (n2 : Int) := by omega
        have hcl := jok_cl (js_.ok k (by omega)).1
        have hlo : okB (jg js k).long = true := inB_mk ⟨by omega, by omega⟩
        have hsk := Hst.out k (by omega)
        clear hat hat2
        have z9 : (wr.alloc (.cells #[.int .i64 (jg js k).id, .int .i64 (jg js k).cores, .int .i64 (jg js k).long, .int .i64 (jg js k).due, .int .i64 (jg js k).wt, .int .i64 (jg js k).rank, .int .i64 (jg js k).at_] 54)).cell? ⟨b2, off2 + k, none⟩ = some (.int .i64 (zg ss k)) := by
          rw [World.cell?_alloc_lt _ _ _ hbw2]; exact z0
        rcases hin : inB (zg ss k) 0 999999999 with _ | _
        · have HM : Hid (mkK js ss (k + 1) = mkK js ss k) := by unfold Hid; simp only [mkK]; rw [if_neg (by have := inB_f hin; omega)]
          go_wp2_with (go_at_call 38; refine (begins_any _ _).mono ?_; rw [hin]; rintro e w' ⟨rfl, rfl⟩)
          go_roundw
          case rel => exact ⟨k + 1, by omega, by go_num, by rw [HM.out], hw.then box_below0 hw.size⟩
          case measure => simp [intOf]; omega
        · obtain ⟨s0, s1⟩ := inB_t hin
          have hso : okB (zg ss k) = true := inB_mk ⟨by omega, by omega⟩
          have HM : Hid (mkK js ss (k + 1) = max (mkK js ss k) (laterI (zg ss k) (jg js k).long)) := by unfold Hid; simp only [mkK]; rw [if_pos ⟨by omega, by omega⟩]
          have CL : ∀ W, Calls Try.prog 39 #[.int .i64 (zg ss k), .int .i64 (jg js k).long] W fun e w' => e = .returned (.int .i64 (laterI (zg ss k) (jg js k).long)) ∧ w' = W := fun W => by
            have := implLater_any (zg ss k) (jg js k).long W
            rwa [face_tt hso hlo] at this
          go_upto_region 8 with (go_at_call 38; refine (begins_any _ _).mono ?_; rw [hin]; rintro e w' ⟨rfl, rfl⟩)
          go_quiet ((go_at_call 39; exact Calls.quiet_of_same (CL _)))
          go_wp2
          go_roundw
          case rel => exact ⟨k + 1, by omega, by go_num, by rw [HM.out]; congr 1; omega, (hw.then box_below0 hw.size).drewN _⟩
          case measure => simp [intOf]; omega
      · obtain rfl : k = n2 := by omega
        have HE2 : Hid (r = mkK js ss k) := by unfold Hid; rw [HE.out, hlen]
        have hnn : ¬ (k : Int) < (k : Int) := by omega
        go_wp2
        go_ret
        exact ⟨by rw [HE2.out]; rfl, hb1.then hw hb1.size⟩

end Go.Proofs.Ytcmpenlgkccgkaa
