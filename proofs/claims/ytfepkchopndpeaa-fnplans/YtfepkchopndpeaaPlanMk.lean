/- Makespan of the model. -/
import Derived.Test.YtfepkchopndpeaaPlanQ
import Derived.Test.YtfepkchopndpeaaPkD
import Derived.Test.YtfepkchopndpeaaInts
namespace Go.Proofs.Ytfepkchopndpeaa
open Go.RowKit Go.Sort

theorem mkK_b (js : List Jb) (ss : List Int) : ∀ k, 0 ≤ mkK js ss k
  | 0 => by simp [mkK]
  | k + 1 => by
    have ih := mkK_b js ss k
    simp only [mkK]; split <;> omega
theorem mkF_t {js : List Jb} {ss : List Int} (h : jsB js = true) (hl : ss.length = js.length) (hs : stOk ss js.length) : mkF js ss = mkK js ss js.length := by
  unfold mkF; rw [if_pos ⟨h, hl, @decide_eq_true _ (Classical.propDecidable _) hs⟩]
theorem mkF_s {js : List Jb} {ss : List Int} (hs : ¬ stOk ss js.length) : mkF js ss = -1 := by
  unfold mkF; rw [if_neg fun h => hs (@of_decide_eq_true _ (Classical.propDecidable _) h.2.2)]
theorem mkF_l {js : List Jb} {ss : List Int} (hl : ss.length ≠ js.length) : mkF js ss = -1 := by
  unfold mkF; rw [if_neg fun h => hl h.2.1]
theorem mkF_j {js : List Jb} {ss : List Int} (h : jsB js = false) : mkF js ss = -1 := by
  unfold mkF; rw [if_neg fun q => by rw [h] at q; cases q.1]

set_option maxRecDepth 8000 in
set_option maxHeartbeats 4000000 in
theorem specMakespan_any (a a2 : Option Addr) (n cap n2 cap2 : Nat) (js : List Jb) (ss : List Int) (w : World) (h : JobS w a n cap js) (h2 : IntS w a2 n2 cap2 ss) :
    Calls Try.prog 17 #[.slice a n cap, .slice a2 n2 cap2] w fun e w' => e = .returned (.int .i64 (mkF js ss)) ∧ Below w.heap.size w w' := by
  have hlen := h.len
  have hlen2 := h2.len
  have hmx := h.mx
  have hle := h.le
  unfold maxLen at hmx
  rcases hq : jsB js with _ | _
  · rw [mkF_j hq]
    go_enter Try.func17, Try.ntmps17
    go_wp2_with (go_at_call 37; refine (specJobsOk_any a n cap js _ h).mono ?_; rw [hq]; rintro e w1 ⟨rfl, hb1⟩)
    go_ret
    exact ⟨rfl, hb1⟩
  have hj := jsB_t hq
  by_cases hl : n2 = n
  · subst hl
    obtain ⟨r, hr⟩ : ∃ r, r = mkF js ss := ⟨_, rfl⟩
    have HR : Hid (r = mkF js ss) := hr
    rw [← hr]
    clear hr
    have hll : ss.length = js.length := by omega
    have hnn : ((n2 : Int) != (n2 : Int)) = false := by simp
    go_enter Try.func17, Try.ntmps17
    go_wp2_with (go_at_call 37; refine (specJobsOk_any a n2 cap js _ h).mono ?_; rw [hq]; rintro e w1 ⟨rfl, hb1⟩)
    have H1 := h.below hb1
    have I1 := h2.below hb1
    go_loopw [5, 6] (fun s i wr => ∃ k : Nat, k ≤ n2 ∧ i = .int .i64 k ∧ s = .int .i64 (mkK js ss k) ∧ Hid (stOk ss k) ∧ Below w1.heap.size w1 wr) (fun _ i _ => n2 - (intOf i).toNat)
    case atStart => exact ⟨0, by omega, rfl, rfl, fun i hi => by omega, Below.refl _ _⟩
    case round =>
      obtain ⟨k, hk, rfl, rfl, HS, hw⟩ := hrel
      rename World => wr
      by_cases hlt : k < n2
      · obtain ⟨b, off, rfl, hbw, hat⟩ := (H1.below hw).at_ (by omega)
        obtain ⟨b2, off2, rfl, hbw2, hat2⟩ := (I1.below hw).at_ (by omega)
        have c2 := (hat.job (i := k) (by omega)).2.2.1
        have z0 := hat2 k hlt
        have hlt' : (k : Int) < (n2 : Int) := by omega
        have jb := jok_cl (hj.ok k (by omega)).1
        clear hat hat2
        rcases hin : inB (zg ss k) (-1) 1000000000 with _ | _
        · obtain rfl : r = -1 := HR.out.trans (mkF_s fun q => by
            have := q k (by omega)
            unfold inB at hin
            simp only [Bool.and_eq_false_iff, decide_eq_false_iff_not] at hin
            omega)
          go_wp2_with (go_at_call 42; refine (l1In_any _ _ _ _).mono ?_; rw [hin]; rintro e w2 ⟨rfl, rfl⟩)
          go_ret
          exact ⟨rfl, hb1.then hw hb1.size⟩
        · have hbd : -1 ≤ zg ss k ∧ zg ss k ≤ 1000000000 := by
            unfold inB at hin
            simp only [Bool.and_eq_true, decide_eq_true_eq] at hin
            omega
          have HS2 : Hid (stOk ss (k + 1)) := fun i hi => by
            by_cases e : i = k
            · subst e; exact hbd
            · exact HS.out i (by omega)
          by_cases hz : 0 ≤ zg ss k ∧ zg ss k < 1000000000
          · obtain ⟨hz0, hz1⟩ := hz
            have hll2 : 0 ≤ (jg js k).long ∧ (jg js k).long ≤ 1000000000 := by omega
            have HM : Hid (mkK js ss (k + 1) = max (mkK js ss k) (laterI (zg ss k) (jg js k).long)) := by unfold Hid; simp only [mkK]; rw [if_pos ⟨hz0, hz1⟩]
            have hzl : zg ss k ≤ 1000000000 := hbd.2
            go_wp2_with (go_at_call 42; refine (l1In_any _ _ _ _).mono ?_; rw [hin]; rintro e w2 ⟨rfl, hq2⟩; have hq2' := hq2.symm; clear hq2; subst hq2')
            go_quiet ((first | (go_at_call 44; exact Calls.quiet_of_same (l1Later_any _ _ _ hz0 hzl hll2.1 hll2.2)) | (go_at_call 43; exact Calls.quiet_of_same (l1Max_any _ _ _))))
            go_wp2
            go_roundw
            case rel => exact ⟨k + 1, by omega, by go_num, by rw [HM.out], HS2, hw.drewN _⟩
            case measure => simp [intOf]; omega
          · have HM : Hid (mkK js ss (k + 1) = mkK js ss k) := by unfold Hid; simp only [mkK]; rw [if_neg hz]
            by_cases hz0 : 0 ≤ zg ss k
            · have hz1 : ¬ zg ss k < 1000000000 := fun q => hz ⟨hz0, q⟩
              go_wp2_with (go_at_call 42; refine (l1In_any _ _ _ _).mono ?_; rw [hin]; rintro e w2 ⟨rfl, hq2⟩; have hq2' := hq2.symm; clear hq2; subst hq2')
              go_roundw
              case rel => exact ⟨k + 1, by omega, by go_num, by rw [HM.out], HS2, hw⟩
              case measure => simp [intOf]; omega
            · go_wp2_with (go_at_call 42; refine (l1In_any _ _ _ _).mono ?_; rw [hin]; rintro e w2 ⟨rfl, hq2⟩; have hq2' := hq2.symm; clear hq2; subst hq2')
              go_roundw
              case rel => exact ⟨k + 1, by omega, by go_num, by rw [HM.out], HS2, hw⟩
              case measure => simp [intOf]; omega
      · obtain rfl : k = n2 := by omega
        have HE : Hid (r = mkK js ss k) := by
          unfold Hid
          rw [HR.out, mkF_t hq hll (by rw [hlen]; exact HS.out), hlen]
        go_wp2
        go_ret
        exact ⟨by rw [HE.out]; rfl, hb1.then hw hb1.size⟩
  · rw [mkF_l (by omega)]
    have hnn : ((n2 : Int) != (n : Int)) = true := by simp; omega
    go_enter Try.func17, Try.ntmps17
    go_wp2_with (go_at_call 37; refine (specJobsOk_any a n cap js _ h).mono ?_; rw [hq]; rintro e w1 ⟨rfl, hb1⟩)
    go_ret
    exact ⟨rfl, hb1⟩

end Go.Proofs.Ytfepkchopndpeaa
