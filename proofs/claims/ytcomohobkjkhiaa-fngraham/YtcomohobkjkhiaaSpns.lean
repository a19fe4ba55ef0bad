/- Several texts in one. -/
import Derived.Test.YtcomohobkjkhiaaL6S
import Derived.BigRegion
/- Span of the program. -/
namespace Go.Proofs.Ytcomohobkjkhiaa
open Go.RowKit Go.Sort

/-- the loads of the first k, where number i is done by zs's i-th -/
def loadZ (ls : List Jb) (zs : List Int) (m : Nat) : Nat → List Int
  | 0 => List.replicate m 0
  | k + 1 => addAt (loadZ ls zs m k) (zg zs k).toNat (jg ls k).long
noncomputable def spnB (ls : List Jb) (zs : List Int) (m : Int) : Bool := shB ls m && decide (zs.length = ls.length) && (List.range ls.length).all fun i => inB (zg zs i) 0 (m - 1)
noncomputable def spnV (ls : List Jb) (zs : List Int) (m : Int) : Int := if spnB ls zs m = true then mostV (loadZ ls zs m.toNat ls.length) else -1

theorem loadZ_len (ls : List Jb) (zs : List Int) (m : Nat) : ∀ k, (loadZ ls zs m k).length = m
  | 0 => by simp [loadZ]
  | k + 1 => by rw [loadZ, addAt_len, loadZ_len ls zs m k]
theorem loadZ_ok {ls : List Jb} {zs : List Int} {m : Nat} (h : jokTo ls ls.length) : ∀ k, k ≤ ls.length → (∀ i, i < k → inB (zg zs i) 0 ((m : Int) - 1) = true) → LdOk (loadZ ls zs m k) (10000 * (k : Int))
  | 0, _, _ => (LdOk.rep m).mono (by omega)
  | k + 1, hk, hz => by
    have h1 := loadZ_ok h k (by omega) (fun i hi => hz i (by omega))
    have h2 := jok_bd (h k (by omega)).1
    have h3 := hz k (by omega)
    unfold inB at h3
    simp only [Bool.and_eq_true, decide_eq_true_eq] at h3
    exact (h1.add (k := (zg zs k).toNat) (p := (jg ls k).long) (by rw [loadZ_len]; omega) (by omega)).mono (by push_cast; omega)
theorem inB_iff {x lo hi : Int} : inB x lo hi = true ↔ lo ≤ x ∧ x ≤ hi := by unfold inB; simp
theorem inB_nn {x lo hi : Int} : inB x lo hi = false ↔ ¬ (lo ≤ x ∧ x ≤ hi) := by rw [← inB_iff]; simp
theorem spnV_no1 {ls : List Jb} {zs : List Int} {m : Int} (h : shB ls m = false) : spnV ls zs m = -1 := by
  unfold spnV spnB; rw [h]; simp
theorem spnV_no2 {ls : List Jb} {zs : List Int} {m : Int} (h : zs.length ≠ ls.length) : spnV ls zs m = -1 := by
  unfold spnV spnB; rw [decide_eq_false h]; simp
theorem spnV_no3 {ls : List Jb} {zs : List Int} {m : Int} {k : Nat} (hk : k < ls.length) (h : inB (zg zs k) 0 (m - 1) = false) : spnV ls zs m = -1 := by
  unfold spnV
  rw [if_neg]
  intro h1
  unfold spnB at h1
  rw [Bool.and_eq_true, List.all_eq_true] at h1
  have := h1.2 k (List.mem_range.2 hk)
  rw [h] at this; cases this
theorem spnV_yes {ls : List Jb} {zs : List Int} {m : Int} (h1 : shB ls m = true) (h2 : zs.length = ls.length) (h3 : ∀ i, i < ls.length → inB (zg zs i) 0 (m - 1) = true) : spnV ls zs m = mostV (loadZ ls zs m.toNat ls.length) := by
  unfold spnV
  rw [if_pos]
  unfold spnB
  rw [h1, decide_eq_true h2, Bool.and_eq_true, List.all_eq_true]
  exact ⟨rfl, fun i hi => h3 i (List.mem_range.1 hi)⟩

set_option maxRecDepth 8000 in
set_option maxHeartbeats 4000000 in
theorem implSpan_any (a a2 : Option Addr) (n cap n2 cap2 : Nat) (ls : List Jb) (zs : List Int) (m : Int) (w : World) (h : JobS w a n cap ls) (h2 : IntS w a2 n2 cap2 zs) :
    Calls Try.prog 17 #[.slice a n cap, .slice a2 n2 cap2, .int .i64 m] w fun e w' => e = .returned (.int .i64 (spnV ls zs m)) ∧ Below w.heap.size w w' := by
  have hlen := h.len
  have hlen2 := h2.len
  have hmx := h.mx
  have hle := h.le
  have hmx2 := h2.mx
  have hle2 := h2.le
  unfold maxLen at hmx hmx2
  rcases hq : shB ls m with _ | _
  · rw [spnV_no1 hq]
    go_enter Try.func17, Try.ntmps17
    go_wp2_with (go_at_call 25; refine (shareOk_any a n cap ls m _ h).mono ?_; rw [hq]; rintro e w1 ⟨rfl, hb1⟩)
    go_ret
    exact ⟨rfl, hb1⟩
  · by_cases hne : n2 = n
    · subst hne
      obtain ⟨hjs, hm1, hm2⟩ := shB_t hq
      have ok := hjs.ok
      have hn := hjs.n
      obtain ⟨m, rfl⟩ : ∃ m' : Nat, m = m' := ⟨m.toNat, by omega⟩
      have hmk := run_makeM m (by omega)
      have hnn : ((n2 : Int) != (n2 : Int)) = false := by simp
      go_enter Try.func17, Try.ntmps17
      go_wp2_with (go_at_call 25; refine (shareOk_any a n2 cap ls m _ h).mono ?_; rw [hq]; rintro e w1 ⟨rfl, hb1⟩)
      clear hmk
      have bx1 : Below w1.heap.size w1 (w1.alloc (.cells (madeCells #[.int .i64 0] m) 2)) := box_below
      have HL0 : Hid (LdB (w1.alloc (.cells (madeCells #[.int .i64 0] m) 2)) w1.heap.size (List.replicate m 0)) := LdB.made w1 m
      have HB0 : Hid _ := hb1.then bx1 hb1.size
      have hws := hb1.size
      clear bx1
      go_loopw [8, 9, 25] (fun _ _ i wr => ∃ (k : Nat), k ≤ n2 ∧ i = .int .i64 k ∧ Hid (∀ i, i < k → inB (zg zs i) 0 ((m : Int) - 1) = true) ∧ Hid (LdB wr w1.heap.size (loadZ ls zs m k)) ∧ Hid (Below w.heap.size w wr)) (fun _ _ i _ => n2 - (intOf i).toNat)
      case atStart => exact ⟨0, by omega, rfl, fun i hi => by omega, HL0.out, HB0.out⟩
      case round =>
        obtain ⟨k, hk, rfl, HZ, HL, HB⟩ := hrel
        by_cases hlt : k < n2
        · obtain ⟨b, off, rfl, hbw, hat⟩ := h.at_ (by omega)
          obtain ⟨b2, off2, rfl, hbw2, hat2⟩ := (h2.below HB.out).at_ (by omega)
          obtain ⟨hc0, hc1, hc2, hc3, hc4, hc5, hc6⟩ := (hat.below HB.out hbw).job (i := k) (by omega)
          have hz := hat2 k hlt
          have hlt' : (k : Int) < (n2 : Int) := by omega
          have jb := jok_bd (ok k (by omega)).1
          rcases hr : inB (zg zs k) 0 ((m : Int) - 1) with _ | _
          · have hv := spnV_no3 (ls := ls) (zs := zs) (m := m) (k := k) (by omega) hr
            have HV : Hid _ := hv
            clear hv
            go_wp2_with (go_at_call 38; refine (within_any _ _ _ _).mono ?_; rw [hr]; rintro e w2 ⟨rfl, rfl⟩)
            go_ret
            exact ⟨by rw [HV.out]; rfl, HB.out⟩
          · have hr' := inB_iff.1 hr
            have HZ2 : Hid (∀ i, i < k + 1 → inB (zg zs i) 0 ((m : Int) - 1) = true) := fun i hi => by
              by_cases e : i = k
              · rw [e]; exact hr
              · exact HZ.out i (by omega)
            obtain ⟨q, hqz⟩ : ∃ q : Nat, zg zs k = q := ⟨(zg zs k).toNat, by omega⟩
            have HL1 : Hid (loadZ ls zs m (k + 1) = addAt (loadZ ls zs m k) q (jg ls k).long) := by
              unfold Hid; rw [loadZ, hqz]; simp
            rw [hqz] at hr hr' hz
            have hll := loadZ_len ls zs m k
            have lc := HL.out.cell (k := q) (by omega)
            have lf := HL.out.free q
            have lok := loadZ_ok (m := m) ok (zs := zs) k (by omega) HZ.out q
            rw [← zg_getD] at lok
            obtain ⟨v, hv⟩ : ∃ v, zg (loadZ ls zs m k) q = v := ⟨_, rfl⟩
            have HV : Hid _ := hv
            rw [hv] at lc lok
            obtain ⟨lo0, lo1⟩ := lok
            obtain ⟨hr0, hr1⟩ := hr'
            have hqm : (q : Int) < (m : Int) := by omega
            have hk40 : (k : Int) ≤ 40 := by omega
            clear hv hqz hll hat hat2
            go_wp2_with (go_at_call 38; refine (within_any _ _ _ _).mono ?_; rw [hr]; rintro e w2 ⟨rfl, rfl⟩)
            go_region
            have L3 : Hid (LdB (w2.setCell ⟨w1.heap.size, q, none⟩ (.int .i64 (v + (jg ls k).long))).drew w1.heap.size (loadZ ls zs m (k + 1))) := by
              have := HL.out.add q (jg ls k).long
              rw [HV.out, ← HL1.out] at this
              exact this
            have B3 : Hid (Below w.heap.size w (w2.setCell ⟨w1.heap.size, q, none⟩ (.int .i64 (v + (jg ls k).long))).drew) := (HB.out.setCell (by show w.heap.size ≤ w1.heap.size; omega) _).drew
            obtain ⟨w3, hw3⟩ : ∃ w3, (w2.setCell ⟨w1.heap.size, q, none⟩ (.int .i64 (v + (jg ls k).long))).drew = w3 := ⟨_, rfl⟩
            rw [hw3] at L3 B3 ⊢
            clear hw3 lc lf
            go_wp2
            go_roundw
            case rel => exact ⟨k + 1, by omega, by go_num, HZ2, L3, B3⟩
            case measure => simp [intOf]; omega
        · have e : k = n2 := by omega
          subst e
          have hv := spnV_yes (ls := ls) (zs := zs) (m := m) hq (by omega) (fun i hi => HZ.out i (by omega))
          have HV : Hid _ := hv
          have lok := loadZ_ok (m := m) ok (zs := zs) k (by omega) HZ.out
          have CM := slMost_any w1.heap.size m (loadZ ls zs m k) _ wr HL.out lok (by rw [loadZ_len]; omega) (by rw [loadZ_len]; omega) (by unfold maxLen; omega)
          rw [loadZ_len] at CM
          clear hv lok
          go_wp2_with (go_at_call 39; refine CM.mono ?_; rintro e w2 ⟨rfl, rfl⟩)
          go_ret
          exact ⟨by rw [HV.out, hlen]; rfl, HB.out⟩
    · have hnn : ((n2 : Int) != (n : Int)) = true := by simp; omega
      rw [spnV_no2 (by omega)]
      go_enter Try.func17, Try.ntmps17
      go_wp2_with (go_at_call 25; refine (shareOk_any a n cap ls m _ h).mono ?_; rw [hq]; rintro e w1 ⟨rfl, hb1⟩)
      go_ret
      exact ⟨rfl, hb1⟩

end Go.Proofs.Ytcomohobkjkhiaa

/- Span of the model. -/
namespace Go.Proofs.Ytcomohobkjkhiaa
open Go.RowKit Go.Sort

set_option maxRecDepth 8000 in
set_option maxHeartbeats 4000000 in
theorem specSpan_any (a a2 : Option Addr) (n cap n2 cap2 : Nat) (ls : List Jb) (zs : List Int) (m : Int) (w : World) (h : JobS w a n cap ls) (h2 : IntS w a2 n2 cap2 zs) :
    Calls Try.prog 18 #[.slice a n cap, .slice a2 n2 cap2, .int .i64 m] w fun e w' => e = .returned (.int .i64 (spnV ls zs m)) ∧ Below w.heap.size w w' := by
  have hlen := h.len
  have hlen2 := h2.len
  have hmx := h.mx
  have hle := h.le
  have hmx2 := h2.mx
  have hle2 := h2.le
  unfold maxLen at hmx hmx2
  rcases hq : shB ls m with _ | _
  · rw [spnV_no1 hq]
    unfold shB at hq
    rcases hj : jsB ls with _ | _
    · go_enter Try.func18, Try.ntmps18
      go_wp2_with (go_at_call 32; refine (specJobsOk_any a n cap ls _ h).mono ?_; rw [hj]; rintro e w1 ⟨rfl, hb1⟩)
      go_ret
      exact ⟨rfl, hb1⟩
    · rw [hj, Bool.true_and] at hq
      go_enter Try.func18, Try.ntmps18
      go_wp2_with (first
        | (go_at_call 32; refine (specJobsOk_any a n cap ls _ h).mono ?_; rw [hj]; rintro e w1 ⟨rfl, hb1⟩)
        | (go_at_call 33; refine (l1In_any _ _ _ _).mono ?_; rw [hq]; rintro e w2 ⟨rfl, rfl⟩))
      go_ret
      exact ⟨rfl, hb1⟩
  · have hjq := jsB_mk (shB_t hq).1
    have hin : inB m 1 10 = true := by obtain ⟨_, h1, h2⟩ := shB_t hq; unfold inB; simp; omega
    by_cases hne : n2 = n
    · subst hne
      obtain ⟨hjs, hm1, hm2⟩ := shB_t hq
      have ok := hjs.ok
      have hn := hjs.n
      obtain ⟨m, rfl⟩ : ∃ m' : Nat, m = m' := ⟨m.toNat, by omega⟩
      have hmk := run_makeM m (by omega)
      have hnn : ((n2 : Int) != (n2 : Int)) = false := by simp
      go_enter Try.func18, Try.ntmps18
      go_wp2_with (first
        | (go_at_call 32; refine (specJobsOk_any a n2 cap ls _ h).mono ?_; rw [hjq]; rintro e w0 ⟨rfl, hb1⟩)
        | (go_at_call 33; refine (l1In_any _ _ _ _).mono ?_; rw [hin]; rintro e w1 ⟨rfl, rfl⟩))
      clear hmk
      have bx1 : Below w1.heap.size w1 (w1.alloc (.cells (madeCells #[.int .i64 0] m) 2)) := box_below
      have HL0 : Hid (LdB (w1.alloc (.cells (madeCells #[.int .i64 0] m) 2)) w1.heap.size (List.replicate m 0)) := LdB.made w1 m
      have HB0 : Hid _ := hb1.then bx1 hb1.size
      have hws := hb1.size
      clear bx1
      go_loopw [8] (fun i wr => ∃ (k : Nat), k ≤ n2 ∧ i = .int .i64 k ∧ Hid (∀ i, i < k → inB (zg zs i) 0 ((m : Int) - 1) = true) ∧ Hid (LdB wr w1.heap.size (loadZ ls zs m k)) ∧ Hid (Below w.heap.size w wr)) (fun i _ => n2 - (intOf i).toNat)
      case atStart => exact ⟨0, by omega, rfl, fun i hi => by omega, HL0.out, HB0.out⟩
      case round =>
        obtain ⟨k, hk, rfl, HZ, HL, HB⟩ := hrel
        by_cases hlt : k < n2
        · obtain ⟨b, off, rfl, hbw, hat⟩ := h.at_ (by omega)
          obtain ⟨b2, off2, rfl, hbw2, hat2⟩ := (h2.below HB.out).at_ (by omega)
          obtain ⟨hc0, hc1, hc2, hc3, hc4, hc5, hc6⟩ := (hat.below HB.out hbw).job (i := k) (by omega)
          have hz := hat2 k hlt
          have hlt' : (k : Int) < (n2 : Int) := by omega
          have jb := jok_bd (ok k (by omega)).1
          rcases hr : inB (zg zs k) 0 ((m : Int) - 1) with _ | _
          · have hv := spnV_no3 (ls := ls) (zs := zs) (m := m) (k := k) (by omega) hr
            have HV : Hid _ := hv
            clear hv
            go_wp2_with (go_at_call 33; refine (l1In_any _ _ _ _).mono ?_; rw [hr]; rintro e w2 ⟨rfl, rfl⟩)
            go_ret
            exact ⟨by rw [HV.out]; rfl, HB.out⟩
          · have hr' := inB_iff.1 hr
            have HZ2 : Hid (∀ i, i < k + 1 → inB (zg zs i) 0 ((m : Int) - 1) = true) := fun i hi => by
              by_cases e : i = k
              · rw [e]; exact hr
              · exact HZ.out i (by omega)
            obtain ⟨q, hqz⟩ : ∃ q : Nat, zg zs k = q := ⟨(zg zs k).toNat, by omega⟩
            have HL1 : Hid (loadZ ls zs m (k + 1) = addAt (loadZ ls zs m k) q (jg ls k).long) := by
              unfold Hid; rw [loadZ, hqz]; simp
            rw [hqz] at hr hr' hz
            have hll := loadZ_len ls zs m k
            have lc := HL.out.cell (k := q) (by omega)
            have lf := HL.out.free q
            have lok := loadZ_ok (m := m) ok (zs := zs) k (by omega) HZ.out q
            rw [← zg_getD] at lok
            obtain ⟨v, hv⟩ : ∃ v, zg (loadZ ls zs m k) q = v := ⟨_, rfl⟩
            have HV : Hid _ := hv
            rw [hv] at lc lok
            obtain ⟨lo0, lo1⟩ := lok
            obtain ⟨hr0, hr1⟩ := hr'
            have hqm : (q : Int) < (m : Int) := by omega
            have hk40 : (k : Int) ≤ 40 := by omega
            clear hv hqz hll hat hat2
            go_wp2_with (go_at_call 33; refine (l1In_any _ _ _ _).mono ?_; rw [hr]; rintro e w2 ⟨rfl, rfl⟩)
            go_region
            have L3 : Hid (LdB (w2.setCell ⟨w1.heap.size, q, none⟩ (.int .i64 (v + (jg ls k).long))).drew w1.heap.size (loadZ ls zs m (k + 1))) := by
              have := HL.out.add q (jg ls k).long
              rw [HV.out, ← HL1.out] at this
              exact this
            have B3 : Hid (Below w.heap.size w (w2.setCell ⟨w1.heap.size, q, none⟩ (.int .i64 (v + (jg ls k).long))).drew) := (HB.out.setCell (by show w.heap.size ≤ w1.heap.size; omega) _).drew
            obtain ⟨w3, hw3⟩ : ∃ w3, (w2.setCell ⟨w1.heap.size, q, none⟩ (.int .i64 (v + (jg ls k).long))).drew = w3 := ⟨_, rfl⟩
            rw [hw3] at L3 B3 ⊢
            clear hw3 lc lf
            go_wp2
            go_roundw
            case rel => exact ⟨k + 1, by omega, by go_num, HZ2, L3, B3⟩
            case measure => simp [intOf]; omega
        · have e : k = n2 := by omega
          subst e
          have hv := spnV_yes (ls := ls) (zs := zs) (m := m) hq (by omega) (fun i hi => HZ.out i (by omega))
          have HV : Hid _ := hv
          have CM := l6Most_any w1.heap.size m (loadZ ls zs m k) wr HL.out (by rw [loadZ_len]; omega) (by unfold maxLen; omega)
          rw [loadZ_len] at CM
          clear hv
          go_wp2_with (go_at_call 40; refine CM.mono ?_; rintro e w2 ⟨rfl, rfl⟩)
          go_ret
          exact ⟨by rw [HV.out, hlen]; rfl, HB.out⟩
    · have hnn : ((n2 : Int) != (n : Int)) = true := by simp; omega
      rw [spnV_no2 (by omega)]
      go_enter Try.func18, Try.ntmps18
      go_wp2_with (first
        | (go_at_call 32; refine (specJobsOk_any a n cap ls _ h).mono ?_; rw [hjq]; rintro e w0 ⟨rfl, hb1⟩)
        | (go_at_call 33; refine (l1In_any _ _ _ _).mono ?_; rw [hin]; rintro e w1 ⟨rfl, rfl⟩))
      go_ret
      exact ⟨rfl, hb1⟩

end Go.Proofs.Ytcomohobkjkhiaa
