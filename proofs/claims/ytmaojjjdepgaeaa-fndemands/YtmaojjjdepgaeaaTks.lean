/- Several texts in one. -/
import Derived.Test.YtmaojjjdepgaeaaTaskQ
import Derived.Test.YtmaojjjdepgaeaaJobsOkI
/- TasksOk of the program: at most twelve, each a task, no two with one Id. -/
namespace Go.Proofs.Ytmaojjjdepgaeaa
open Go.RowKit Go.Sort

/-- a right job that is a task -/
def tok (j : Jb) : Bool := jok j && tk1 j
def tokTo (ls : List Jb) (k : Nat) : Prop := ∀ i, i < k → tok (jg ls i) = true ∧ ∀ h, h < i → (jg ls h).id ≠ (jg ls i).id
theorem tokTo_succ {ls : List Jb} {k : Nat} (h : tokTo ls k) (g : tok (jg ls k) = true) (d : ∀ h, h < k → (jg ls h).id ≠ (jg ls k).id) : tokTo ls (k + 1) := by
  intro i hi
  by_cases e : i = k
  · subst e; exact ⟨g, d⟩
  · exact h i (by omega)
theorem ts_no_ok {ls : List Jb} {k : Nat} (hk : k < ls.length) (h : tok (jg ls k) = false) : tsB ls = false := tsB_no fun p => by
  have h1 := (p.jobs.ok k hk).1
  have h2 := p.one k hk
  unfold tok at h; rw [h1, h2] at h; cases h
theorem ts_no_id {ls : List Jb} {k m : Nat} (hk : k < ls.length) (hm : m < k) (h : (jg ls m).id = (jg ls k).id) : tsB ls = false := tsB_no fun p => (p.jobs.ok k hk).2 m hm h
theorem ts_all {ls : List Jb} (hn : ls.length ≤ 12) (h : tokTo ls ls.length) : tsB ls = true := by
  have e : ∀ i, i < ls.length → jok (jg ls i) = true ∧ tk1 (jg ls i) = true := fun i hi => by
    have := (h i hi).1
    unfold tok at this
    simpa using this
  exact tsB_mk ⟨⟨by omega, fun i hi => ⟨(e i hi).1, (h i hi).2⟩⟩, hn, fun i hi => (e i hi).2⟩

set_option maxHeartbeats 1000000 in
theorem taskOk_any (x : Jb) (w : World) :
    Calls Try.prog 88 #[.agg #[.int .i64 x.id, .int .i64 x.cores, .int .i64 x.long, .int .i64 x.due, .int .i64 x.wt, .int .i64 x.rank, .int .i64 x.at_]] w fun e w' => e = .returned (.bool (tok x)) ∧ ∃ q os', w' = grow (w.drewN q) os' := by
  obtain ⟨W0, hW0⟩ : ∃ W0, W0 = w.alloc (.cells #[.int .i64 x.id, .int .i64 x.cores, .int .i64 x.long, .int .i64 x.due, .int .i64 x.wt, .int .i64 x.rank, .int .i64 x.at_] 49) := ⟨_, rfl⟩
  have HG : Hid (GrS w W0) := by unfold Hid; rw [hW0]; exact (GrS.refl w).alloc _
  have hl : w.heap.size < W0.heap.size := by rw [hW0]; simp
  have C2 : Hid (∀ W, GrS W0 W → W.cell? ⟨w.heap.size, 2, none⟩ = some (.int .i64 x.long)) := fun W h => (h.cell (a := ⟨w.heap.size, 2, none⟩) hl).trans (by rw [hW0]; simp)
  have C3 : Hid (∀ W, GrS W0 W → W.cell? ⟨w.heap.size, 3, none⟩ = some (.int .i64 x.due)) := fun W h => (h.cell (a := ⟨w.heap.size, 3, none⟩) hl).trans (by rw [hW0]; simp)
  have C6 : Hid (∀ W, GrS W0 W → W.cell? ⟨w.heap.size, 6, none⟩ = some (.int .i64 x.at_)) := fun W h => (h.cell (a := ⟨w.heap.size, 6, none⟩) hl).trans (by rw [hW0]; simp)
  have CJ := ok_job x W0
  rw [hW0] at CJ
  unfold tok tk1
  rcases hj : jok x with _ | _
  · rw [hj] at CJ
    go_enter Try.func88, Try.ntmps88
    go_wp2_with (go_at_call 111; refine CJ.mono ?_; rintro e w1 ⟨rfl, hg1⟩; rw [← hW0] at hg1; have HH : Hid (GrS w w1) := HG.out.trans hg1; clear hg1)
    go_ret
    exact ⟨rfl, HH.out⟩
  · rw [hj] at CJ
    by_cases d1 : x.at_ ≤ 200
    · by_cases d2 : x.due ≤ 200
      · rw [show (decide (x.at_ ≤ 200)) = true from decide_eq_true d1, show (decide (x.due ≤ 200)) = true from decide_eq_true d2]
        go_enter Try.func88, Try.ntmps88
        go_wp2_with (go_at_call 111; refine CJ.mono ?_; rintro e w1 ⟨rfl, hg1⟩; rw [← hW0] at hg1; have HH : Hid (GrS w w1) := HG.out.trans hg1; have c2 := C2.out _ hg1; have c3 := C3.out _ hg1; have c6 := C6.out _ hg1; clear hg1)
        go_ret
        exact ⟨rfl, HH.out⟩
      · rw [show (decide (x.at_ ≤ 200)) = true from decide_eq_true d1, show (decide (x.due ≤ 200)) = false from decide_eq_false d2]
        go_enter Try.func88, Try.ntmps88
        go_wp2_with (go_at_call 111; refine CJ.mono ?_; rintro e w1 ⟨rfl, hg1⟩; rw [← hW0] at hg1; have HH : Hid (GrS w w1) := HG.out.trans hg1; have c2 := C2.out _ hg1; have c3 := C3.out _ hg1; have c6 := C6.out _ hg1; clear hg1)
        go_ret
        exact ⟨rfl, HH.out⟩
    · rw [show (decide (x.at_ ≤ 200)) = false from decide_eq_false d1]
      go_enter Try.func88, Try.ntmps88
      go_wp2_with (go_at_call 111; refine CJ.mono ?_; rintro e w1 ⟨rfl, hg1⟩; rw [← hW0] at hg1; have HH : Hid (GrS w w1) := HG.out.trans hg1; have c2 := C2.out _ hg1; have c3 := C3.out _ hg1; have c6 := C6.out _ hg1; clear hg1)
      go_ret
      exact ⟨rfl, HH.out⟩

set_option maxRecDepth 8000 in
set_option maxHeartbeats 2000000 in
theorem fewUnlike_task (a : Option Addr) (n cap : Nat) (ls : List Jb) (w : World) (h : JobS w a n cap ls) (h12 : n ≤ 12) :
    Calls Try.prog 87 #[.slice a n cap, .func (.func 88) #[] #[], .func (.func 77) #[] #[]] w fun e w' => e = .returned (.bool (tsB ls)) ∧ Below w.heap.size w w' := by
  have hm := h.mx
  have hle := h.le
  have hlen := h.len
  unfold maxLen at hm
  have c1 : ¬ 40 < n := by omega
  obtain ⟨W1, hW1⟩ : ∃ W1, W1 = w.alloc (.cells #[.func (.func 77) #[] #[]] 78) := ⟨_, rfl⟩
  have B1 : Below w.heap.size w W1 := by rw [hW1]; exact box_below0
  have h1 := h.below B1
  have z1 : w.heap.size < W1.heap.size := by rw [hW1]; simp
  have f1 : W1.cell? ⟨w.heap.size, 0, none⟩ = some (.func (.func 77) #[] #[]) := by rw [hW1]; simp
  go_enter Try.func87, Try.ntmps87
  go_wp2
  rw [← hW1]
  clear hW1
  go_loopw [15] (fun i wr => ∃ k : Nat, k ≤ n ∧ i = .int .i64 k ∧ tokTo ls k ∧ Below W1.heap.size W1 wr) (fun i _ => n - (intOf i).toNat)
  case atStart => exact ⟨0, by omega, rfl, fun i hi => by omega, Below.refl _ _⟩
  case round =>
    obtain ⟨k, hk, rfl, hok, hw⟩ := hrel
    rename World => wr
    have hww : Below w.heap.size w wr := B1.then hw (by omega)
    by_cases hlt : k < n
    · obtain ⟨b, off, rfl, hbw, hat⟩ := h1.at_ (by omega)
      have Hj := (hat.below hw hbw).job (i := k) (by omega)
      obtain ⟨hc0, hc1, hc2, hc3, hc4, hc5, hc6⟩ := Hj
      have hlt' : (k : Int) < (n : Int) := by omega
      obtain ⟨W2, hW2⟩ : ∃ W2, W2 = wr.alloc (.cells #[.int .i64 (jg ls k).id, .int .i64 (jg ls k).cores, .int .i64 (jg ls k).long, .int .i64 (jg ls k).due, .int .i64 (jg ls k).wt, .int .i64 (jg ls k).rank, .int .i64 (jg ls k).at_] 49) := ⟨_, rfl⟩
      have B2 : Below wr.heap.size wr W2 := by rw [hW2]; exact box_below0
      have z2 : wr.heap.size < W2.heap.size := by rw [hW2]; simp
      have f2 : ∀ c, c < 7 → W2.cell? ⟨wr.heap.size, c, none⟩ = some (.int .i64 (jc (jg ls k) c)) := fun c hc => by
        rw [hW2]
        obtain rfl | rfl | rfl | rfl | rfl | rfl | rfl : c = 0 ∨ c = 1 ∨ c = 2 ∨ c = 3 ∨ c = 4 ∨ c = 5 ∨ c = 6 := by omega
        all_goals simp [jc]
      have fr : W2.cell? ⟨w.heap.size, 0, none⟩ = some (.func (.func 77) #[] #[]) := (B2.cell (p := ⟨w.heap.size, 0, none⟩) (by have := hw.size; simp; omega)).trans ((hw.cell (p := ⟨w.heap.size, 0, none⟩) (by simpa using z1)).trans f1)
      have HS : JobS W2 (some ⟨b, off, none⟩) k cap (ls.take k) := (h1.below (hw.then B2 hw.size)).pre (by omega)
      have hwe : Hid (∀ W, GrS W2 W → Below w.heap.size w W) := fun W hW => (hww.then B2 hww.size).then hW.below (by have := hww.size; have := B2.size; omega)
      have hwk : Hid (∀ W, GrS W2 W → Below W1.heap.size W1 W) := fun W hW => (hw.then B2 hw.size).then hW.below (by have := hw.size; have := B2.size; omega)
      have CN : ∀ W, GrS W2 W → Calls Try.prog 110 #[.slice (some ⟨b, off, none⟩) k cap, .func (.func 109) #[] #[.pointer (some ⟨w.heap.size, 0, none⟩), .pointer (some ⟨wr.heap.size, 0, none⟩)]] W fun e w' => e = .returned (.bool (jhas ls k (jg ls k).id)) ∧ ∃ q os', w' = grow (W.drewN q) os' := fun W hW => by
        rw [← jhas_pre]
        exact contains_job _ _ _ _ (jg ls k) _ _ _ (HS.below hW.below) ((hW.cell (a := ⟨w.heap.size, 0, none⟩) (by have := hw.size; simp; omega)).trans fr) (fun c hc => (hW.cell (a := ⟨wr.heap.size, c, none⟩) z2).trans (f2 c hc))
      have hkc : (k : Int) ≤ (cap : Int) := by omega
      have hk0 : (0 : Int) ≤ (k : Int) := by omega
      clear f1 f2 fr HS hat hbw h1
      rcases hj : tok (jg ls k) with _ | _
      · have E := ts_no_ok (by omega) hj
        have CJ : ∀ W, Calls Try.prog 88 #[.agg #[.int .i64 (jg ls k).id, .int .i64 (jg ls k).cores, .int .i64 (jg ls k).long, .int .i64 (jg ls k).due, .int .i64 (jg ls k).wt, .int .i64 (jg ls k).rank, .int .i64 (jg ls k).at_]] W fun e w' => e = .returned (.bool false) ∧ ∃ q os', w' = grow (W.drewN q) os' := fun W => by have := taskOk_any (jg ls k) W; rwa [hj] at this
        clear hj CN
        go_wp2_with (first | (go_at_call 88; refine (CJ _).mono ?_; rintro e w3 ⟨rfl, hg3⟩; rw [← hW2] at hg3))
        go_ret
        exact ⟨by rw [E]; rfl, hwe.out _ hg3⟩
      · have HJ : Hid (tok (jg ls k) = true) := hj
        have CJ : ∀ W, Calls Try.prog 88 #[.agg #[.int .i64 (jg ls k).id, .int .i64 (jg ls k).cores, .int .i64 (jg ls k).long, .int .i64 (jg ls k).due, .int .i64 (jg ls k).wt, .int .i64 (jg ls k).rank, .int .i64 (jg ls k).at_]] W fun e w' => e = .returned (.bool true) ∧ ∃ q os', w' = grow (W.drewN q) os' := fun W => by have := taskOk_any (jg ls k) W; rwa [hj] at this
        clear hj
        rcases hh : jhas ls k (jg ls k).id with _ | _
        · have HN : Hid (∀ i, i < k → (jg ls i).id ≠ (jg ls k).id) := jhas_f hh
          rw [hh] at CN
          clear hh
          go_wp2_with (first | (go_at_call 88; refine (CJ _).mono ?_; rintro e w3 ⟨rfl, hg3⟩; rw [← hW2] at hg3) | (go_at_call 110; refine (CN _ hg3).mono ?_; rintro e w4 ⟨rfl, hg4⟩))
          go_roundw
          case rel => exact ⟨k + 1, by omega, by go_num, tokTo_succ hok HJ.out HN.out, hwk.out _ (GrS.trans hg3 hg4)⟩
          case measure => simp [intOf]; omega
        · obtain ⟨m, hmk, hid⟩ := jhas_t hh
          have E := ts_no_id (by omega) hmk hid
          rw [hh] at CN
          clear hh hid
          go_wp2_with (first | (go_at_call 88; refine (CJ _).mono ?_; rintro e w3 ⟨rfl, hg3⟩; rw [← hW2] at hg3) | (go_at_call 110; refine (CN _ hg3).mono ?_; rintro e w4 ⟨rfl, hg4⟩))
          go_ret
          exact ⟨by rw [E]; rfl, hwe.out _ (GrS.trans hg3 hg4)⟩
    · have e : k = n := by omega
      subst e
      go_wp2
      go_ret
      exact ⟨by rw [ts_all (by omega) (by rw [hlen]; exact hok)]; rfl, hww⟩

theorem implTasksOk_any (a : Option Addr) (n cap : Nat) (ls : List Jb) (w : World) (h : JobS w a n cap ls) :
    Calls Try.prog 39 #[.slice a n cap] w fun e w' => e = .returned (.bool (tsB ls)) ∧ Below w.heap.size w w' := by
  have hlen := h.len
  by_cases c : n ≤ 12
  · have c' : (n : Int) ≤ 12 := by omega
    have CF := fewUnlike_task a n cap ls w h c
    go_enter Try.func39, Try.ntmps39
    go_wp2_with (go_at_call 87; refine CF.mono ?_; rintro e w1 ⟨rfl, hb1⟩)
    go_ret
    exact ⟨rfl, hb1⟩
  · have c' : ¬ (n : Int) ≤ 12 := by omega
    have E : Hid (tsB ls = false) := tsB_no fun p => by have := p.n; omega
    go_enter Try.func39, Try.ntmps39
    go_wp2
    go_ret
    exact ⟨by rw [E.out]; rfl, Below.refl _ _⟩

end Go.Proofs.Ytmaojjjdepgaeaa

/- Demand of the program. -/
namespace Go.Proofs.Ytmaojjjdepgaeaa
open Go.RowKit Go.Sort

set_option maxHeartbeats 2000000 in
theorem implDemand_any (a : Option Addr) (n cap : Nat) (ls : List Jb) (x y : Int) (w : World) (h : JobS w a n cap ls) :
    Calls Try.prog 37 #[.slice a n cap, .int .i64 x, .int .i64 y] w fun e w' => e = .returned (.int .i64 (demF ls x y)) ∧ Below w.heap.size w w' := by
  rcases hq : tsB ls with _ | _
  · rw [demF_f hq]
    go_enter Try.func37, Try.ntmps37
    go_wp2_with (go_at_call 39; refine (implTasksOk_any _ _ _ _ _ h).mono ?_; rw [hq]; rintro e w1 ⟨rfl, hb1⟩)
    go_ret
    exact ⟨rfl, hb1⟩
  rw [demF_t hq]
  have ho := tsB_t hq
  have hm := h.mx
  have hle := h.le
  have hlen := h.len
  have hn := ho.n
  unfold maxLen at hm
  go_enter Try.func37, Try.ntmps37
  go_wp2_with (go_at_call 39; refine (implTasksOk_any _ _ _ _ _ h).mono ?_; rw [hq]; rintro e w1 ⟨rfl, hb1⟩)
  have h1 := h.below hb1
  go_loopw [7, 9, 15] (fun s _ i wr => ∃ k : Nat, k ≤ n ∧ i = .int .i64 k ∧ s = .int .i64 (demK ls x y k) ∧ Below w.heap.size w wr) (fun _ _ i _ => n - (intOf i).toNat)
  case atStart => exact ⟨0, by omega, rfl, rfl, hb1⟩
  case round =>
    obtain ⟨k, hk, rfl, rfl, hw⟩ := hrel
    rename World => wr
    obtain ⟨b0, b1⟩ := demK_bd ho x y k (by omega)
    by_cases hlt : k < n
    · obtain ⟨b, off, rfl, hbw, hat⟩ := h.at_ (by omega)
      obtain ⟨hc0, hc1, hc2, hc3, hc4, hc5, hc6⟩ := (hat.below hw hbw).job (i := k) (by omega)
      have hlt' : (k : Int) < (n : Int) := by omega
      obtain ⟨t0, t1, t2, t3, t4, t5, _⟩ := ho.bd (i := k) (by omega)
      have ST := demK_succ ls x y k
      have HW : Hid (∀ o, Below w.heap.size w (wr.alloc o)) := fun o => hw.alloc hw.size _
      by_cases d1 : x ≤ (jg ls k).at_
      · by_cases d2 : (jg ls k).due ≤ y
        · rw [if_pos ⟨d1, d2⟩] at ST
          have HS : Hid _ := ST
          clear ST hat
          go_wp2
          go_roundw
          case rel => exact ⟨k + 1, by omega, by go_num, by rw [HS.out], HW.out _⟩
          case measure => simp [intOf]; omega
        · rw [if_neg (fun h9 => d2 h9.2)] at ST
          have HS : Hid _ := ST
          clear ST hat
          go_wp2
          go_roundw
          case rel => exact ⟨k + 1, by omega, by go_num, by rw [HS.out, Int.add_zero], HW.out _⟩
          case measure => simp [intOf]; omega
      · rw [if_neg (fun h9 => d1 h9.1)] at ST
        have HS : Hid _ := ST
        clear ST hat
        go_wp2
        go_roundw
        case rel => exact ⟨k + 1, by omega, by go_num, by rw [HS.out, Int.add_zero], HW.out _⟩
        case measure => simp [intOf]; omega
    · have e : k = n := by omega
      subst e
      have HE : Hid (demK ls x y k = demV ls x y) := by unfold demV; rw [hlen]; rfl
      go_wp2
      go_ret
      exact ⟨by rw [HE.out]; rfl, hw⟩

end Go.Proofs.Ytmaojjjdepgaeaa
