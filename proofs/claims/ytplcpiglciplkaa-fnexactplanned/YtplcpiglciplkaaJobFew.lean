/- At most forty, each right, no two with one Id: the program's look at them, a function of any type, by a closure; at jobs. -/
import Derived.Test.YtplcpiglciplkaaJobsOkS
import Derived.Test.YtplcpiglciplkaaCmp
import Derived.Shelf.SlSortCmp.QuietGrown
namespace Go.Proofs.Ytplcpiglciplkaa
open Go.RowKit Go.Sort

/-- is there one with this id among the first n? -/
def jhas (ls : List Jb) (n : Nat) (id : Int) : Bool := (List.range n).any fun i => cmpI id (jg ls i).id == 0
theorem jhas_t {ls : List Jb} {n : Nat} {id : Int} (h : jhas ls n id = true) : ∃ i, i < n ∧ (jg ls i).id = id := by
  obtain ⟨i, hi, h1⟩ := List.any_eq_true.1 h
  exact ⟨i, by simpa using hi, (cmpI_zero.1 (by simpa using h1)).symm⟩
theorem jhas_f {ls : List Jb} {n : Nat} {id : Int} (h : jhas ls n id = false) : ∀ i, i < n → (jg ls i).id ≠ id := by
  intro i hi e
  have := List.any_eq_false.1 h i (by simpa using hi)
  exact this (by simpa using cmpI_zero.2 e.symm)
theorem jhas_mk {ls : List Jb} {n i : Nat} {id : Int} (hi : i < n) (e : (jg ls i).id = id) : jhas ls n id = true :=
  List.any_eq_true.2 ⟨i, by simpa using hi, by simpa using cmpI_zero.2 e.symm⟩
theorem jhas_no {ls : List Jb} {n : Nat} {id : Int} (h : ∀ i, i < n → (jg ls i).id ≠ id) : jhas ls n id = false := by
  rw [Bool.eq_false_iff]; intro h1
  obtain ⟨i, hi, h2⟩ := jhas_t h1
  exact h i hi h2
theorem jhas_pre {ls : List Jb} {k : Nat} {id : Int} : jhas (ls.take k) k id = jhas ls k id := by
  have e : ∀ i, i < k → jg (ls.take k) i = jg ls i := fun i hi => by simp [jg, hi]
  rcases h : jhas ls k id with _ | _
  · exact jhas_no fun i hi => by rw [e i hi]; exact jhas_f h i hi
  · obtain ⟨i, hi, h2⟩ := jhas_t h
    exact jhas_mk hi (by rw [e i hi]; exact h2)

theorem byId_job (x y : Jb) (w : World) :
    Calls Try.prog 101 #[.agg #[.int .i64 x.id, .int .i64 x.cores, .int .i64 x.long, .int .i64 x.due, .int .i64 x.wt, .int .i64 x.rank, .int .i64 x.at_], .agg #[.int .i64 y.id, .int .i64 y.cores, .int .i64 y.long, .int .i64 y.due, .int .i64 y.wt, .int .i64 y.rank, .int .i64 y.at_]] w fun e w' => e = .returned (.int .i64 (cmpI x.id y.id)) ∧ ∃ q os', w' = grow (w.drewN q) os' := by
  have hw : ∀ A B, GrS w ((w.alloc A).alloc B) := fun A B => ((GrS.refl w).alloc A).alloc B
  go_enter Try.func101, Try.ntmps101
  go_wp2_with (go_at_call 109; refine (compare_any _ _ _).mono ?_; rintro e w' ⟨rfl, rfl⟩)
  go_ret
  exact ⟨rfl, hw _ _⟩

set_option maxHeartbeats 1000000 in
theorem same_job (one oth : Jb) (B1 B2 : Nat) (w : World) (h1 : w.cell? ⟨B1, 0, none⟩ = some (.func (.func 101) #[] #[])) (h2 : ∀ c, c < 7 → w.cell? ⟨B2, c, none⟩ = some (.int .i64 (jc one c))) :
    Calls Try.prog 107 #[.agg #[.int .i64 oth.id, .int .i64 oth.cores, .int .i64 oth.long, .int .i64 oth.due, .int .i64 oth.wt, .int .i64 oth.rank, .int .i64 oth.at_], .pointer (some ⟨B1, 0, none⟩), .pointer (some ⟨B2, 0, none⟩)] w fun e w' => e = .returned (.bool (cmpI one.id oth.id == 0)) ∧ ∃ q os', w' = grow (w.drewN q) os' := by
  obtain ⟨W0, hW0⟩ : ∃ W0, W0 = w.alloc (.cells #[.int .i64 oth.id, .int .i64 oth.cores, .int .i64 oth.long, .int .i64 oth.due, .int .i64 oth.wt, .int .i64 oth.rank, .int .i64 oth.at_] 44) := ⟨_, rfl⟩
  have l1 : B1 < w.heap.size := World.block_lt_of_cell? w _ h1
  have l2 : B2 < w.heap.size := World.block_lt_of_cell? w _ (h2 0 (by omega))
  have hl1 : B1 < W0.heap.size := by rw [hW0]; simp; omega
  have hl2 : B2 < W0.heap.size := by rw [hW0]; simp; omega
  have hl3 : w.heap.size < W0.heap.size := by rw [hW0]; simp
  have HG : Hid (GrS w W0) := by unfold Hid; rw [hW0]; exact (GrS.refl w).alloc _
  have b0 : ∀ b o, b < w.heap.size → W0.cell? ⟨b, o, none⟩ = w.cell? ⟨b, o, none⟩ := fun b o hb => by rw [hW0]; exact World.cell?_alloc_lt _ _ _ hb
  have R0 : W0.cell? ⟨B1, 0, none⟩ = some (.func (.func 101) #[] #[]) := ((b0 B1 0 l1).trans h1)
  have P0 : W0.cell? ⟨B2, 0, none⟩ = some (.int .i64 one.id) := ((b0 B2 0 l2).trans (h2 0 (by omega)))
  have P1 : W0.cell? ⟨B2, 1, none⟩ = some (.int .i64 one.cores) := ((b0 B2 1 l2).trans (h2 1 (by omega)))
  have P2 : W0.cell? ⟨B2, 2, none⟩ = some (.int .i64 one.long) := ((b0 B2 2 l2).trans (h2 2 (by omega)))
  have P3 : W0.cell? ⟨B2, 3, none⟩ = some (.int .i64 one.due) := ((b0 B2 3 l2).trans (h2 3 (by omega)))
  have P4 : W0.cell? ⟨B2, 4, none⟩ = some (.int .i64 one.wt) := ((b0 B2 4 l2).trans (h2 4 (by omega)))
  have P5 : W0.cell? ⟨B2, 5, none⟩ = some (.int .i64 one.rank) := ((b0 B2 5 l2).trans (h2 5 (by omega)))
  have P6 : W0.cell? ⟨B2, 6, none⟩ = some (.int .i64 one.at_) := ((b0 B2 6 l2).trans (h2 6 (by omega)))
  have Q0 : W0.cell? ⟨w.heap.size, 0, none⟩ = some (.int .i64 oth.id) := (by rw [hW0]; simp)
  have Q1 : W0.cell? ⟨w.heap.size, 1, none⟩ = some (.int .i64 oth.cores) := (by rw [hW0]; simp)
  have Q2 : W0.cell? ⟨w.heap.size, 2, none⟩ = some (.int .i64 oth.long) := (by rw [hW0]; simp)
  have Q3 : W0.cell? ⟨w.heap.size, 3, none⟩ = some (.int .i64 oth.due) := (by rw [hW0]; simp)
  have Q4 : W0.cell? ⟨w.heap.size, 4, none⟩ = some (.int .i64 oth.wt) := (by rw [hW0]; simp)
  have Q5 : W0.cell? ⟨w.heap.size, 5, none⟩ = some (.int .i64 oth.rank) := (by rw [hW0]; simp)
  have Q6 : W0.cell? ⟨w.heap.size, 6, none⟩ = some (.int .i64 oth.at_) := (by rw [hW0]; simp)
  clear h1 h2 b0
  subst hW0
  go_enter Try.func107, Try.ntmps107
  go_wp2_with (go_at_call 101; refine (byId_job one oth _).mono ?_; rintro e w' ⟨rfl, hg'⟩)
  go_ret
  exact ⟨rfl, HG.out.trans hg'⟩

set_option maxHeartbeats 1000000 in
theorem index_job (a : Option Addr) (n cap : Nat) (ls : List Jb) (one : Jb) (B1 B2 : Nat) (w : World) (h : JobS w a n cap ls) (h1 : w.cell? ⟨B1, 0, none⟩ = some (.func (.func 101) #[] #[])) (h2 : ∀ c, c < 7 → w.cell? ⟨B2, c, none⟩ = some (.int .i64 (jc one c))) :
    Calls Try.prog 114 #[.slice a n cap, .func (.func 107) #[] #[.pointer (some ⟨B1, 0, none⟩), .pointer (some ⟨B2, 0, none⟩)]] w
      fun e w' => ∃ r : Int, e = .returned (.int .i64 r) ∧ -1 ≤ r ∧ (0 ≤ r ↔ jhas ls n one.id = true) ∧ GrS w w' := by
  have hm := h.mx
  have hle := h.le
  have hlen := h.len
  unfold maxLen at hm
  have l1 : B1 < w.heap.size := World.block_lt_of_cell? w _ h1
  have l2 : B2 < w.heap.size := World.block_lt_of_cell? w _ (h2 0 (by omega))
  go_enter Try.func114, Try.ntmps114
  go_wp2
  go_loopw [8] (fun i wr => ∃ k : Nat, k ≤ n ∧ i = .int .i64 k ∧ (∀ m, m < k → (jg ls m).id ≠ one.id) ∧ GrS w wr) (fun i _ => n - (intOf i).toNat)
  case atStart => exact ⟨0, by omega, rfl, fun m hm => by omega, GrS.refl _⟩
  case round =>
    obtain ⟨k, hk, rfl, hno, hwr⟩ := hrel
    rename World => wr
    have hbel : Below w.heap.size w wr := hwr.below
    have h1r : wr.cell? ⟨B1, 0, none⟩ = some (.func (.func 101) #[] #[]) := (hwr.cell (a := ⟨B1, 0, none⟩) l1).trans h1
    have h2r : ∀ c, c < 7 → wr.cell? ⟨B2, c, none⟩ = some (.int .i64 (jc one c)) := fun c hc => (hwr.cell (a := ⟨B2, c, none⟩) l2).trans (h2 c hc)
    by_cases hlt : k < n
    · obtain ⟨b, off, rfl, hbw, hat⟩ := h.at_ (by omega)
      have Hj := (hat.below hbel hbw).job (i := k) (by omega)
      obtain ⟨hc0, hc1, hc2, hc3, hc4, hc5, hc6⟩ := Hj
      have hlt' : (k : Int) < (n : Int) := by omega
      clear hbel
      by_cases hc : (jg ls k).id = one.id
      · have hc' : (cmpI one.id (jg ls k).id == 0) = true := by simpa using cmpI_zero.2 hc.symm
        have HC : Hid ((jg ls k).id = one.id) := hc
        clear hc
        go_wp2_with (go_at_call 107; refine (same_job one (jg ls k) B1 B2 _ h1r h2r).mono ?_; rw [hc']; rintro e w' ⟨rfl, hg'⟩)
        go_ret
        exact ⟨_, rfl, by omega, ⟨fun _ => jhas_mk hlt HC.out, fun _ => by omega⟩, hwr.trans hg'⟩
      · have hc' : (cmpI one.id (jg ls k).id == 0) = false := by
          rw [Bool.eq_false_iff]; intro h9; exact hc (cmpI_zero.1 (by simpa using h9)).symm
        go_wp2_with (go_at_call 107; refine (same_job one (jg ls k) B1 B2 _ h1r h2r).mono ?_; rw [hc']; rintro e w' ⟨rfl, hg'⟩)
        go_roundw
        case rel => exact ⟨k + 1, by omega, by go_num, fun m hm => by (by_cases e : m = k; (subst e; exact hc); exact hno m (by omega)), hwr.trans hg'⟩
        case measure => simp [intOf]; omega
    · have e : k = n := by omega
      subst e
      go_wp2
      go_ret
      exact ⟨_, rfl, by omega, ⟨fun h9 => by omega, fun h9 => by rw [jhas_no hno] at h9; cases h9⟩, hwr⟩

set_option maxHeartbeats 1000000 in
theorem contains_job (a : Option Addr) (n cap : Nat) (ls : List Jb) (one : Jb) (B1 B2 : Nat) (w : World) (h : JobS w a n cap ls) (h1 : w.cell? ⟨B1, 0, none⟩ = some (.func (.func 101) #[] #[])) (h2 : ∀ c, c < 7 → w.cell? ⟨B2, c, none⟩ = some (.int .i64 (jc one c))) :
    Calls Try.prog 108 #[.slice a n cap, .func (.func 107) #[] #[.pointer (some ⟨B1, 0, none⟩), .pointer (some ⟨B2, 0, none⟩)]] w
      fun e w' => e = .returned (.bool (jhas ls n one.id)) ∧ ∃ q os', w' = grow (w.drewN q) os' := by
  have HI := index_job a n cap ls one B1 B2 w h h1 h2
  clear h1 h2
  rcases hh : jhas ls n one.id with _ | _
  · rw [hh] at HI
    go_enter Try.func108, Try.ntmps108
    go_wp2_with (go_at_call 114; refine HI.mono ?_; rintro e w' ⟨r, rfl, hr, hi, hg⟩; have hr0 : ¬ 0 ≤ r := fun h9 => nomatch hi.1 h9)
    go_ret
    exact ⟨by first | rfl | (congr 2; simpa using hr0), hg⟩
  · rw [hh] at HI
    go_enter Try.func108, Try.ntmps108
    go_wp2_with (go_at_call 114; refine HI.mono ?_; rintro e w' ⟨r, rfl, hr, hi, hg⟩; have hr0 : 0 ≤ r := hi.2 rfl)
    go_ret
    exact ⟨by first | rfl | (congr 2; simpa using hr0), hg⟩

set_option maxRecDepth 8000 in
set_option maxHeartbeats 2000000 in
theorem fewUnlike_job (a : Option Addr) (n cap : Nat) (ls : List Jb) (w : World) (h : JobS w a n cap ls) :
    Calls Try.prog 99 #[.slice a n cap, .func (.func 100) #[] #[], .func (.func 101) #[] #[]] w fun e w' => e = .returned (.bool (jsB ls)) ∧ Below w.heap.size w w' := by
  have hm := h.mx
  have hle := h.le
  have hlen := h.len
  unfold maxLen at hm
  by_cases c1 : 40 < n
  · rw [jsB_no fun p => by have := p.n; omega]
    go_enter Try.func99, Try.ntmps99
    go_wp2
    go_ret
    exact ⟨rfl, box_below0⟩
  · obtain ⟨W1, hW1⟩ : ∃ W1, W1 = w.alloc (.cells #[.func (.func 101) #[] #[]] 119) := ⟨_, rfl⟩
    have B1 : Below w.heap.size w W1 := by rw [hW1]; exact box_below0
    have h1 := h.below B1
    have z1 : w.heap.size < W1.heap.size := by rw [hW1]; simp
    have f1 : W1.cell? ⟨w.heap.size, 0, none⟩ = some (.func (.func 101) #[] #[]) := by rw [hW1]; simp
    go_enter Try.func99, Try.ntmps99
    go_wp2
    rw [← hW1]
    clear hW1
    go_loopw [15] (fun i wr => ∃ k : Nat, k ≤ n ∧ i = .int .i64 k ∧ jokTo ls k ∧ Below W1.heap.size W1 wr) (fun i _ => n - (intOf i).toNat)
    case atStart => exact ⟨0, by omega, rfl, fun i hi => by omega, Below.refl _ _⟩
    case round =>
      obtain ⟨k, hk, rfl, hok, hw⟩ := hrel
      rename World => wr
      have hww : Below w.heap.size w wr := B1.then hw (by omega)
      by_cases hlt : k < n
      · obtain ⟨b, off, rfl, hbw, hat⟩ := h1.at_ (by omega)
        have Hj := (hat.below hw hbw).job (i := k) (by omega)
        obtain ⟨hc0, hc1, hc2, hc3, hc4, hc5, hc6⟩ := Hj
        have hlt' : (k : Int) < (n : Int) := by omega
        obtain ⟨W2, hW2⟩ : ∃ W2, W2 = wr.alloc (.cells #[.int .i64 (jg ls k).id, .int .i64 (jg ls k).cores, .int .i64 (jg ls k).long, .int .i64 (jg ls k).due, .int .i64 (jg ls k).wt, .int .i64 (jg ls k).rank, .int .i64 (jg ls k).at_] 44) := ⟨_, rfl⟩
        have B2 : Below wr.heap.size wr W2 := by rw [hW2]; exact box_below0
        have z2 : wr.heap.size < W2.heap.size := by rw [hW2]; simp
        have f2 : ∀ c, c < 7 → W2.cell? ⟨wr.heap.size, c, none⟩ = some (.int .i64 (jc (jg ls k) c)) := fun c hc => by
          rw [hW2]
          obtain rfl | rfl | rfl | rfl | rfl | rfl | rfl : c = 0 ∨ c = 1 ∨ c = 2 ∨ c = 3 ∨ c = 4 ∨ c = 5 ∨ c = 6 := by omega
          all_goals simp [jc]
        have fr : W2.cell? ⟨w.heap.size, 0, none⟩ = some (.func (.func 101) #[] #[]) := (B2.cell (p := ⟨w.heap.size, 0, none⟩) (by have := hw.size; simp; omega)).trans ((hw.cell (p := ⟨w.heap.size, 0, none⟩) (by simpa using z1)).trans f1)
        have HS : JobS W2 (some ⟨b, off, none⟩) k cap (ls.take k) := (h1.below (hw.then B2 hw.size)).pre (by omega)
        have hwe : Hid (∀ W, GrS W2 W → Below w.heap.size w W) := fun W hW => (hww.then B2 hww.size).then hW.below (by have := hww.size; have := B2.size; omega)
        have hwk : Hid (∀ W, GrS W2 W → Below W1.heap.size W1 W) := fun W hW => (hw.then B2 hw.size).then hW.below (by have := hw.size; have := B2.size; omega)
        have CN : ∀ W, GrS W2 W → Calls Try.prog 108 #[.slice (some ⟨b, off, none⟩) k cap, .func (.func 107) #[] #[.pointer (some ⟨w.heap.size, 0, none⟩), .pointer (some ⟨wr.heap.size, 0, none⟩)]] W fun e w' => e = .returned (.bool (jhas ls k (jg ls k).id)) ∧ ∃ q os', w' = grow (W.drewN q) os' := fun W hW => by
          rw [← jhas_pre]
          exact contains_job _ _ _ _ (jg ls k) _ _ _ (HS.below hW.below) ((hW.cell (a := ⟨w.heap.size, 0, none⟩) (by have := hw.size; simp; omega)).trans fr) (fun c hc => (hW.cell (a := ⟨wr.heap.size, c, none⟩) z2).trans (f2 c hc))
        have hkc : (k : Int) ≤ (cap : Int) := by omega
        have hk0 : (0 : Int) ≤ (k : Int) := by omega
        clear f1 f2 fr HS hat hbw h1
        rcases hj : jok (jg ls k) with _ | _
        · have E := js_no_ok (by omega) hj
          have CJ : ∀ W, Calls Try.prog 100 #[.agg #[.int .i64 (jg ls k).id, .int .i64 (jg ls k).cores, .int .i64 (jg ls k).long, .int .i64 (jg ls k).due, .int .i64 (jg ls k).wt, .int .i64 (jg ls k).rank, .int .i64 (jg ls k).at_]] W fun e w' => e = .returned (.bool false) ∧ ∃ q os', w' = grow (W.drewN q) os' := fun W => by have := ok_job (jg ls k) W; rwa [hj] at this
          clear hj CN
          go_wp2_with (first | (go_at_call 100; refine (CJ _).mono ?_; rintro e w3 ⟨rfl, hg3⟩; rw [← hW2] at hg3))
          go_ret
          exact ⟨by rw [E]; rfl, hwe.out _ hg3⟩
        · have HJ : Hid (jok (jg ls k) = true) := hj
          have CJ : ∀ W, Calls Try.prog 100 #[.agg #[.int .i64 (jg ls k).id, .int .i64 (jg ls k).cores, .int .i64 (jg ls k).long, .int .i64 (jg ls k).due, .int .i64 (jg ls k).wt, .int .i64 (jg ls k).rank, .int .i64 (jg ls k).at_]] W fun e w' => e = .returned (.bool true) ∧ ∃ q os', w' = grow (W.drewN q) os' := fun W => by have := ok_job (jg ls k) W; rwa [hj] at this
          clear hj
          rcases hh : jhas ls k (jg ls k).id with _ | _
          · have HN : Hid (∀ i, i < k → (jg ls i).id ≠ (jg ls k).id) := jhas_f hh
            rw [hh] at CN
            clear hh
            go_wp2_with (first | (go_at_call 100; refine (CJ _).mono ?_; rintro e w3 ⟨rfl, hg3⟩; rw [← hW2] at hg3) | (go_at_call 108; refine (CN _ hg3).mono ?_; rintro e w4 ⟨rfl, hg4⟩))
            go_roundw
            case rel => exact ⟨k + 1, by omega, by go_num, jokTo_succ hok HJ.out HN.out, hwk.out _ (GrS.trans hg3 hg4)⟩
            case measure => simp [intOf]; omega
          · obtain ⟨m, hmk, hid⟩ := jhas_t hh
            have E := js_no_id (by omega) hmk hid
            rw [hh] at CN
            clear hh hid
            go_wp2_with (first | (go_at_call 100; refine (CJ _).mono ?_; rintro e w3 ⟨rfl, hg3⟩; rw [← hW2] at hg3) | (go_at_call 108; refine (CN _ hg3).mono ?_; rintro e w4 ⟨rfl, hg4⟩))
            go_ret
            exact ⟨by rw [E]; rfl, hwe.out _ (GrS.trans hg3 hg4)⟩
      · have e : k = n := by omega
        subst e
        go_wp2
        go_ret
        exact ⟨by rw [jsB_mk ⟨by omega, by rw [hlen]; exact hok⟩]; rfl, hww⟩

end Go.Proofs.Ytplcpiglciplkaa
