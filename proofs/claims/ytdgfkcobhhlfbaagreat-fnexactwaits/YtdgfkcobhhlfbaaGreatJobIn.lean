/- Jobs in memory: how a slice of jobs lies there, and the contracts of the laws' own helpers over it. -/
import Derived.Test.YtdgfkcobhhlfbaaGreatRows
import Derived.Test.YtdgfkcobhhlfbaaGreatJob
import Derived.Test.YtdgfkcobhhlfbaaGreatMem
import Derived.WalkKit
import Derived.WalkLawsBesides
import Derived.Deep.LoopGhost
import Derived.Deep.RegionWith
import Derived.BigQuiet
import Derived.Deep.QuietTactic
namespace Go.Proofs.YtdgfkcobhhlfbaaGreat
open Go.RowKit

/-- a job's cells as values -/
def jl (j : Jb) : List Value := [.int .i64 j.id, .int .i64 j.cores, .int .i64 j.long, .int .i64 j.due, .int .i64 j.wt, .int .i64 j.rank, .int .i64 j.at_]

/-- from ⟨b, off⟩ on lie the jobs ls -/
def JobAt (w : World) (b off : Nat) (ls : List Jb) : Prop :=
  ∀ i, i < ls.length → ∀ c, c < 7 → w.cell? ⟨b, off + i * 7 + c, none⟩ = some (.int .i64 (jc (jg ls i) c))

/-- job number i lies at ⟨b, o⟩ -/
def Job1 (w : World) (b o : Nat) (j : Jb) : Prop := w.cell? ⟨b, o, none⟩ = some (.int .i64 j.id) ∧ w.cell? ⟨b, o + 1, none⟩ = some (.int .i64 j.cores) ∧ w.cell? ⟨b, o + 2, none⟩ = some (.int .i64 j.long) ∧ w.cell? ⟨b, o + 3, none⟩ = some (.int .i64 j.due) ∧ w.cell? ⟨b, o + 4, none⟩ = some (.int .i64 j.wt) ∧ w.cell? ⟨b, o + 5, none⟩ = some (.int .i64 j.rank) ∧ w.cell? ⟨b, o + 6, none⟩ = some (.int .i64 j.at_)

theorem JobAt.job {w : World} {b off : Nat} {ls : List Jb} (h : JobAt w b off ls) {i : Nat} (hi : i < ls.length) : Job1 w b (off + i * 7) (jg ls i) :=
  ⟨h i hi 0 (by omega), h i hi 1 (by omega), h i hi 2 (by omega), h i hi 3 (by omega), h i hi 4 (by omega), h i hi 5 (by omega), h i hi 6 (by omega)⟩

/-- the slice at a, n of cap, holds the jobs ls -/
structure JobS (w : World) (a : Option Addr) (n cap : Nat) (ls : List Jb) : Prop where
  len : ls.length = n
  le : n ≤ cap
  mx : cap ≤ maxLen
  nil : a = none → cap = 0
  wf : ∀ i, i < n → jwf (jg ls i)
  at_ : 0 < n → ∃ b off, a = some ⟨b, off, none⟩ ∧ b < w.heap.size ∧ JobAt w b off ls

theorem JobAt.below {w w' : World} {B b off : Nat} {ls : List Jb} (h : JobAt w b off ls) (hb : Below B w w') (hB : b < B) : JobAt w' b off ls :=
  fun i hi c hc => (hb.cell (p := ⟨b, off + i * 7 + c, none⟩) hB).trans (h i hi c hc)

theorem JobS.below {w w' : World} {a : Option Addr} {n cap : Nat} {ls : List Jb} (h : JobS w a n cap ls) (hb : Below w.heap.size w w') : JobS w' a n cap ls :=
  ⟨h.len, h.le, h.mx, h.nil, h.wf, fun hn => by
    obtain ⟨b, off, e, h1, h2⟩ := h.at_ hn
    exact ⟨b, off, e, Nat.lt_of_lt_of_le h1 hb.size, h2.below hb h1⟩⟩

theorem JobS.drew {w : World} {a : Option Addr} {n cap : Nat} {ls : List Jb} (h : JobS w a n cap ls) : JobS w.drew a n cap ls := h.below (Below.refl _ _).drew

/-- block B is a row of n jobs of the call's own, the first k of them those of ls -/
def JobB (w : World) (B n k : Nat) (ls : List Jb) : Prop :=
  ∃ cur : Array Value, w.heap[B]? = some (.cells cur 49 (0, 0)) ∧ cur.size = n * 7 ∧ ∀ i, i < k → ∀ c, c < 7 → cur[i * 7 + c]? = some (.int .i64 (jc (jg ls i) c))

set_option maxHeartbeats 1000000 in
theorem JobB.step {w1 : World} {B n k : Nat} {ls : List Jb} {i0 c0 l0 d0 t0 r0 a0 : Int} {cur : Array Value} (hcur1 : w1.heap[B]? = some (.cells cur 49 (0, 0))) (hcs : cur.size = n * 7) (hk : k < n)
    (hck : ∀ i, i < k → ∀ c, c < 7 → cur[i * 7 + c]? = some (.int .i64 (jc (jg ls i) c))) (hj : (⟨i0, c0, l0, d0, t0, r0, a0⟩ : Jb) = jg ls k) :
    JobB (((((((w1.setCell ⟨B, k * 7, none⟩ (.int .i64 i0)).setCell ⟨B, k * 7 + 1, none⟩ (.int .i64 c0)).setCell ⟨B, k * 7 + 2, none⟩ (.int .i64 l0)).setCell ⟨B, k * 7 + 3, none⟩ (.int .i64 d0)).setCell ⟨B, k * 7 + 4, none⟩ (.int .i64 t0)).setCell ⟨B, k * 7 + 5, none⟩ (.int .i64 r0)).setCell ⟨B, k * 7 + 6, none⟩ (.int .i64 a0)) B n (k + 1) ls := by
  refine ⟨_, blk_set (blk_set (blk_set (blk_set (blk_set (blk_set (blk_set hcur1 _) _) _) _) _) _) _, by simp [hcs], fun i hi c hc => ?_⟩
  simp only [Array.getElem?_setIfInBounds, Array.size_setIfInBounds]
  by_cases e : i = k
  · subst e
    have hs : i * 7 + 6 < cur.size := by omega
    obtain rfl | rfl | rfl | rfl | rfl | rfl | rfl : c = 0 ∨ c = 1 ∨ c = 2 ∨ c = 3 ∨ c = 4 ∨ c = 5 ∨ c = 6 := by omega
    all_goals (rw [← hj]; simp [jc]; omega)
  · have hne : ∀ d, d < 7 → ¬ (k * 7 + d = i * 7 + c) := fun d hd => by omega
    have h0 : ¬ (k * 7 = i * 7 + c) := by omega
    rw [if_neg (hne 6 (by omega)), if_neg (hne 5 (by omega)), if_neg (hne 4 (by omega)), if_neg (hne 3 (by omega)), if_neg (hne 2 (by omega)), if_neg (hne 1 (by omega)), if_neg h0]
    exact hck i (by omega) c hc

theorem toJob_any (i c l d t r a : Int) (w : World) :
    Calls Tryz.prog 55 #[.agg #[.int .i64 i, .int .i64 c, .int .i64 l, .int .i64 d, .int .i64 t, .int .i64 r, .int .i64 a]] w fun e w' => e = .returned (.agg #[.int .i64 i, .int .i64 c, .int .i64 l, .int .i64 d, .int .i64 t, .int .i64 r, .int .i64 a]) ∧ Below w.heap.size w w' := by
  go_enter Tryz.func55, Tryz.ntmps55
  go_wp2
  exact bodyPost_ret (v := .agg #[.int .i64 i, .int .i64 c, .int .i64 l, .int .i64 d, .int .i64 t, .int .i64 r, .int .i64 a]) (by simp [results, Tryz.results55, go_sem]) rfl ⟨rfl, (((Below.refl _ _).alloc (by simp) _).alloc (by simp) _).alloc (by simp; omega) _⟩

theorem infoJ : (Tryz.prog.info? 49).map (fun i => (i.zero, i.size, i.bytes)) = some (some (.agg #[.int .i64 0, .int .i64 0, .int .i64 0, .int .i64 0, .int .i64 0, .int .i64 0, .int .i64 0]), 7, 56) := by kernel_rfl

theorem run_makeJobs (n : Nat) (hn : n ≤ 1048576) (wx : World) : (Instr.makeSlice 27 (.int .i64 (n : Int)) (.int .i64 (n : Int))).run Tryz.prog wx = .ok (.slice (some ⟨wx.heap.size, 0, none⟩) n n) (wx.alloc (.cells (madeCells (Value.agg #[.int .i64 0, .int .i64 0, .int .i64 0, .int .i64 0, .int .i64 0, .int .i64 0, .int .i64 0]).cells (n * 7)) 49)) := by
  obtain ⟨i0, hi, hz0, hz1, hz2⟩ := info_parts infoJ
  have := run_make (P := Tryz.prog) wx 27 49 i0 _ Tryz.underlying27 hi hz0 .i64 .i64 n n (by omega) (Int.le_refl _) (by rw [hz2]; omega) (by omega)
  rw [hz1] at this
  simpa only [Int.toNat_natCast] using this

theorem JobB.other {w : World} {B n k : Nat} {ls : List Jb} (h : JobB w B n k ls) {a : Addr} (ha : B ≠ a.block) (u : Value) : JobB (w.setCell a u) B n k ls := by
  obtain ⟨cur, h1, h2⟩ := h
  exact ⟨cur, by rw [Below.heap_setCell _ _ _ _ ha]; exact h1, h2⟩

theorem eqJob_same (i c l d t r a : Int) (w : World) :
    Calls Tryz.prog 23 #[.agg #[.int .i64 i, .int .i64 c, .int .i64 l, .int .i64 d, .int .i64 t, .int .i64 r, .int .i64 a], .agg #[.int .i64 i, .int .i64 c, .int .i64 l, .int .i64 d, .int .i64 t, .int .i64 r, .int .i64 a]] w fun e w' => e = .returned (.bool true) ∧ Below w.heap.size w w' := by
  go_enter Tryz.func23, Tryz.ntmps23
  go_wp2
  go_ret
  exact ⟨rfl, ((Below.refl _ _).alloc (by simp) _).alloc (by simp) _⟩

set_option maxHeartbeats 1000000 in
theorem eqJobS_same (a a' : Option Addr) (n cap cap' : Nat) (ls : List Jb) (w : World) (h : JobS w a n cap ls) (h' : JobS w a' n cap' ls) :
    Calls Tryz.prog 8 #[.slice a n cap, .slice a' n cap'] w fun e w' => e = .returned (.bool true) ∧ Below w.heap.size w w' := by
  have hm := h.mx
  have hle := h.le
  unfold maxLen at hm
  go_enter Tryz.func8, Tryz.ntmps8
  go_wp2
  go_loopw [5] (fun i wr => ∃ k : Nat, k ≤ n ∧ i = .int .i64 k ∧ Below w.heap.size w wr) (fun i _ => n - (intOf i).toNat)
  case atStart => exact ⟨0, by omega, rfl, Below.refl _ _⟩
  case round =>
    obtain ⟨k, hk, rfl, hw⟩ := hrel
    by_cases hlt : k < n
    · obtain ⟨b, off, rfl, hbw, hat⟩ := h.at_ (by omega)
      obtain ⟨b', off', rfl, hbw', hat'⟩ := h'.at_ (by omega)
      obtain ⟨hc0, hc1, hc2, hc3, hc4, hc5, hc6⟩ := (hat.below hw hbw).job (i := k) (by rw [h.len]; exact hlt)
      obtain ⟨hd0, hd1, hd2, hd3, hd4, hd5, hd6⟩ := (hat'.below hw hbw').job (i := k) (by rw [h.len]; exact hlt)
      go_wp2
      go_region_with (go_at_call 23; refine (eqJob_same _ _ _ _ _ _ _ _).mono ?_; rintro e w1 ⟨rfl, hb1⟩)
      all_goals
        go_wp2
        go_roundw
        case rel => exact ⟨k + 1, by omega, by go_num, by first | exact hw.then hb1 hw.size | exact hw.drew.then hb1 hw.size | exact hw.drew.drew.then hb1 hw.size⟩
        case measure => simp [intOf]; omega
    · have e : k = n := by omega
      subst e
      go_wp2
      go_ret
      exact ⟨rfl, hw⟩

theorem JobB.below {w w' : World} {B n k : Nat} {ls : List Jb} (h : JobB w B n k ls) (ho : Below w.heap.size w w') : JobB w' B n k ls := by
  obtain ⟨cur, h1, h2⟩ := h
  exact ⟨cur, by rw [ho.block B (lt_of_block h1)]; exact h1, h2⟩

theorem JobB.lt {w : World} {B n k : Nat} {ls : List Jb} (h : JobB w B n k ls) : B < w.heap.size := by
  obtain ⟨cur, h1, _⟩ := h; exact lt_of_block h1

/-- an own row of jobs is a slice of jobs -/
theorem JobB.toS {w : World} {B n : Nat} {ls : List Jb} (h : JobB w B n n ls) (hl : ls.length = n) (hn : n ≤ 1048576) (wf : ∀ i, i < n → jwf (jg ls i)) : JobS w (some ⟨B, 0, none⟩) n n ls := by
  obtain ⟨cur, h1, h2, h3⟩ := h
  refine ⟨hl, Nat.le_refl _, by unfold maxLen; omega, (fun h => by cases h), wf, fun _ => ⟨B, 0, rfl, lt_of_block h1, fun i hi c hc => ?_⟩⟩
  have e0 := h3 i (by omega) c hc
  simp only [Nat.zero_add]
  simp [World.cell?, h1, e0]

theorem JobB.only {w w' : World} {B B' n k : Nat} {ls : List Jb} (h : JobB w B n k ls) (ho : Only B' w w') (hB : B ≠ B') : JobB w' B n k ls := by
  obtain ⟨cur, h1, h2⟩ := h
  exact ⟨cur, by rw [ho.block B hB]; exact h1, h2⟩
/-- the numbers that a mark leaves -/
def jmark (k : Int) (i : Nat) : Jb := ⟨k + 7 * (i : Int), k + 7 * (i : Int) + 1, k + 7 * (i : Int) + 2, k + 7 * (i : Int) + 3, k + 7 * (i : Int) + 4, k + 7 * (i : Int) + 5, k + 7 * (i : Int) + 6⟩
def jmarks (k : Int) (n : Nat) : List Jb := (List.range n).map (jmark k)
theorem jmarks_len (k : Int) (n : Nat) : (jmarks k n).length = n := by simp [jmarks]
theorem jmarks_g (k : Int) (n i : Nat) (h : i < n) : jg (jmarks k n) i = jmark k i := by simp [jmarks, jg, h]

set_option maxHeartbeats 1000000 in
theorem markJobS_any (B n : Nat) (k0 : Int) (ls : List Jb) (w : World) (h : JobB w B n n ls) (hn : n ≤ 1048576) (h0 : 0 ≤ k0) (h1 : k0 ≤ 1073741824) :
    Calls Tryz.prog 11 #[.slice (some ⟨B, 0, none⟩) n n, .int .i64 k0] w fun e w' => e = .returned (.int .i64 (k0 + 7 * n)) ∧ JobB w' B n n (jmarks k0 n) ∧ Only B w w' := by
  go_enter Tryz.func11, Tryz.ntmps11
  go_wp2
  go_loopw [1, 5] (fun m i wr => ∃ k : Nat, k ≤ n ∧ i = .int .i64 k ∧ m = .int .i64 (k0 + 7 * k) ∧ JobB wr B n k (jmarks k0 n) ∧ Only B w wr) (fun _ i _ => n - (intOf i).toNat)
  case atStart =>
    obtain ⟨cur, hcur, hcs, _⟩ := h
    exact ⟨0, by omega, rfl, by go_num, ⟨cur, hcur, hcs, fun i hi => by omega⟩, Only.refl _ _⟩
  case round =>
    obtain ⟨k, hk, rfl, rfl, ⟨cur, hcur, hcs, hck⟩, hw⟩ := hrel
    by_cases hlt : k < n
    · have HG := jmarks_g k0 n k hlt
      have g0 := cell_of_blk (k * 7) hcur (by omega)
      have f0 := free_of_blk (k * 7) hcur
      have g1 := cell_of_blk (k * 7 + 1) hcur (by omega)
      have f1 := free_of_blk (k * 7 + 1) hcur
      have g2 := cell_of_blk (k * 7 + 2) hcur (by omega)
      have f2 := free_of_blk (k * 7 + 2) hcur
      have g3 := cell_of_blk (k * 7 + 3) hcur (by omega)
      have f3 := free_of_blk (k * 7 + 3) hcur
      have g4 := cell_of_blk (k * 7 + 4) hcur (by omega)
      have f4 := free_of_blk (k * 7 + 4) hcur
      have g5 := cell_of_blk (k * 7 + 5) hcur (by omega)
      have f5 := free_of_blk (k * 7 + 5) hcur
      have g6 := cell_of_blk (k * 7 + 6) hcur (by omega)
      have f6 := free_of_blk (k * 7 + 6) hcur
      go_wp2
      go_roundw
      case rel => exact ⟨k + 1, by omega, by go_num, by go_num, JobB.step hcur hcs hlt hck (by rw [HG]; unfold jmark; congr 1 <;> omega), ((((((hw.setCell _ _).setCell _ _).setCell _ _).setCell _ _).setCell _ _).setCell _ _).setCell _ _⟩
      case measure => simp [intOf]; omega
    · have e : k = n := by omega
      subst e
      go_wp2
      go_ret
      exact ⟨rfl, ⟨cur, hcur, hcs, hck⟩, hw⟩

set_option maxHeartbeats 1000000 in
theorem heldJobS_any (B n : Nat) (k0 : Int) (w : World) (h : JobB w B n n (jmarks k0 n)) (hn : n ≤ 1048576) (h0 : 0 ≤ k0) (h1 : k0 ≤ 1073741824) :
    Calls Tryz.prog 12 #[.slice (some ⟨B, 0, none⟩) n n, .int .i64 k0] w fun e w' => e = .returned (.int .i64 (k0 + 7 * n)) ∧ w' = w := by
  obtain ⟨cur, hcur, hcs, hck⟩ := h
  go_enter Tryz.func12, Tryz.ntmps12
  go_wp2
  go_loop [1, 5] (fun m i => ∃ k : Nat, k ≤ n ∧ i = .int .i64 k ∧ m = .int .i64 (k0 + 7 * k)) (fun _ i => n - (intOf i).toNat)
  case atStart => exact ⟨0, by omega, rfl, by go_num⟩
  case round =>
    obtain ⟨k, hk, rfl, rfl⟩ := hrel
    by_cases hlt : k < n
    · skip
      have g0 : w.cell? ⟨B, k * 7, none⟩ = some (.int .i64 (k0 + 7 * k)) := by have := hck k hlt 0 (by omega); rw [jmarks_g k0 n k hlt] at this; simp only [jc, jmark, Nat.add_zero] at this; rw [← this]; simp [World.cell?, hcur]
      have g1 : w.cell? ⟨B, k * 7 + 1, none⟩ = some (.int .i64 (k0 + 7 * k + 1)) := by have := hck k hlt 1 (by omega); rw [jmarks_g k0 n k hlt] at this; simp only [jc, jmark] at this; rw [← this]; simp [World.cell?, hcur]
      have g2 : w.cell? ⟨B, k * 7 + 2, none⟩ = some (.int .i64 (k0 + 7 * k + 2)) := by have := hck k hlt 2 (by omega); rw [jmarks_g k0 n k hlt] at this; simp only [jc, jmark] at this; rw [← this]; simp [World.cell?, hcur]
      have g3 : w.cell? ⟨B, k * 7 + 3, none⟩ = some (.int .i64 (k0 + 7 * k + 3)) := by have := hck k hlt 3 (by omega); rw [jmarks_g k0 n k hlt] at this; simp only [jc, jmark] at this; rw [← this]; simp [World.cell?, hcur]
      have g4 : w.cell? ⟨B, k * 7 + 4, none⟩ = some (.int .i64 (k0 + 7 * k + 4)) := by have := hck k hlt 4 (by omega); rw [jmarks_g k0 n k hlt] at this; simp only [jc, jmark] at this; rw [← this]; simp [World.cell?, hcur]
      have g5 : w.cell? ⟨B, k * 7 + 5, none⟩ = some (.int .i64 (k0 + 7 * k + 5)) := by have := hck k hlt 5 (by omega); rw [jmarks_g k0 n k hlt] at this; simp only [jc, jmark] at this; rw [← this]; simp [World.cell?, hcur]
      have g6 : w.cell? ⟨B, k * 7 + 6, none⟩ = some (.int .i64 (k0 + 7 * k + 6)) := by have := hck k hlt 6 (by omega); rw [jmarks_g k0 n k hlt] at this; simp only [jc, jmark] at this; rw [← this]; simp [World.cell?, hcur]
      clear hck
      go_wp2
      go_round
      case rel => exact ⟨k + 1, by omega, by go_num, by go_num⟩
      case measure => simp [intOf]; omega
    · have e : k = n := by omega
      subst e
      go_wp2
      go_ret
      exact ⟨rfl, rfl⟩

/-- a boxed struct of seven cells is still there -/
theorem box7_cells {w wi : World} {v0 v1 v2 v3 v4 v5 v6 : Value} {T : TypeId} (U : Below (w.alloc (.cells #[v0, v1, v2, v3, v4, v5, v6] T)).heap.size (w.alloc (.cells #[v0, v1, v2, v3, v4, v5, v6] T)) wi) :
    wi.cell? ⟨w.heap.size, 0, none⟩ = some v0 ∧ wi.cell? ⟨w.heap.size, 1, none⟩ = some v1 ∧ wi.cell? ⟨w.heap.size, 2, none⟩ = some v2 ∧ wi.cell? ⟨w.heap.size, 3, none⟩ = some v3 ∧ wi.cell? ⟨w.heap.size, 4, none⟩ = some v4 ∧ wi.cell? ⟨w.heap.size, 5, none⟩ = some v5 ∧ wi.cell? ⟨w.heap.size, 6, none⟩ = some v6 ∧ w.heap.size < wi.heap.size := by
  refine ⟨(U.cell (p := ⟨w.heap.size, 0, none⟩) (by simp)).trans (by simp), (U.cell (p := ⟨w.heap.size, 1, none⟩) (by simp)).trans (by simp), (U.cell (p := ⟨w.heap.size, 2, none⟩) (by simp)).trans (by simp), (U.cell (p := ⟨w.heap.size, 3, none⟩) (by simp)).trans (by simp), (U.cell (p := ⟨w.heap.size, 4, none⟩) (by simp)).trans (by simp), (U.cell (p := ⟨w.heap.size, 5, none⟩) (by simp)).trans (by simp), (U.cell (p := ⟨w.heap.size, 6, none⟩) (by simp)).trans (by simp), ?_⟩
  have := U.size
  simp at this; omega

end Go.Proofs.YtdgfkcobhhlfbaaGreat
