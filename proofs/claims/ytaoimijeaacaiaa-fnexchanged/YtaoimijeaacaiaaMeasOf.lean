/- One after the other: the program's clock, and what it tells of each job and its end. -/
import Derived.Test.YtaoimijeaacaiaaInts
import Derived.Test.YtaoimijeaacaiaaIntRow
import Derived.Test.YtaoimijeaacaiaaEndsS
import Derived.Test.YtaoimijeaacaiaaJobsOkI
import Derived.Test.YtaoimijeaacaiaaStepApp
namespace Go.Proofs.Ytaoimijeaacaiaa
open Go.RowKit

/-- what each of the five tells of a job and its end -/
def gEnds (_ : Jb) (e : Int) : Int := e
def gLateness (j : Jb) (e : Int) : Int := e - j.due
def gWeighted (j : Jb) (e : Int) : Int := j.wt * e
def gTardy (j : Jb) (e : Int) : Int := if j.due < e then 1 else 0
def gWaiting (j : Jb) (e : Int) : Int := e - j.long

/-- the first k of what is told -/
def meas (g : Jb → Int → Int) (ls : List Jb) (k : Nat) : List Int := (List.range k).map fun i => g (jg ls i) (sumTo ls (i + 1))
theorem meas_len (g : Jb → Int → Int) (ls : List Jb) (k : Nat) : (meas g ls k).length = k := by simp [meas]
theorem meas_g (g : Jb → Int → Int) (ls : List Jb) {k i : Nat} (h : i < k) : zg (meas g ls k) i = g (jg ls i) (sumTo ls (i + 1)) := by simp [meas, zg, h]
theorem meas_succ (g : Jb → Int → Int) (ls : List Jb) (k : Nat) : meas g ls (k + 1) = meas g ls k ++ [g (jg ls k) (sumTo ls (k + 1))] := by simp [meas, List.range_succ]

/-- the sum of the first k of what is told -/
def sumG (g : Jb → Int → Int) (ls : List Jb) : Nat → Int
  | 0 => 0
  | k + 1 => sumG g ls k + g (jg ls k) (sumTo ls (k + 1))

/-- what a right job's end keeps -/
theorem wt_bd {j : Jb} {e : Int} (h : jok j = true) (h0 : 0 ≤ e) (h1 : e ≤ 400000) : 0 ≤ j.wt * e ∧ j.wt * e ≤ 400000000 := by
  obtain ⟨_, _, _, _, w0, w1⟩ := jok_bd h
  refine ⟨Int.mul_nonneg w0 h0, ?_⟩
  have h2 : j.wt * e ≤ 1000 * e := Int.mul_le_mul_of_nonneg_right w1 h0
  omega

theorem clock_any (j : Jb) (N : Nat) (v : Int) (w : World) (hN : w.heap[N]? = some (.cells #[.int .i64 v] 2 (0, 0))) (h0 : 0 ≤ v) (h1 : v ≤ 400000) (h2 : 1 ≤ j.long) (h3 : j.long ≤ 10000) :
    Calls Try.prog 94 #[.agg #[.int .i64 j.id, .int .i64 j.cores, .int .i64 j.long, .int .i64 j.due, .int .i64 j.wt, .int .i64 j.rank, .int .i64 j.at_], .pointer (some ⟨N, 0, none⟩)] w fun e w' => e = .returned (.int .i64 (v + j.long)) ∧ w'.heap[N]? = some (.cells #[.int .i64 (v + j.long)] 2 (0, 0)) ∧ BelowBut w.heap.size N w w' := by
  have hl := lt_of_block hN
  have hne : w.heap.size ≠ N := by omega
  have hne2 : N ≠ w.heap.size := by omega
  have hN1 : (w.alloc (.cells #[.int .i64 j.id, .int .i64 j.cores, .int .i64 j.long, .int .i64 j.due, .int .i64 j.wt, .int .i64 j.rank, .int .i64 j.at_] 28)).heap[N]? = some (.cells #[.int .i64 v] 2 (0, 0)) := (Below.heap_alloc _ _ _ hl).trans hN
  have c0 := cell_of_one hN1
  have f0 := free_of_one hN1
  have hs : (w.setCell ⟨N, 0, none⟩ (.int .i64 (v + j.long))).heap.size = w.heap.size := by simp [World.setCell]
  have hN2 : ((w.setCell ⟨N, 0, none⟩ (.int .i64 (v + j.long))).alloc (.cells #[.int .i64 j.id, .int .i64 j.cores, .int .i64 j.long, .int .i64 j.due, .int .i64 j.wt, .int .i64 j.rank, .int .i64 j.at_] 28)).heap[N]? = some (.cells #[.int .i64 (v + j.long)] 2 (0, 0)) := (Below.heap_alloc _ _ _ (by rw [hs]; exact hl)).trans (one_setCell hN)
  have c2 := cell_of_one hN2
  clear hs
  go_enter Try.func94, Try.ntmps94
  go_wp2
  go_ret
  refine ⟨rfl, hN2, ⟨rfl, rfl, rfl, by simp [World.setCell], fun k hk hkN => ?_⟩⟩
  exact (Below.heap_alloc _ _ _ (by simpa [World.setCell] using hk)).trans (Below.heap_setCell _ _ _ _ hkN)

theorem of_Ends (j : Jb) (e : Int) (w : World) (_hj : jok j = true) (_h0 : 0 ≤ e) (_h1 : e ≤ 400000) :
    Calls Try.prog 68 #[.agg #[.int .i64 j.id, .int .i64 j.cores, .int .i64 j.long, .int .i64 j.due, .int .i64 j.wt, .int .i64 j.rank, .int .i64 j.at_], .int .i64 e] w fun r w' => r = .returned (.int .i64 (gEnds j e)) ∧ Below w.heap.size w w' := by
  unfold gEnds
  go_enter Try.func68, Try.ntmps68
  go_wp2
  go_ret
  exact ⟨rfl, box_below⟩

theorem of_Lateness (j : Jb) (e : Int) (w : World) (hj : jok j = true) (h0 : 0 ≤ e) (h1 : e ≤ 400000) :
    Calls Try.prog 70 #[.agg #[.int .i64 j.id, .int .i64 j.cores, .int .i64 j.long, .int .i64 j.due, .int .i64 j.wt, .int .i64 j.rank, .int .i64 j.at_], .int .i64 e] w fun r w' => r = .returned (.int .i64 (gLateness j e)) ∧ Below w.heap.size w w' := by
  obtain ⟨_, _, d0, d1, _, _⟩ := jok_bd hj
  unfold gLateness
  clear hj
  go_enter Try.func70, Try.ntmps70
  go_wp2
  go_ret
  exact ⟨rfl, box_below⟩

theorem of_Weighted (j : Jb) (e : Int) (w : World) (hj : jok j = true) (h0 : 0 ≤ e) (h1 : e ≤ 400000) :
    Calls Try.prog 74 #[.agg #[.int .i64 j.id, .int .i64 j.cores, .int .i64 j.long, .int .i64 j.due, .int .i64 j.wt, .int .i64 j.rank, .int .i64 j.at_], .int .i64 e] w fun r w' => r = .returned (.int .i64 (gWeighted j e)) ∧ Below w.heap.size w w' := by
  obtain ⟨p0, p1⟩ := wt_bd hj h0 h1
  unfold gWeighted
  clear hj
  go_enter Try.func74, Try.ntmps74
  go_wp2
  go_ret
  exact ⟨rfl, box_below⟩

theorem of_Tardy (j : Jb) (e : Int) (w : World) (_hj : jok j = true) (_h0 : 0 ≤ e) (_h1 : e ≤ 400000) :
    Calls Try.prog 75 #[.agg #[.int .i64 j.id, .int .i64 j.cores, .int .i64 j.long, .int .i64 j.due, .int .i64 j.wt, .int .i64 j.rank, .int .i64 j.at_], .int .i64 e] w fun r w' => r = .returned (.int .i64 (gTardy j e)) ∧ Below w.heap.size w w' := by
  unfold gTardy
  by_cases c : j.due < e
  · rw [if_pos c]
    go_enter Try.func75, Try.ntmps75
    go_wp2
    go_ret
    exact ⟨rfl, box_below⟩
  · rw [if_neg c]
    go_enter Try.func75, Try.ntmps75
    go_wp2
    go_ret
    exact ⟨rfl, box_below⟩

theorem of_Waiting (j : Jb) (e : Int) (w : World) (hj : jok j = true) (h0 : 0 ≤ e) (h1 : e ≤ 400000) :
    Calls Try.prog 77 #[.agg #[.int .i64 j.id, .int .i64 j.cores, .int .i64 j.long, .int .i64 j.due, .int .i64 j.wt, .int .i64 j.rank, .int .i64 j.at_], .int .i64 e] w fun r w' => r = .returned (.int .i64 (gWaiting j e)) ∧ Below w.heap.size w w' := by
  obtain ⟨l0, l1, _, _, _, _⟩ := jok_bd hj
  unfold gWaiting
  clear hj
  go_enter Try.func77, Try.ntmps77
  go_wp2
  go_ret
  exact ⟨rfl, box_below⟩

/-- numbers told, bounded -/
theorem g_bd {j : Jb} {e : Int} (hj : jok j = true) (h0 : 0 ≤ e) (h1 : e ≤ 400000) :
    (-1000000000 ≤ gLateness j e ∧ gLateness j e ≤ 1000000000) ∧ (-1000000000 ≤ gWeighted j e ∧ gWeighted j e ≤ 1000000000) ∧ (-1000000000 ≤ gTardy j e ∧ gTardy j e ≤ 1000000000) ∧ (-1000000000 ≤ gWaiting j e ∧ gWaiting j e ≤ 1000000000) ∧ (-1000000000 ≤ gEnds j e ∧ gEnds j e ≤ 1000000000) := by
  obtain ⟨p0, p1⟩ := wt_bd hj h0 h1
  obtain ⟨l0, l1, d0, d1, _, _⟩ := jok_bd hj
  unfold gLateness gWeighted gTardy gWaiting gEnds
  split <;> omega

theorem g_bd_Lateness {j : Jb} {e : Int} (hj : jok j = true) (h0 : 0 ≤ e) (h1 : e ≤ 400000) : -1000000000 ≤ gLateness j e ∧ gLateness j e ≤ 1000000000 := (g_bd hj h0 h1).1
theorem g_bd_Weighted {j : Jb} {e : Int} (hj : jok j = true) (h0 : 0 ≤ e) (h1 : e ≤ 400000) : -1000000000 ≤ gWeighted j e ∧ gWeighted j e ≤ 1000000000 := (g_bd hj h0 h1).2.1
theorem g_bd_Tardy {j : Jb} {e : Int} (hj : jok j = true) (h0 : 0 ≤ e) (h1 : e ≤ 400000) : -1000000000 ≤ gTardy j e ∧ gTardy j e ≤ 1000000000 := (g_bd hj h0 h1).2.2.1
theorem g_bd_Waiting {j : Jb} {e : Int} (hj : jok j = true) (h0 : 0 ≤ e) (h1 : e ≤ 400000) : -1000000000 ≤ gWaiting j e ∧ gWaiting j e ≤ 1000000000 := (g_bd hj h0 h1).2.2.2.1
theorem g_bd_Ends {j : Jb} {e : Int} (hj : jok j = true) (h0 : 0 ≤ e) (h1 : e ≤ 400000) : -1000000000 ≤ gEnds j e ∧ gEnds j e ≤ 1000000000 := (g_bd hj h0 h1).2.2.2.2

theorem sumG_bd {g : Jb → Int → Int} (hg : ∀ {j : Jb} {e : Int}, jok j = true → 0 ≤ e → e ≤ 400000 → -1000000000 ≤ g j e ∧ g j e ≤ 1000000000) {ls : List Jb} {n : Nat} (h : jokTo ls n) (hn : n ≤ 40) : ∀ k, k ≤ n → -1000000000 * (k : Int) ≤ sumG g ls k ∧ sumG g ls k ≤ 1000000000 * (k : Int)
  | 0, _ => by simp [sumG]
  | k + 1, hk => by
    have h1 := sumG_bd hg h hn k (by omega)
    have h2 := sumTo_bd h (k + 1) hk
    have h3 := hg (h k (by omega)).1 h2.1 (by omega)
    simp only [sumG]
    omega

end Go.Proofs.Ytaoimijeaacaiaa
