/- One after the other: the program's clock, and what it tells of each job and its end. -/
import Derived.Test.YtmaojjjdepgaeaaInts
import Derived.Test.YtmaojjjdepgaeaaIntRow
import Derived.Test.YtmaojjjdepgaeaaEndsS
import Derived.Test.YtmaojjjdepgaeaaJobsOkI
import Derived.Test.YtmaojjjdepgaeaaStepApp
namespace Go.Proofs.Ytmaojjjdepgaeaa
open Go.RowKit

/-- what each of the five tells of a job and its end -/
def gEnds (_ : Jb) (e : Int) : Int := e
def gLateness (j : Jb) (e : Int) : Int := e - j.due
def gWeighted (j : Jb) (e : Int) : Int := j.wt * e
def gTardy (j : Jb) (e : Int) : Int := if j.due < e then 1 else 0
def gWaiting (j : Jb) (e : Int) : Int := e - j.long

/-- the first k of what is told -/
def meas (g : Jb → Int → Int) (ls : List Jb) (k : Nat) : List Int := (List.range k).map fun i => g (jg ls i) (sumTo ls (i + 1))
theorem meas_len (g : Jb → Int → Int) (ls : List Jb) (k : Nat) : (meas g ls k).length = k := by simp [meas]
theorem meas_g (g : Jb → Int → Int) (ls : List Jb) {k i : Nat} (h : i < k) : zg (meas g ls k) i = g (jg ls i) (sumTo ls (i + 1)) := by simp [meas, zg, h]
theorem meas_succ (g : Jb → Int → Int) (ls : List Jb) (k : Nat) : meas g ls (k + 1) = meas g ls k ++ [g (jg ls k) (sumTo ls (k + 1))] := by simp [meas, List.range_succ]

/-- the sum of the first k of what is told -/
def sumG (g : Jb → Int → Int) (ls : List Jb) : Nat → Int
  | 0 => 0
  | k + 1 => sumG g ls k + g (jg ls k) (sumTo ls (k + 1))

/-- what a right job's end keeps -/
theorem wt_bd {j : Jb} {e : Int} (h : jok j = true) (h0 : 0 ≤ e) (h1 : e ≤ 400000) : 0 ≤ j.wt * e ∧ j.wt * e ≤ 400000000 := by
  obtain ⟨_, _, _, _, w0, w1⟩ := jok_bd h
  refine ⟨Int.mul_nonneg w0 h0, ?_⟩
  have h2 : j.wt * e ≤ 1000 * e := Int.mul_le_mul_of_nonneg_right w1 h0
  omega

/-- numbers told, bounded -/
theorem g_bd {j : Jb} {e : Int} (hj : jok j = true) (h0 : 0 ≤ e) (h1 : e ≤ 400000) :
    (-1000000000 ≤ gLateness j e ∧ gLateness j e ≤ 1000000000) ∧ (-1000000000 ≤ gWeighted j e ∧ gWeighted j e ≤ 1000000000) ∧ (-1000000000 ≤ gTardy j e ∧ gTardy j e ≤ 1000000000) ∧ (-1000000000 ≤ gWaiting j e ∧ gWaiting j e ≤ 1000000000) ∧ (-1000000000 ≤ gEnds j e ∧ gEnds j e ≤ 1000000000) := by
  obtain ⟨p0, p1⟩ := wt_bd hj h0 h1
  obtain ⟨l0, l1, d0, d1, _, _⟩ := jok_bd hj
  unfold gLateness gWeighted gTardy gWaiting gEnds
  split <;> omega

theorem g_bd_Lateness {j : Jb} {e : Int} (hj : jok j = true) (h0 : 0 ≤ e) (h1 : e ≤ 400000) : -1000000000 ≤ gLateness j e ∧ gLateness j e ≤ 1000000000 := (g_bd hj h0 h1).1
theorem g_bd_Weighted {j : Jb} {e : Int} (hj : jok j = true) (h0 : 0 ≤ e) (h1 : e ≤ 400000) : -1000000000 ≤ gWeighted j e ∧ gWeighted j e ≤ 1000000000 := (g_bd hj h0 h1).2.1
theorem g_bd_Tardy {j : Jb} {e : Int} (hj : jok j = true) (h0 : 0 ≤ e) (h1 : e ≤ 400000) : -1000000000 ≤ gTardy j e ∧ gTardy j e ≤ 1000000000 := (g_bd hj h0 h1).2.2.1
theorem g_bd_Waiting {j : Jb} {e : Int} (hj : jok j = true) (h0 : 0 ≤ e) (h1 : e ≤ 400000) : -1000000000 ≤ gWaiting j e ∧ gWaiting j e ≤ 1000000000 := (g_bd hj h0 h1).2.2.2.1
theorem g_bd_Ends {j : Jb} {e : Int} (hj : jok j = true) (h0 : 0 ≤ e) (h1 : e ≤ 400000) : -1000000000 ≤ gEnds j e ∧ gEnds j e ≤ 1000000000 := (g_bd hj h0 h1).2.2.2.2

theorem sumG_bd {g : Jb → Int → Int} (hg : ∀ {j : Jb} {e : Int}, jok j = true → 0 ≤ e → e ≤ 400000 → -1000000000 ≤ g j e ∧ g j e ≤ 1000000000) {ls : List Jb} {n : Nat} (h : jokTo ls n) (hn : n ≤ 40) : ∀ k, k ≤ n → -1000000000 * (k : Int) ≤ sumG g ls k ∧ sumG g ls k ≤ 1000000000 * (k : Int)
  | 0, _ => by simp [sumG]
  | k + 1, hk => by
    have h1 := sumG_bd hg h hn k (by omega)
    have h2 := sumTo_bd h (k + 1) hk
    have h3 := hg (h k (by omega)).1 h2.1 (by omega)
    simp only [sumG]
    omega

end Go.Proofs.Ytmaojjjdepgaeaa
