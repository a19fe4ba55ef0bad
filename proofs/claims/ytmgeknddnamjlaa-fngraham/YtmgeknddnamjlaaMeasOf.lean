/- One after the other: the program's clock, and what it tells of each job and its end. -/
import Derived.Test.YtmgeknddnamjlaaIntRow
import Derived.Test.YtmgeknddnamjlaaEndsS
import Derived.Test.YtmgeknddnamjlaaJobsOkI
import Derived.Test.YtmgeknddnamjlaaStepApp
namespace Go.Proofs.Ytmgeknddnamjlaa
open Go.RowKit

/-- what each of the five tells of a job and its end -/
def gEnds (_ : Jb) (e : Int) : Int := e
def gLateness (j : Jb) (e : Int) : Int := e - j.due
def gWeighted (j : Jb) (e : Int) : Int := j.wt * e
def gTardy (j : Jb) (e : Int) : Int := if j.due < e then 1 else 0
def gWaiting (j : Jb) (e : Int) : Int := e - j.long

/-- the first k of what is told -/
def meas (g : Jb → Int → Int) (ls : List Jb) (k : Nat) : List Int := (List.range k).map fun i => g (jg ls i) (sumTo ls (i + 1))
theorem meas_len (g : Jb → Int → Int) (ls : List Jb) (k : Nat) : (meas g ls k).length = k := by simp [meas]
theorem meas_g (g : Jb → Int → Int) (ls : List Jb) {k i : Nat} (h : i < k) : zg (meas g ls k) i = g (jg ls i) (sumTo ls (i + 1)) := by simp [meas, zg, h]
theorem meas_succ (g : Jb → Int → Int) (ls : List Jb) (k : Nat) : meas g ls (k + 1) = meas g ls k ++ [g (jg ls k) (sumTo ls (k + 1))] := by simp [meas, List.range_succ]

/-- the sum of the first k of what is told -/
def sumG (g : Jb → Int → Int) (ls : List Jb) : Nat → Int
  | 0 => 0
  | k + 1 => sumG g ls k + g (jg ls k) (sumTo ls (k + 1))

/-- what a right job's end keeps -/
theorem wt_bd {j : Jb} {e : Int} (h : jok j = true) (h0 : 0 ≤ e) (h1 : e ≤ 400000) : 0 ≤ j.wt * e ∧ j.wt * e ≤ 400000000 := by
  obtain ⟨_, _, _, _, w0, w1⟩ := jok_bd h
  refine ⟨Int.mul_nonneg w0 h0, ?_⟩
  have h2 : j.wt * e ≤ 1000 * e := Int.mul_le_mul_of_nonneg_right w1 h0
  omega

/-- all below B but block N is as it was -/
structure BelowBut (B N : Nat) (w w' : World) : Prop where
  os : w'.os = w.os
  tape : w'.tape = w.tape
  output : w'.output = w.output
  size : w.heap.size ≤ w'.heap.size
  block : ∀ k, k < B → k ≠ N → w'.heap[k]? = w.heap[k]?

theorem BelowBut.below {B N b : Nat} {w w' : World} (h : BelowBut B N w w') (hb : b ≤ B) (hN : b ≤ N) : Below b w w' :=
  ⟨h.os, h.tape, h.output, h.size, fun k hk => h.block k (by omega) (by omega)⟩

/-- a row of the call's own, kept by what keeps its block -/
theorem ownI_keep {w w' : World} {base g cap n : Nat} {e : TypeId} {size : Nat} {xs : List Value} (h : w.ownsRow base e size (.slice (some ⟨g, 0, none⟩) n cap) n xs) (hb : w'.heap[g]? = w.heap[g]?) : w'.ownsRow base e size (.slice (some ⟨g, 0, none⟩) n cap) n xs := by
  refine ⟨h.1, ?_⟩
  rcases h.2 with ⟨e, _⟩ | ⟨g', cap', cur, e, h1, hgg, r⟩
  · cases e
  · injection e with e1 e2 e3
    injection e1 with e1
    injection e1 with e1 _ _
    subst e1 e3
    exact .inr ⟨g, cap, cur, rfl, h1, hb.trans hgg, r⟩

theorem run_makeI (n : Nat) (hn : n ≤ 1048576) (wx : World) : (Instr.makeSlice 28 (.int .i64 0) (.int .i64 (n : Int))).run Try.prog wx = .ok (.slice (some ⟨wx.heap.size, 0, none⟩) 0 n) (wx.alloc (.cells (madeCells #[.int .i64 0] n) 2)) := by
  obtain ⟨i0, hi, hz0, hz1, hz2⟩ := info_parts infoI
  have := run_make (P := Try.prog) wx 28 2 i0 _ Try.underlying28 hi hz0 .i64 .i64 0 n (by omega) (by omega) (by rw [hz2]; omega) (by omega)
  rw [hz1] at this
  simp only [Int.toNat_natCast, Nat.mul_one, Int.toNat_zero] at this
  exact this

/-- numbers told, bounded -/
theorem g_bd {j : Jb} {e : Int} (hj : jok j = true) (h0 : 0 ≤ e) (h1 : e ≤ 400000) :
    (-1000000000 ≤ gLateness j e ∧ gLateness j e ≤ 1000000000) ∧ (-1000000000 ≤ gWeighted j e ∧ gWeighted j e ≤ 1000000000) ∧ (-1000000000 ≤ gTardy j e ∧ gTardy j e ≤ 1000000000) ∧ (-1000000000 ≤ gWaiting j e ∧ gWaiting j e ≤ 1000000000) ∧ (-1000000000 ≤ gEnds j e ∧ gEnds j e ≤ 1000000000) := by
  obtain ⟨p0, p1⟩ := wt_bd hj h0 h1
  obtain ⟨l0, l1, d0, d1, _, _⟩ := jok_bd hj
  unfold gLateness gWeighted gTardy gWaiting gEnds
  split <;> omega


theorem g_bd_Lateness {j : Jb} {e : Int} (hj : jok j = true) (h0 : 0 ≤ e) (h1 : e ≤ 400000) : -1000000000 ≤ gLateness j e ∧ gLateness j e ≤ 1000000000 := (g_bd hj h0 h1).1
theorem g_bd_Weighted {j : Jb} {e : Int} (hj : jok j = true) (h0 : 0 ≤ e) (h1 : e ≤ 400000) : -1000000000 ≤ gWeighted j e ∧ gWeighted j e ≤ 1000000000 := (g_bd hj h0 h1).2.1
theorem g_bd_Tardy {j : Jb} {e : Int} (hj : jok j = true) (h0 : 0 ≤ e) (h1 : e ≤ 400000) : -1000000000 ≤ gTardy j e ∧ gTardy j e ≤ 1000000000 := (g_bd hj h0 h1).2.2.1
theorem g_bd_Waiting {j : Jb} {e : Int} (hj : jok j = true) (h0 : 0 ≤ e) (h1 : e ≤ 400000) : -1000000000 ≤ gWaiting j e ∧ gWaiting j e ≤ 1000000000 := (g_bd hj h0 h1).2.2.2.1
theorem g_bd_Ends {j : Jb} {e : Int} (hj : jok j = true) (h0 : 0 ≤ e) (h1 : e ≤ 400000) : -1000000000 ≤ gEnds j e ∧ gEnds j e ≤ 1000000000 := (g_bd hj h0 h1).2.2.2.2

theorem sumG_bd {g : Jb → Int → Int} (hg : ∀ {j : Jb} {e : Int}, jok j = true → 0 ≤ e → e ≤ 400000 → -1000000000 ≤ g j e ∧ g j e ≤ 1000000000) {ls : List Jb} {n : Nat} (h : jokTo ls n) (hn : n ≤ 40) : ∀ k, k ≤ n → -1000000000 * (k : Int) ≤ sumG g ls k ∧ sumG g ls k ≤ 1000000000 * (k : Int)
  | 0, _ => by simp [sumG]
  | k + 1, hk => by
    have h1 := sumG_bd hg h hn k (by omega)
    have h2 := sumTo_bd h (k + 1) hk
    have h3 := hg (h k (by omega)).1 h2.1 (by omega)
    simp only [sumG]
    omega

theorem IntB.cell {w : World} {B n : Nat} {zs : List Int} (h : IntB w B n zs) {i : Nat} (hi : i < n) : w.cell? ⟨B, i, none⟩ = some (.int .i64 (zg zs i)) := by
  obtain ⟨cur, h1, _, h3⟩ := h
  have := h3 i hi
  simp [World.cell?, h1, this]

/-- the greatest of the first k + 1 -/
def maxTo (zs : List Int) : Nat → Int
  | 0 => zg zs 0
  | k + 1 => max (maxTo zs k) (zg zs (k + 1))

end Go.Proofs.Ytmgeknddnamjlaa
