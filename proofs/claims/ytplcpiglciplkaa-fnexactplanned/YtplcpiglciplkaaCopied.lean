/- The copied cut of the levels of a stretch, in memory of its own. -/
import Derived.Test.YtplcpiglciplkaaLeast
import Derived.Test.YtplcpiglciplkaaCopy2
namespace Go.Proofs.Ytplcpiglciplkaa
open Go.RowKit

theorem make_levels (n : Nat) (hn : n ≤ 1048576) (wx : World) : (Instr.makeSlice 24 (.int .i64 (n : Int)) (.int .i64 (n : Int))).run Try.prog wx = .ok (.slice (some ⟨wx.heap.size, 0, none⟩) n n) (wx.alloc (.cells (madeCells #[.int .i64 0, .int .i64 0] (n * 2)) 82)) := by
  obtain ⟨i0, hi, hz0, hz1, hz2⟩ := info_parts info69
  have := run_make (P := Try.prog) wx 24 82 i0 _ Try.underlying24 hi hz0 .i64 .i64 n n (by omega) (Int.le_refl _) (by rw [hz2]; omega) (by omega)
  rw [hz1] at this
  simp only [Int.toNat_natCast] at this
  exact this

/-- the levels' cells, in a row -/
def cellsOf (l : List Lev) : List Value := l.flatMap fun x => [.int .i64 x.1, .int .i64 x.2]
theorem cellsOf_len : ∀ l : List Lev, (cellsOf l).length = l.length * 2
  | [] => rfl
  | x :: r => by
    have := cellsOf_len r
    show (cellsOf r).length + 1 + 1 = (r.length + 1) * 2
    omega
theorem cellsOf_at : ∀ (l : List Lev) (i : Nat), i < l.length → (cellsOf l)[i * 2]? = some (.int .i64 (fr l i)) ∧ (cellsOf l)[i * 2 + 1]? = some (.int .i64 (fe l i))
  | x :: r, 0, _ => ⟨rfl, rfl⟩
  | x :: r, i + 1, h => by
    have h' : i < r.length := by simpa using h
    have := cellsOf_at r i h'
    have e : (i + 1) * 2 = i * 2 + 1 + 1 := by omega
    rw [e]
    exact ⟨this.1, this.2⟩
theorem cellsOf_one : ∀ (l : List Lev), ∀ v ∈ cellsOf l, v.oneCell' = true
  | [], v, h => by cases h
  | x :: r, v, h => by
    have h' : v = .int .i64 x.1 ∨ v = .int .i64 x.2 ∨ v ∈ cellsOf r := by simpa [cellsOf] using h
    rcases h' with rfl | rfl | h'
    · rfl
    · rfl
    · exact cellsOf_one r v h'

theorem sized69 : (Try.prog.info? 82).map (·.size) = some 2 := by kernel_rfl

/-- 'copy' of all levels of a slice into a row of the call's own that is as long -/
theorem run_copy_levels {w : World} (ty : TypeId) (B m : Nat) (sp : Option Addr) (l : List Lev) (hL : LevS w sp m m l) (cur : Array Value) (hg : w.heap[B]? = some (.cells cur 82 (0, 0))) (hcs : cur.size = m * 2) :
    ∃ w', (Builtin.copy_ #[24, 24] ty #[.slice (some ⟨B, 0, none⟩) m m, .slice sp m m]).run Try.prog w = .ok (.int .i64 m) w' ∧ LevB w' B m m l ∧ Only B w w' := by
  by_cases h0 : m = 0
  · subst h0
    have hrun := run_copy_noneK (P := Try.prog) 2 w 24 24 ty 82 (some ⟨B, 0, none⟩) sp 0 0 0 0 Try.underlying24 sized69 rfl
    exact ⟨w, hrun, ⟨cur, hg, hcs, fun i hi => by omega⟩, Only.refl _ _⟩
  · obtain ⟨b, off, rfl, hb, hat⟩ := hL.at_ (by omega)
    have hl := hL.len
    have hc := cellsOf_len l
    have hsrc : ∀ j v, (cellsOf l)[j]? = some v → w.cell? ((⟨b, off, none⟩ : Addr).add j) = some v := by
      intro j v hj
      have hjl : j < l.length * 2 := by
        have : j < (cellsOf l).length := by
          rcases Nat.lt_or_ge j (cellsOf l).length with h1 | h1
          · exact h1
          · rw [List.getElem?_eq_none h1] at hj; cases hj
        omega
      have hadd : (⟨b, off, none⟩ : Addr).add j = ⟨b, off + j, none⟩ := by unfold Addr.add; split <;> simp_all
      rw [hadd]
      obtain ⟨c0, c1⟩ := cellsOf_at l (j / 2) (by omega)
      obtain ⟨g0, g1⟩ := hat (j / 2) (by omega)
      by_cases hp : j % 2 = 0
      · have e : j = j / 2 * 2 := by omega
        rw [← e] at c0
        rw [c0] at hj
        rw [show off + j = off + j / 2 * 2 from by omega, g0]
        exact hj
      · have e : j = j / 2 * 2 + 1 := by omega
        rw [← e] at c1
        rw [c1] at hj
        rw [show off + j = off + j / 2 * 2 + 1 from by omega, g1]
        exact hj
    have hrun := run_copy_rowK (P := Try.prog) 2 w 24 24 ty 82 B 0 m m ⟨b, off, none⟩ m m m cur 82 (cellsOf l) Try.underlying24 sized69 hg (by simp) (by omega) hsrc (by omega) (cellsOf_one l)
    have e : (cur.toList.take 0 ++ cellsOf l ++ cur.toList.drop (0 + (cellsOf l).length)).toArray = (cellsOf l).toArray := by
      rw [List.take_zero, List.nil_append, List.drop_eq_nil_of_le (by simp; omega), List.append_nil]
    rw [e] at hrun
    refine ⟨_, hrun, ⟨(cellsOf l).toArray, setRow_heap w B _ _ _ _ hg, by simp; omega, fun i hi => ?_⟩, ⟨rfl, rfl, rfl, by simp [World.setRow], fun k hk => setRow_other w B k _ hk⟩⟩
    · obtain ⟨c0, c1⟩ := cellsOf_at l i (by omega)
      exact ⟨by simpa using c0, by simpa using c1⟩

/-- the copied levels of the times from x on, ahead of y: the first is begun at x -/
def cpd (ls : List Lev) (x y : Int) : List Lev := match dur ls x y with | [] => [] | l :: r => (x, l.2) :: r
theorem cpd_len (ls : List Lev) (x y : Int) : (cpd ls x y).length = (dur ls x y).length := by unfold cpd; split <;> simp_all
theorem cpd_fr0 {ls : List Lev} {x y : Int} (h : 0 < (dur ls x y).length) : fr (cpd ls x y) 0 = x := by
  unfold cpd; split
  · simp_all
  · rfl
theorem cpd_fe {ls : List Lev} {x y : Int} (k : Nat) : fe (cpd ls x y) k = fe (dur ls x y) k := by
  unfold cpd; split
  · simp_all [fe]
  · rename_i e; rw [e]; cases k <;> rfl
theorem cpd_fr {ls : List Lev} {x y : Int} (k : Nat) : fr (cpd ls x y) (k + 1) = fr (dur ls x y) (k + 1) := by
  unfold cpd; split
  · simp_all [fr]
  · rename_i e; rw [e]; rfl

/-- the row behind the store of its first beginning -/
theorem LevB.first {w : World} {B m : Nat} {ls : List Lev} {x y : Int} (h : LevB w B m m (dur ls x y)) (h0 : 0 < m) (hl : (dur ls x y).length = m) :
    LevB (w.setCell ⟨B, 0, none⟩ (.int .i64 x)) B m m (cpd ls x y) := by
  obtain ⟨cur, h1, h2, h3⟩ := h
  refine ⟨_, blk_set h1 _, by simp [h2], fun i hi => ?_⟩
  simp only [Array.getElem?_setIfInBounds]
  rw [cpd_fe]
  cases i with
  | zero =>
    rw [if_pos rfl, if_pos (by omega), if_neg (by omega), cpd_fr0 (by omega)]
    exact ⟨rfl, (h3 0 hi).2⟩
  | succ i =>
    rw [if_neg (by omega), if_neg (by omega), cpd_fr]
    exact h3 (i + 1) hi

set_option maxRecDepth 4000 in
set_option maxHeartbeats 400000 in
theorem copied_any (T x y : Int) (a : Option Addr) (n cap : Nat) (ls : List Lev) (w : World) (h : LevS w a n cap ls) (po : PO T ls) (hx : okB x = true) (hy : okB y = true) :
    Calls Try.prog 111 #[.slice a n cap, .int .i64 x, .int .i64 y] w fun e w' =>
      ∃ B m, e = .returned (.slice (some ⟨B, 0, none⟩) m m) ∧ w.heap.size ≤ B ∧ LevB w' B m m (cpd ls x y) ∧ (cpd ls x y).length = m ∧ m ≤ 200 ∧ Below w.heap.size w w' := by
  have hlen := h.len
  have hn : n ≤ 200 := by have := po.n2; omega
  go_enter Try.func111, Try.ntmps111
  go_wp2_with fail
  refine (during_any T x y a n cap ls _ h po hx hy).mono ?_
  rintro e w1 ⟨a', m, rfl, hS, hb1⟩
  have hl := hS.len
  have hm : m ≤ 200 := by
    have h1 : (dur ls x y).length ≤ ls.length := by
      by_cases c : y ≤ x
      · rw [dur_nil c]; simp
      · rw [dur_cut (by omega), List.length_take, List.length_drop]; omega
    omega
  have hmk := make_levels m (by omega)
  have bx : Below w1.heap.size w1 (w1.alloc (.cells (madeCells #[.int .i64 0, .int .i64 0] (m * 2)) 82)) := (Below.refl _ _).alloc (Nat.le_refl _) _
  obtain ⟨w2, hcp, hL, ho⟩ := run_copy_levels 3 w1.heap.size m a' (dur ls x y) (hS.below bx) (madeCells #[.int .i64 0, .int .i64 0] (m * 2)) (by rw [heap_alloc_new]) (by simp [size_madeCells])
  have hz := hb1.size
  by_cases h0 : m = 0
  · have h00 : ¬ (0 : Int) < (m : Int) := by omega
    have H0 : Hid (m = 0) := h0
    clear h0
    go_wp2
    go_ret
    obtain rfl : m = 0 := H0.out
    exact ⟨_, 0, rfl, hz, by obtain ⟨cur, h1, h2, _⟩ := hL; exact ⟨cur, h1, h2, fun i hi => by omega⟩, by rw [cpd_len]; exact hl, by omega, hb1.then (bx.trans (ho.below (Nat.le_refl _))) hz⟩
  · have hF := hL.first (x := x) (by omega) hl
    obtain ⟨cur, h1, h2, h3⟩ := hL
    have g0 := cell_of_blk 0 h1 (by omega)
    have f0 := free_of_blk 0 h1
    have hp : (0 : Int) < (m : Int) := by omega
    go_wp2
    go_ret
    exact ⟨_, m, rfl, hz, hF, by rw [cpd_len]; exact hl, hm, (hb1.then (bx.trans (ho.below (Nat.le_refl _))) hz).setCell hz _⟩

end Go.Proofs.Ytplcpiglciplkaa
