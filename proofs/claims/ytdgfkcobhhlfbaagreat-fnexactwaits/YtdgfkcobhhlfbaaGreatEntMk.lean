/- A call's own entries, marked: each number by the counter, their parts too. -/
import Derived.Test.YtdgfkcobhhlfbaaGreatEntTo
import Derived.Test.YtdgfkcobhhlfbaaGreatPartMark
namespace Go.Proofs.YtdgfkcobhhlfbaaGreat
open Go.RowKit Go.Sort

set_option maxHeartbeats 1000000 in
theorem markPartK_any (B n c : Nat) (k0 : Int) (ls : List Pt) (w : World) (h : PartB w B c n ls) (hnc : n ≤ c) (hn : n ≤ 1048576) (h0 : 0 ≤ k0) (h1 : k0 ≤ 4503599627370496) :
    Calls Tryz.prog 50 #[.slice (some ⟨B, 0, none⟩) n c, .int .i64 k0] w fun e w' => e = .returned (.int .i64 (k0 + 2 * n)) ∧ PartB w' B c n (ptmarks k0 n) ∧ Only B w w' := by
  go_enter Tryz.func50, Tryz.ntmps50
  go_wp2
  go_loopw [1, 5] (fun m i wr => ∃ k : Nat, k ≤ n ∧ i = .int .i64 k ∧ m = .int .i64 (k0 + 2 * k) ∧ PartB wr B c k (ptmarks k0 n) ∧ Only B w wr) (fun _ i _ => n - (intOf i).toNat)
  case atStart =>
    obtain ⟨cur, hcur, hcs, _⟩ := h
    exact ⟨0, by omega, rfl, by go_num, ⟨cur, hcur, hcs, fun i hi => by omega⟩, Only.refl _ _⟩
  case round =>
    obtain ⟨k, hk, rfl, rfl, ⟨cur, hcur, hcs, hck⟩, hw⟩ := hrel
    by_cases hlt : k < n
    · have HG := ptmarks_g k0 n k hlt
      have g0 := cell_of_blk (k * 2) hcur (by omega)
      have f0 := free_of_blk (k * 2) hcur
      have g1 := cell_of_blk (k * 2 + 1) hcur (by omega)
      have f1 := free_of_blk (k * 2 + 1) hcur
      go_wp2
      go_roundw
      case rel => exact ⟨k + 1, by omega, by go_num, by go_num, PartB.step hcur hcs (Nat.lt_of_lt_of_le hlt hnc) hck (by rw [HG]; unfold ptmark; congr 1 <;> omega), (hw.setCell _ _).setCell _ _⟩
      case measure => simp [intOf]; omega
    · have e : k = n := by omega
      subst e
      go_wp2
      go_ret
      exact ⟨rfl, ⟨cur, hcur, hcs, hck⟩, hw⟩


/-- the counter ahead of entry j -/
def mkTo (ls : List En) (k0 : Int) : Nat → Int
  | 0 => k0
  | j + 1 => mkTo ls k0 j + 10 + 2 * ((eng ls j).ps.length : Int)
/-- an entry marked, x on -/
def mkOne (e : En) (x : Int) : En := ⟨⟨x, x + 1, x + 2, x + 3, x + 4, x + 5, x + 6⟩, x + 7, x + 8, x + 9, ptmarks (x + 10) e.ps.length⟩
/-- the first j marked -/
def mkE (ls : List En) (k0 : Int) (j : Nat) : List En := (List.range ls.length).map fun i => if i < j then mkOne (eng ls i) (mkTo ls k0 i) else eng ls i
theorem mkE_len (ls : List En) (k0 : Int) (j : Nat) : (mkE ls k0 j).length = ls.length := by simp [mkE]
theorem mkE_g {ls : List En} {k0 : Int} {j i : Nat} (h : i < ls.length) : eng (mkE ls k0 j) i = if i < j then mkOne (eng ls i) (mkTo ls k0 i) else eng ls i := by simp [mkE, eng, h]
theorem mkE_zero (ls : List En) (k0 : Int) : mkE ls k0 0 = ls := by
  apply List.ext_getElem?
  intro i
  by_cases h : i < ls.length
  · simp [mkE, eng, h]
  · simp [mkE, h]
theorem mkTo_bd {ls : List En} {k0 : Int} (h0 : 0 ≤ k0) (hp : ∀ i, i < ls.length → (eng ls i).ps.length ≤ 1048576) : ∀ j, j ≤ ls.length → k0 ≤ mkTo ls k0 j ∧ mkTo ls k0 j ≤ k0 + 2097162 * (j : Int)
  | 0, _ => ⟨Int.le_refl _, by show k0 ≤ _; omega⟩
  | j + 1, h => by
    have ih := mkTo_bd h0 hp j (by omega)
    have := hp j (by omega)
    show k0 ≤ mkTo ls k0 j + 10 + 2 * ((eng ls j).ps.length : Int) ∧ mkTo ls k0 j + 10 + 2 * ((eng ls j).ps.length : Int) ≤ _
    push_cast
    omega
/-- blocks from lo up to hi alone have turned -/
structure Mid (lo hi : Nat) (w w' : World) : Prop where
  os : w'.os = w.os
  tape : w'.tape = w.tape
  output : w'.output = w.output
  size : w'.heap.size = w.heap.size
  block : ∀ k, (k < lo ∨ hi ≤ k) → w'.heap[k]? = w.heap[k]?
theorem Mid.refl (lo hi : Nat) (w : World) : Mid lo hi w w := ⟨rfl, rfl, rfl, rfl, fun _ _ => rfl⟩
theorem Mid.trans {lo hi : Nat} {a b c : World} (h : Mid lo hi a b) (h' : Mid lo hi b c) : Mid lo hi a c := ⟨h'.os.trans h.os, h'.tape.trans h.tape, h'.output.trans h.output, h'.size.trans h.size, fun k hk => (h'.block k hk).trans (h.block k hk)⟩
theorem Mid.of_only {lo hi B : Nat} {a b : World} (h : Only B a b) (h1 : lo ≤ B) (h2 : B < hi) : Mid lo hi a b := ⟨h.os, h.tape, h.output, h.size, fun k hk => h.block k (by omega)⟩
theorem Mid.below {lo hi L : Nat} {a b : World} (h : Mid lo hi a b) (hL : L ≤ lo) : Below L a b := ⟨h.os, h.tape, h.output, by rw [h.size]; exact Nat.le_refl _, fun k hk => h.block k (by omega)⟩

/-- ten numbers stored -/
def put10 (cur : Array Value) (j : Nat) (x : Int) : Array Value := (((((((((cur.setIfInBounds (j * 11) (.int .i64 (x))).setIfInBounds (j * 11 + 1) (.int .i64 (x + 1))).setIfInBounds (j * 11 + 2) (.int .i64 (x + 2))).setIfInBounds (j * 11 + 3) (.int .i64 (x + 3))).setIfInBounds (j * 11 + 4) (.int .i64 (x + 4))).setIfInBounds (j * 11 + 5) (.int .i64 (x + 5))).setIfInBounds (j * 11 + 6) (.int .i64 (x + 6))).setIfInBounds (j * 11 + 7) (.int .i64 (x + 7))).setIfInBounds (j * 11 + 8) (.int .i64 (x + 8))).setIfInBounds (j * 11 + 9) (.int .i64 (x + 9))

theorem mkOne_enc (e : En) (x : Int) : ∀ c, c < 10 → enc (mkOne e x) c = x + (c : Int) := by
  intro c hc
  obtain rfl | rfl | rfl | rfl | rfl | rfl | rfl | rfl | rfl | rfl : c = 0 ∨ c = 1 ∨ c = 2 ∨ c = 3 ∨ c = 4 ∨ c = 5 ∨ c = 6 ∨ c = 7 ∨ c = 8 ∨ c = 9 := by omega
  all_goals first | (show x = x + _; simp; done) | rfl
theorem put10_size (cur : Array Value) (j : Nat) (x : Int) : (put10 cur j x).size = cur.size := by simp [put10]
theorem put10_other {cur : Array Value} {j : Nat} {x : Int} {i : Nat} (h : i < j * 11 ∨ j * 11 + 10 ≤ i) : (put10 cur j x)[i]? = cur[i]? := by
  unfold put10
  simp only [Array.getElem?_setIfInBounds]
  rw [if_neg (by omega), if_neg (by omega), if_neg (by omega), if_neg (by omega), if_neg (by omega), if_neg (by omega), if_neg (by omega), if_neg (by omega), if_neg (by omega), if_neg (by omega)]
theorem put10_at {cur : Array Value} {j : Nat} {x : Int} (h : j * 11 + 10 ≤ cur.size) {c : Nat} (hc : c < 10) : (put10 cur j x)[j * 11 + c]? = some (.int .i64 (x + (c : Int))) := by
  unfold put10
  obtain rfl | rfl | rfl | rfl | rfl | rfl | rfl | rfl | rfl | rfl : c = 0 ∨ c = 1 ∨ c = 2 ∨ c = 3 ∨ c = 4 ∨ c = 5 ∨ c = 6 ∨ c = 7 ∨ c = 8 ∨ c = 9 := by omega
  all_goals (simp only [Array.getElem?_setIfInBounds, Array.size_setIfInBounds]; simp; omega)

theorem set10 {W : World} {B j : Nat} {x : Int} {cur : Array Value} {ty : TypeId} (h : W.heap[B]? = some (.cells cur ty (0, 0))) : ((((((((((W.setCell ⟨B, j * 11, none⟩ (.int .i64 (x))).setCell ⟨B, j * 11 + 1, none⟩ (.int .i64 (x + 1))).setCell ⟨B, j * 11 + 2, none⟩ (.int .i64 (x + 2))).setCell ⟨B, j * 11 + 3, none⟩ (.int .i64 (x + 3))).setCell ⟨B, j * 11 + 4, none⟩ (.int .i64 (x + 4))).setCell ⟨B, j * 11 + 5, none⟩ (.int .i64 (x + 5))).setCell ⟨B, j * 11 + 6, none⟩ (.int .i64 (x + 6))).setCell ⟨B, j * 11 + 7, none⟩ (.int .i64 (x + 7))).setCell ⟨B, j * 11 + 8, none⟩ (.int .i64 (x + 8))).setCell ⟨B, j * 11 + 9, none⟩ (.int .i64 (x + 9))).heap[B]? = some (.cells (put10 cur j x) ty (0, 0)) := by
  have h0 : (W.setCell ⟨B, j * 11, none⟩ (.int .i64 (x))).heap[B]? = some (.cells (cur.setIfInBounds (j * 11) (.int .i64 (x))) ty (0, 0)) := blk_set (j := j * 11) h (.int .i64 (x))
  have h1 : ((W.setCell ⟨B, j * 11, none⟩ (.int .i64 (x))).setCell ⟨B, j * 11 + 1, none⟩ (.int .i64 (x + 1))).heap[B]? = some (.cells ((cur.setIfInBounds (j * 11) (.int .i64 (x))).setIfInBounds (j * 11 + 1) (.int .i64 (x + 1))) ty (0, 0)) := blk_set (j := j * 11 + 1) h0 (.int .i64 (x + 1))
  have h2 : (((W.setCell ⟨B, j * 11, none⟩ (.int .i64 (x))).setCell ⟨B, j * 11 + 1, none⟩ (.int .i64 (x + 1))).setCell ⟨B, j * 11 + 2, none⟩ (.int .i64 (x + 2))).heap[B]? = some (.cells (((cur.setIfInBounds (j * 11) (.int .i64 (x))).setIfInBounds (j * 11 + 1) (.int .i64 (x + 1))).setIfInBounds (j * 11 + 2) (.int .i64 (x + 2))) ty (0, 0)) := blk_set (j := j * 11 + 2) h1 (.int .i64 (x + 2))
  have h3 : ((((W.setCell ⟨B, j * 11, none⟩ (.int .i64 (x))).setCell ⟨B, j * 11 + 1, none⟩ (.int .i64 (x + 1))).setCell ⟨B, j * 11 + 2, none⟩ (.int .i64 (x + 2))).setCell ⟨B, j * 11 + 3, none⟩ (.int .i64 (x + 3))).heap[B]? = some (.cells ((((cur.setIfInBounds (j * 11) (.int .i64 (x))).setIfInBounds (j * 11 + 1) (.int .i64 (x + 1))).setIfInBounds (j * 11 + 2) (.int .i64 (x + 2))).setIfInBounds (j * 11 + 3) (.int .i64 (x + 3))) ty (0, 0)) := blk_set (j := j * 11 + 3) h2 (.int .i64 (x + 3))
  have h4 : (((((W.setCell ⟨B, j * 11, none⟩ (.int .i64 (x))).setCell ⟨B, j * 11 + 1, none⟩ (.int .i64 (x + 1))).setCell ⟨B, j * 11 + 2, none⟩ (.int .i64 (x + 2))).setCell ⟨B, j * 11 + 3, none⟩ (.int .i64 (x + 3))).setCell ⟨B, j * 11 + 4, none⟩ (.int .i64 (x + 4))).heap[B]? = some (.cells (((((cur.setIfInBounds (j * 11) (.int .i64 (x))).setIfInBounds (j * 11 + 1) (.int .i64 (x + 1))).setIfInBounds (j * 11 + 2) (.int .i64 (x + 2))).setIfInBounds (j * 11 + 3) (.int .i64 (x + 3))).setIfInBounds (j * 11 + 4) (.int .i64 (x + 4))) ty (0, 0)) := blk_set (j := j * 11 + 4) h3 (.int .i64 (x + 4))
  have h5 : ((((((W.setCell ⟨B, j * 11, none⟩ (.int .i64 (x))).setCell ⟨B, j * 11 + 1, none⟩ (.int .i64 (x + 1))).setCell ⟨B, j * 11 + 2, none⟩ (.int .i64 (x + 2))).setCell ⟨B, j * 11 + 3, none⟩ (.int .i64 (x + 3))).setCell ⟨B, j * 11 + 4, none⟩ (.int .i64 (x + 4))).setCell ⟨B, j * 11 + 5, none⟩ (.int .i64 (x + 5))).heap[B]? = some (.cells ((((((cur.setIfInBounds (j * 11) (.int .i64 (x))).setIfInBounds (j * 11 + 1) (.int .i64 (x + 1))).setIfInBounds (j * 11 + 2) (.int .i64 (x + 2))).setIfInBounds (j * 11 + 3) (.int .i64 (x + 3))).setIfInBounds (j * 11 + 4) (.int .i64 (x + 4))).setIfInBounds (j * 11 + 5) (.int .i64 (x + 5))) ty (0, 0)) := blk_set (j := j * 11 + 5) h4 (.int .i64 (x + 5))
  have h6 : (((((((W.setCell ⟨B, j * 11, none⟩ (.int .i64 (x))).setCell ⟨B, j * 11 + 1, none⟩ (.int .i64 (x + 1))).setCell ⟨B, j * 11 + 2, none⟩ (.int .i64 (x + 2))).setCell ⟨B, j * 11 + 3, none⟩ (.int .i64 (x + 3))).setCell ⟨B, j * 11 + 4, none⟩ (.int .i64 (x + 4))).setCell ⟨B, j * 11 + 5, none⟩ (.int .i64 (x + 5))).setCell ⟨B, j * 11 + 6, none⟩ (.int .i64 (x + 6))).heap[B]? = some (.cells (((((((cur.setIfInBounds (j * 11) (.int .i64 (x))).setIfInBounds (j * 11 + 1) (.int .i64 (x + 1))).setIfInBounds (j * 11 + 2) (.int .i64 (x + 2))).setIfInBounds (j * 11 + 3) (.int .i64 (x + 3))).setIfInBounds (j * 11 + 4) (.int .i64 (x + 4))).setIfInBounds (j * 11 + 5) (.int .i64 (x + 5))).setIfInBounds (j * 11 + 6) (.int .i64 (x + 6))) ty (0, 0)) := blk_set (j := j * 11 + 6) h5 (.int .i64 (x + 6))
  have h7 : ((((((((W.setCell ⟨B, j * 11, none⟩ (.int .i64 (x))).setCell ⟨B, j * 11 + 1, none⟩ (.int .i64 (x + 1))).setCell ⟨B, j * 11 + 2, none⟩ (.int .i64 (x + 2))).setCell ⟨B, j * 11 + 3, none⟩ (.int .i64 (x + 3))).setCell ⟨B, j * 11 + 4, none⟩ (.int .i64 (x + 4))).setCell ⟨B, j * 11 + 5, none⟩ (.int .i64 (x + 5))).setCell ⟨B, j * 11 + 6, none⟩ (.int .i64 (x + 6))).setCell ⟨B, j * 11 + 7, none⟩ (.int .i64 (x + 7))).heap[B]? = some (.cells ((((((((cur.setIfInBounds (j * 11) (.int .i64 (x))).setIfInBounds (j * 11 + 1) (.int .i64 (x + 1))).setIfInBounds (j * 11 + 2) (.int .i64 (x + 2))).setIfInBounds (j * 11 + 3) (.int .i64 (x + 3))).setIfInBounds (j * 11 + 4) (.int .i64 (x + 4))).setIfInBounds (j * 11 + 5) (.int .i64 (x + 5))).setIfInBounds (j * 11 + 6) (.int .i64 (x + 6))).setIfInBounds (j * 11 + 7) (.int .i64 (x + 7))) ty (0, 0)) := blk_set (j := j * 11 + 7) h6 (.int .i64 (x + 7))
  have h8 : (((((((((W.setCell ⟨B, j * 11, none⟩ (.int .i64 (x))).setCell ⟨B, j * 11 + 1, none⟩ (.int .i64 (x + 1))).setCell ⟨B, j * 11 + 2, none⟩ (.int .i64 (x + 2))).setCell ⟨B, j * 11 + 3, none⟩ (.int .i64 (x + 3))).setCell ⟨B, j * 11 + 4, none⟩ (.int .i64 (x + 4))).setCell ⟨B, j * 11 + 5, none⟩ (.int .i64 (x + 5))).setCell ⟨B, j * 11 + 6, none⟩ (.int .i64 (x + 6))).setCell ⟨B, j * 11 + 7, none⟩ (.int .i64 (x + 7))).setCell ⟨B, j * 11 + 8, none⟩ (.int .i64 (x + 8))).heap[B]? = some (.cells (((((((((cur.setIfInBounds (j * 11) (.int .i64 (x))).setIfInBounds (j * 11 + 1) (.int .i64 (x + 1))).setIfInBounds (j * 11 + 2) (.int .i64 (x + 2))).setIfInBounds (j * 11 + 3) (.int .i64 (x + 3))).setIfInBounds (j * 11 + 4) (.int .i64 (x + 4))).setIfInBounds (j * 11 + 5) (.int .i64 (x + 5))).setIfInBounds (j * 11 + 6) (.int .i64 (x + 6))).setIfInBounds (j * 11 + 7) (.int .i64 (x + 7))).setIfInBounds (j * 11 + 8) (.int .i64 (x + 8))) ty (0, 0)) := blk_set (j := j * 11 + 8) h7 (.int .i64 (x + 8))
  have h9 : ((((((((((W.setCell ⟨B, j * 11, none⟩ (.int .i64 (x))).setCell ⟨B, j * 11 + 1, none⟩ (.int .i64 (x + 1))).setCell ⟨B, j * 11 + 2, none⟩ (.int .i64 (x + 2))).setCell ⟨B, j * 11 + 3, none⟩ (.int .i64 (x + 3))).setCell ⟨B, j * 11 + 4, none⟩ (.int .i64 (x + 4))).setCell ⟨B, j * 11 + 5, none⟩ (.int .i64 (x + 5))).setCell ⟨B, j * 11 + 6, none⟩ (.int .i64 (x + 6))).setCell ⟨B, j * 11 + 7, none⟩ (.int .i64 (x + 7))).setCell ⟨B, j * 11 + 8, none⟩ (.int .i64 (x + 8))).setCell ⟨B, j * 11 + 9, none⟩ (.int .i64 (x + 9))).heap[B]? = some (.cells ((((((((((cur.setIfInBounds (j * 11) (.int .i64 (x))).setIfInBounds (j * 11 + 1) (.int .i64 (x + 1))).setIfInBounds (j * 11 + 2) (.int .i64 (x + 2))).setIfInBounds (j * 11 + 3) (.int .i64 (x + 3))).setIfInBounds (j * 11 + 4) (.int .i64 (x + 4))).setIfInBounds (j * 11 + 5) (.int .i64 (x + 5))).setIfInBounds (j * 11 + 6) (.int .i64 (x + 6))).setIfInBounds (j * 11 + 7) (.int .i64 (x + 7))).setIfInBounds (j * 11 + 8) (.int .i64 (x + 8))).setIfInBounds (j * 11 + 9) (.int .i64 (x + 9))) ty (0, 0)) := blk_set (j := j * 11 + 9) h8 (.int .i64 (x + 9))
  exact h9
theorem set10_only (W : World) (B j : Nat) (x : Int) : Only B W ((((((((((W.setCell ⟨B, j * 11, none⟩ (.int .i64 (x))).setCell ⟨B, j * 11 + 1, none⟩ (.int .i64 (x + 1))).setCell ⟨B, j * 11 + 2, none⟩ (.int .i64 (x + 2))).setCell ⟨B, j * 11 + 3, none⟩ (.int .i64 (x + 3))).setCell ⟨B, j * 11 + 4, none⟩ (.int .i64 (x + 4))).setCell ⟨B, j * 11 + 5, none⟩ (.int .i64 (x + 5))).setCell ⟨B, j * 11 + 6, none⟩ (.int .i64 (x + 6))).setCell ⟨B, j * 11 + 7, none⟩ (.int .i64 (x + 7))).setCell ⟨B, j * 11 + 8, none⟩ (.int .i64 (x + 8))).setCell ⟨B, j * 11 + 9, none⟩ (.int .i64 (x + 9))) := ((((((((((Only.refl B W).setCell _ _).setCell _ _).setCell _ _).setCell _ _).setCell _ _).setCell _ _).setCell _ _).setCell _ _).setCell _ _).setCell _ _
theorem EntO.mark {wr w3 : World} {base hi B n j : Nat} {ls ls' : List En} {H : Nat → Option Nat × Nat} (h : EntO wr base hi B n n ls H) (hj : j < n) (x : Int)
    (hl1 : eng ls' j = mkOne (eng ls j) x) (hl2 : ∀ i, i < n → i ≠ j → eng ls' i = eng ls i)
    (hB : ∀ (cur : Array Value) (ty : TypeId), wr.heap[B]? = some (.cells cur ty (0, 0)) → w3.heap[B]? = some (.cells (put10 cur j x) ty (0, 0)))
    (hr : ∀ r, r ≠ B → (H j).1 ≠ some r → w3.heap[r]? = wr.heap[r]?)
    (hP : ∀ g, (H j).1 = some g → PartB w3 g (H j).2 (eng ls j).ps.length (ptmarks (x + 10) (eng ls j).ps.length)) : EntO w3 base hi B n n ls' H := by
  obtain ⟨cur, h1, h2, h3⟩ := h.blk
  refine ⟨h.lo, h.up, ⟨_, hB _ _ h1, by rw [put10_size]; exact h2, fun i hi9 => ?_⟩, fun i hi9 => ?_, h.apart⟩
  · by_cases e : i = j
    · subst e
      refine ⟨fun c hc => ?_, ?_⟩
      · rw [hl1, mkOne_enc _ _ c hc]; exact put10_at (by omega) hc
      · rw [put10_other (Or.inr (Nat.le_refl _)), hl1]
        have := (h3 i hj).2
        rw [this]
        show some (hdr (H i) (eng ls i).ps.length) = some (hdr (H i) (ptmarks (x + 10) (eng ls i).ps.length).length)
        rw [ptmarks_len]
    · obtain ⟨q1, q2⟩ := h3 i hi9
      rw [hl2 i hi9 e]
      refine ⟨fun c hc => ?_, ?_⟩
      · rw [put10_other (by omega)]; exact q1 c hc
      · rw [put10_other (by omega)]; exact q2
  · by_cases e : i = j
    · subst e
      rw [hl1]
      rcases h.kid i hj with ⟨a, b, c⟩ | ⟨g, a, b, c, d, e1, f, f2⟩
      · refine Or.inl ⟨a, b, ?_⟩
        show ptmarks (x + 10) (eng ls i).ps.length = []
        rw [c]; rfl
      · refine Or.inr ⟨g, a, b, c, d, ?_, ?_, f2⟩
        · show PartB w3 g (H i).2 (ptmarks (x + 10) (eng ls i).ps.length).length (ptmarks (x + 10) (eng ls i).ps.length)
          rw [ptmarks_len]; exact hP g a
        · show (ptmarks (x + 10) (eng ls i).ps.length).length ≤ _
          rw [ptmarks_len]; exact f
    · rw [hl2 i hi9 e]
      refine (h.kid i hi9).imp id ?_
      rintro ⟨g, a, b, c, d, e1, f, f2⟩
      exact ⟨g, a, b, c, d, e1.blk (hr g d fun q => h.apart i j hi9 hj e g a q), f, f2⟩

set_option maxRecDepth 8000 in
set_option maxHeartbeats 4000000 in
theorem markEntryS_any (base hi B n : Nat) (k0 : Int) (ls : List En) (H : Nat → Option Nat × Nat) (w : World) (h : EntO w base hi B n n ls H) (hl : ls.length = n) (hn : n ≤ 1048576) (hp : ∀ i, i < n → (eng ls i).ps.length ≤ 1048576) (h0 : 0 ≤ k0) (h1 : k0 ≤ 1073741824) :
    Calls Tryz.prog 27 #[.slice (some ⟨B, 0, none⟩) n n, .int .i64 k0] w fun e w' => e = .returned (.int .i64 (mkTo ls k0 n)) ∧ EntO w' base hi B n n (mkE ls k0 n) H ∧ Mid base hi w w' ∧ (∀ r, r ≠ B → (∀ i, i < n → (H i).1 ≠ some r) → w'.heap[r]? = w.heap[r]?) := by
  have HBD : Hid (∀ j, j ≤ n → k0 ≤ mkTo ls k0 j ∧ mkTo ls k0 j ≤ k0 + 2097162 * (j : Int)) := fun j hj => mkTo_bd h0 (by rw [hl]; exact hp) j (by omega)
  go_enter Tryz.func27, Tryz.ntmps27
  go_wp2
  go_loopw [1, 5] (fun m i wr => ∃ j : Nat, j ≤ n ∧ i = .int .i64 j ∧ m = .int .i64 (mkTo ls k0 j) ∧ Hid (EntO wr base hi B n n (mkE ls k0 j) H) ∧ Hid (Mid base hi w wr) ∧ Hid (∀ r, r ≠ B → (∀ i, i < n → (H i).1 ≠ some r) → wr.heap[r]? = w.heap[r]?)) (fun _ i _ => n - (intOf i).toNat)
  case atStart => exact ⟨0, by omega, rfl, rfl, by rw [mkE_zero]; exact h, Mid.refl _ _ _, fun r _ _ => rfl⟩
  case round =>
    obtain ⟨j, hj, rfl, rfl, HE, HM, HK⟩ := hrel
    rename World => wr
    by_cases hlt : j < n
    · have bd := HBD.out j hj
      have hpj := hp j hlt
      have HG : Hid (∀ i, i < n → eng (mkE ls k0 (j + 1)) i = if i = j then mkOne (eng (mkE ls k0 j) j) (mkTo ls k0 j) else eng (mkE ls k0 j) i) := fun i hi9 => by
        rw [mkE_g (by omega), mkE_g (by omega), mkE_g (by omega)]
        by_cases e : i = j
        · subst e; rw [if_pos rfl, if_pos (by omega), if_neg (by omega)]
        · rw [if_neg e]
          by_cases e2 : i < j
          · rw [if_pos e2, if_pos (by omega)]
          · rw [if_neg e2, if_neg (by omega)]
      have HPL : Hid ((eng (mkE ls k0 j) j).ps.length = (eng ls j).ps.length) := by unfold Hid; rw [mkE_g (by omega), if_neg (by omega)]
      have HTO : Hid (mkTo ls k0 (j + 1) = mkTo ls k0 j + 10 + 2 * ((eng ls j).ps.length : Int)) := rfl
      generalize mkTo ls k0 j = x at bd HG HTO ⊢
      have hx0 : 0 ≤ x := by omega
      have hx1 : x ≤ 4398046511104 := by omega
      obtain ⟨cur, hcur, hcs, hck⟩ := HE.out.blk
      obtain ⟨_, hh⟩ := hck j hlt
      clear hck
      have g0 := cell_of_blk (j * 11) hcur (by omega)
      have f0 := free_of_blk (j * 11) hcur
      have g1 := cell_of_blk (j * 11 + 1) hcur (by omega)
      have f1 := free_of_blk (j * 11 + 1) hcur
      have g2 := cell_of_blk (j * 11 + 2) hcur (by omega)
      have f2 := free_of_blk (j * 11 + 2) hcur
      have g3 := cell_of_blk (j * 11 + 3) hcur (by omega)
      have f3 := free_of_blk (j * 11 + 3) hcur
      have g4 := cell_of_blk (j * 11 + 4) hcur (by omega)
      have f4 := free_of_blk (j * 11 + 4) hcur
      have g5 := cell_of_blk (j * 11 + 5) hcur (by omega)
      have f5 := free_of_blk (j * 11 + 5) hcur
      have g6 := cell_of_blk (j * 11 + 6) hcur (by omega)
      have f6 := free_of_blk (j * 11 + 6) hcur
      have g7 := cell_of_blk (j * 11 + 7) hcur (by omega)
      have f7 := free_of_blk (j * 11 + 7) hcur
      have g8 := cell_of_blk (j * 11 + 8) hcur (by omega)
      have f8 := free_of_blk (j * 11 + 8) hcur
      have g9 := cell_of_blk (j * 11 + 9) hcur (by omega)
      have f9 := free_of_blk (j * 11 + 9) hcur
      go_upto_region 24 with fail
      have e2 : x + 1 + 1 = x + 2 := by omega
      have e3 : x + 2 + 1 = x + 3 := by omega
      have e4 : x + 3 + 1 = x + 4 := by omega
      have e5 : x + 4 + 1 = x + 5 := by omega
      have e6 : x + 5 + 1 = x + 6 := by omega
      have e7 : x + 6 + 1 = x + 7 := by omega
      have e8 : x + 7 + 1 = x + 8 := by omega
      have e9 : x + 8 + 1 = x + 9 := by omega
      have e10 : x + 9 + 1 = x + 10 := by omega
      simp only [e2, e3, e4, e5, e6, e7, e8, e9, e10]
      clear e2 e3 e4 e5 e6 e7 e8 e9 e10 g0 f0 g1 f1 g2 f2 g3 f3 g4 f4 g5 f5 g6 f6 g7 f7 g8 f8 g9 f9
      obtain ⟨W10, hW10⟩ : ∃ W10, W10 = ((((((((((wr.setCell ⟨B, j * 11, none⟩ (.int .i64 (x))).setCell ⟨B, j * 11 + 1, none⟩ (.int .i64 (x + 1))).setCell ⟨B, j * 11 + 2, none⟩ (.int .i64 (x + 2))).setCell ⟨B, j * 11 + 3, none⟩ (.int .i64 (x + 3))).setCell ⟨B, j * 11 + 4, none⟩ (.int .i64 (x + 4))).setCell ⟨B, j * 11 + 5, none⟩ (.int .i64 (x + 5))).setCell ⟨B, j * 11 + 6, none⟩ (.int .i64 (x + 6))).setCell ⟨B, j * 11 + 7, none⟩ (.int .i64 (x + 7))).setCell ⟨B, j * 11 + 8, none⟩ (.int .i64 (x + 8))).setCell ⟨B, j * 11 + 9, none⟩ (.int .i64 (x + 9))) := ⟨_, rfl⟩
      rw [← hW10]
      have HO : Hid (Only B wr W10) := by rw [hW10]; exact set10_only wr B j x
      have hc10 : W10.heap[B]? = some (.cells (put10 cur j x) 64 (0, 0)) := by rw [hW10]; exact set10 hcur
      have HC10 : Hid (∀ (cur : Array Value) (ty : TypeId), wr.heap[B]? = some (.cells cur ty (0, 0)) → W10.heap[B]? = some (.cells (put10 cur j x) ty (0, 0))) := fun cur ty q => by rw [hW10]; exact set10 q
      clear hW10
      have ch : W10.cell? ⟨B, j * 11 + 10, none⟩ = some (hdr (H j) (eng (mkE ls k0 j) j).ps.length) := by
        rw [cell_of_row _ _ _ _ _ _ hc10, put10_other (Or.inr (Nat.le_refl _))]; exact hh
      rw [HPL.out] at ch
      clear hh hc10 hcur hcs
      have hlo := HE.out.lo
      have hup := HE.out.up
      have hw2 : IntKind.i64.wrap (x + 10) = x + 10 := by rw [IntKind.wrap_i64]; omega
      rcases HE.out.kid j hlt with ⟨a1, a2, a3⟩ | ⟨g, a1, a2, a3, a4, a5, a6, a7⟩
      · have hz : (eng ls j).ps.length = 0 := by rw [← HPL.out, a3]; rfl
        have hd : hdr (H j) (eng ls j).ps.length = .slice none 0 0 := by unfold hdr; rw [a1, a2, hz]; rfl
        rw [hd] at ch
        have HE2 : Hid (EntO W10 base hi B n n (mkE ls k0 (j + 1)) H) := HE.out.mark hlt x (by rw [HG.out j hlt, if_pos rfl]) (fun i hi9 e => by rw [HG.out i hi9, if_neg e]) HC10.out (fun r h9 _ => HO.out.block r h9) (fun q h9 => by rw [a1] at h9; cases h9)
        have HM2 : Hid (Mid base hi w W10) := HM.out.trans (Mid.of_only HO.out hlo hup)
        have HK2 : Hid (∀ r, r ≠ B → (∀ i, i < n → (H i).1 ≠ some r) → W10.heap[r]? = w.heap[r]?) := fun r h8 h9 => (HO.out.block r h8).trans (HK.out r h8 h9)
        have HT2 : Hid (mkTo ls k0 (j + 1) = x + 10) := by unfold Hid; rw [HTO.out, hz]; omega
        clear HE HM HK HO HC10 HG HTO HPL HBD
        go_wp2_with (go_at_call 50; refine (markNilPart_any (x + 10) _).mono ?_; rintro e w' ⟨rfl, hq⟩; have hq' := hq.symm; clear hq; subst hq')
        go_roundw
        case rel => exact ⟨j + 1, by omega, by go_num, by rw [HT2.out], HE2, HM2, HK2⟩
        case measure => simp [intOf]; omega
      · have hd : hdr (H j) (eng ls j).ps.length = .slice (some ⟨g, 0, none⟩) (eng ls j).ps.length (H j).2 := by unfold hdr; rw [a1]; rfl
        rw [hd] at ch
        rw [HPL.out] at a5 a6
        have CM := markPartK_any g (eng ls j).ps.length (H j).2 (x + 10) (eng (mkE ls k0 j) j).ps W10 (a5.blk (HO.out.block g a4)) a6 hpj (by omega) (by omega)
        have HF : Hid (∀ w', PartB w' g (H j).2 (eng ls j).ps.length (ptmarks (x + 10) (eng ls j).ps.length) → Only g W10 w' → EntO w' base hi B n n (mkE ls k0 (j + 1)) H ∧ Mid base hi w w' ∧ (∀ r, r ≠ B → (∀ i, i < n → (H i).1 ≠ some r) → w'.heap[r]? = w.heap[r]?)) := fun w' b1 b2 =>
          ⟨HE.out.mark hlt x (by rw [HG.out j hlt, if_pos rfl]) (fun i hi9 e => by rw [HG.out i hi9, if_neg e]) (fun cur ty q => (b2.block B (fun e => a4 e.symm)).trans (HC10.out cur ty q)) (fun r h9 h10 => (b2.block r (fun e => h10 (by rw [e]; exact a1))).trans (HO.out.block r h9)) (fun q h9 => by
            rw [a1] at h9
            obtain rfl := Option.some.inj h9
            rw [HPL.out]; exact b1), (HM.out.trans (Mid.of_only HO.out hlo hup)).trans (Mid.of_only b2 a2 a3), fun r h8 h9 => (b2.block r (fun e => h9 j hlt (by rw [e]; exact a1))).trans ((HO.out.block r h8).trans (HK.out r h8 h9))⟩
        clear HE HM HK HO HC10 HG HPL HBD a1 a2 a3 a4 a5 a6 a7
        generalize (eng ls j).ps.length = m at ch CM HF HTO hpj
        go_wp2_with (go_at_call 50; refine CM.mono ?_; rintro e w' ⟨rfl, b1, b2⟩; have HZ : Hid _ := HF.out w' b1 b2; clear b1 b2)
        go_roundw
        case rel => exact ⟨j + 1, by omega, by go_num, by rw [HTO.out], HZ.out.1, HZ.out.2.1, HZ.out.2.2⟩
        case measure => simp [intOf]; omega
    · obtain rfl : j = n := by omega
      have hnn : ¬ (j : Int) < (j : Int) := by omega
      go_wp2
      go_ret
      exact ⟨rfl, HE.out, HM.out, HK.out⟩

end Go.Proofs.YtdgfkcobhhlfbaaGreat
