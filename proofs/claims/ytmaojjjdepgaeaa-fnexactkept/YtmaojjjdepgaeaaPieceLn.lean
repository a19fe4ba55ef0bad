/- Lines: arrays of forty numbers, loaded, stored and compared whole; lineOfJobs of the program. -/
import Derived.Test.YtmaojjjdepgaeaaJobsOk
import Derived.Test.YtmaojjjdepgaeaaInts
import Derived.Laws.Rows
import Derived.Laws.ResultCell
import Derived.ChangeKeysEq
import Derived.Laws.StructEq
namespace Go.Proofs.Ytmaojjjdepgaeaa
open Go.RowKit

/-- numbers as cells -/
def ar (zs : List Int) : Array Value := (zs.map (Value.int .i64)).toArray
theorem ar_size (zs : List Int) : (ar zs).size = zs.length := by simp [ar]
theorem ar_one (zs : List Int) : (ar zs).all (·.oneCell') = true := by
  rw [Array.all_eq_true_iff_forall_mem]
  intro v hv
  obtain ⟨z, _, rfl⟩ := List.mem_map.1 (show v ∈ zs.map (Value.int .i64) by simpa [ar] using hv)
  rfl
theorem ar_at {zs : List Int} {k : Nat} (hk : k < zs.length) : (ar zs)[k]? = some (.int .i64 (zg zs k)) := by simp [ar, zg, hk]
theorem ar_set {zs : List Int} {k : Nat} {v : Int} : (ar zs).setIfInBounds k (.int .i64 v) = ar (zs.set k v) := by
  apply Array.ext_getElem?
  intro i
  simp only [ar, Array.getElem?_setIfInBounds, List.getElem?_toArray, List.getElem?_map, List.getElem?_set, List.size_toArray, List.length_map]
  by_cases e : k = i
  · subst e; simp only [if_true]; split <;> simp
  · simp [e]
/-- block B is a line -/
def LnB (w : World) (B : Nat) (zs : List Int) : Prop := w.heap[B]? = some (.cells (ar zs) 89 (0, 0)) ∧ zs.length = 40
theorem LnB.cell {w : World} {B : Nat} {zs : List Int} (h : LnB w B zs) {k : Nat} (hk : k < 40) : w.cell? ⟨B, k, none⟩ = some (.int .i64 (zg zs k)) := by
  rw [cell_of_row _ _ _ _ _ _ h.1]; exact ar_at (by rw [h.2]; exact hk)
theorem LnB.free {w : World} {B : Nat} {zs : List Int} (h : LnB w B zs) (k : Nat) : w.frozen? ⟨B, k, none⟩ = false := free_of_blk k h.1
theorem LnB.lt {w : World} {B : Nat} {zs : List Int} (h : LnB w B zs) : B < w.heap.size := (Array.getElem?_eq_some_iff.1 h.1).1
theorem LnB.set {w : World} {B : Nat} {zs : List Int} (h : LnB w B zs) (k : Nat) (v : Int) : LnB (w.setCell ⟨B, k, none⟩ (.int .i64 v)) B (zs.set k v) :=
  ⟨by rw [← ar_set]; exact blk_set (j := k) h.1 _, by rw [List.length_set]; exact h.2⟩
theorem LnB.keep {w w' : World} {B : Nat} {zs : List Int} (h : LnB w B zs) (hb : w'.heap[B]? = w.heap[B]?) : LnB w' B zs := ⟨hb.trans h.1, h.2⟩
theorem LnB.below {w w' : World} {B : Nat} {zs : List Int} (h : LnB w B zs) (hb : Below w.heap.size w w') : LnB w' B zs := h.keep (hb.block B h.lt)
theorem sizedLn : (Try.prog.info? 89).map (·.size) = some 40 := by kernel_rfl

theorem eqItems_ints (d : Nat) (w : World) : ∀ (is : List Nat) (xs ys : List Int), (∀ i ∈ is, i < xs.length ∧ i < ys.length) →
    (Op.eqItems (d + 1) 2 (Try.prog.cellsOf 2) (ar xs) (ar ys) is).run Try.prog w = .ok (is.all fun i => zg xs i == zg ys i) w
  | [], _, _, _ => by simp [Op.eqItems]
  | i :: is, xs, ys, h => by
    have ih := eqItems_ints d w is xs ys fun j hj => h j (List.mem_cons_of_mem _ hj)
    obtain ⟨h1, h2⟩ := h i List.mem_cons_self
    have ec : Try.prog.cellsOf 2 = 1 := by kernel_rfl
    have hp : Try.prog.plainKey 2 = true := by kernel_rfl
    have px : (part 2 (ar xs) (i * 1)).run Try.prog w = .ok (.int .i64 (zg xs i)) w := run_part_plain w hp (by rw [Nat.mul_one]; exact ar_at h1)
    have py : (part 2 (ar ys) (i * 1)).run Try.prog w = .ok (.int .i64 (zg ys i)) w := run_part_plain w hp (by rw [Nat.mul_one]; exact ar_at h2)
    rw [ec] at ih ⊢
    simp only [Op.eqItems, Sem.run_bind, px, py, Result.andThen_ok, run_equalIn_int (P := Try.prog) w d 2 .i64 .i64 _ _ Try.underlying2]
    rcases hb : (zg xs i == zg ys i) with _ | _
    · simp [hb]
    · simp [hb, ih]

/-- lines are alike where each number is -/
def eqL (xs ys : List Int) : Bool := (List.range 40).all fun i => zg xs i == zg ys i
theorem eqL_iff {xs ys : List Int} : eqL xs ys = true ↔ ∀ i, i < 40 → zg xs i = zg ys i := by unfold eqL; simp
theorem run_eqLine (w : World) (d : Nat) (xs ys : List Int) (hx : xs.length = 40) (hy : ys.length = 40) : (Op.equalIn (d + 2) 89 (.agg (ar xs)) (.agg (ar ys))).run Try.prog w = .ok (eqL xs ys) w := by
  obtain ⟨i1, hi, _⟩ := info_parts infoI
  rw [run_equalIn_array (P := Try.prog) w (d + 1) (ar xs) (ar ys) Try.underlying89 hi]
  exact eqItems_ints d w (List.range 40) xs ys fun i hi => by have := List.mem_range.1 hi; omega

/-- what the jobs ask for, the first k -/
def lnJ (ls : List Jb) (k : Nat) : List Int := (List.range 40).map fun i => if i < k then (jg ls i).long else 0
theorem lnJ_len (ls : List Jb) (k : Nat) : (lnJ ls k).length = 40 := by simp [lnJ]
theorem lnJ_at {ls : List Jb} {k i : Nat} (hi : i < 40) : zg (lnJ ls k) i = if i < k then (jg ls i).long else 0 := by simp [zg, lnJ, hi]
theorem lnJ_set (ls : List Jb) (k : Nat) : (lnJ ls k).set k (jg ls k).long = lnJ ls (k + 1) := by
  apply List.ext_getElem (by simp [lnJ])
  intro i h1 h2
  rw [List.getElem_set]
  simp only [lnJ, List.getElem_map, List.getElem_range]
  by_cases e : k = i
  · subst e; simp
  · rw [if_neg e]; by_cases h : i < k <;> simp [h, show (i < k + 1) ↔ (i < k) by omega]
def z40 : List Int := List.replicate 40 0
theorem z40_len : z40.length = 40 := rfl
theorem ar_z40 : (#[.int .i64 0, .int .i64 0, .int .i64 0, .int .i64 0, .int .i64 0, .int .i64 0, .int .i64 0, .int .i64 0, .int .i64 0, .int .i64 0, .int .i64 0, .int .i64 0, .int .i64 0, .int .i64 0, .int .i64 0, .int .i64 0, .int .i64 0, .int .i64 0, .int .i64 0, .int .i64 0, .int .i64 0, .int .i64 0, .int .i64 0, .int .i64 0, .int .i64 0, .int .i64 0, .int .i64 0, .int .i64 0, .int .i64 0, .int .i64 0, .int .i64 0, .int .i64 0, .int .i64 0, .int .i64 0, .int .i64 0, .int .i64 0, .int .i64 0, .int .i64 0, .int .i64 0, .int .i64 0] : Array Value) = ar z40 := rfl
theorem lnJ_0 (ls : List Jb) : lnJ ls 0 = z40 := by
  have e : ∀ i ∈ List.range 40, (if i < 0 then (jg ls i).long else 0) = (fun _ => (0 : Int)) i := fun i _ => by simp
  unfold lnJ
  rw [List.map_congr_left e]
  rfl
theorem heap_old (w : World) (o : Obj) (B : Nat) (h : B < w.heap.size) : (w.alloc o).heap[B]? = w.heap[B]? := Below.heap_alloc _ _ _ h
theorem heap_new (w : World) (o : Obj) : (w.alloc o).heap[w.heap.size]? = some o := by
  show (w.heap.push o)[w.heap.size]? = some o
  simp

theorem setRow_below {B g : Nat} {w0 w : World} (h : Below B w0 w) (hg : B ≤ g) (c : Array Value) : Below B w0 (w.setRow g c) :=
  ⟨h.os, h.tape, h.output, by simpa [World.setRow] using h.size, fun k hk => (setRow_other w g k _ (by omega)).trans (h.block k hk)⟩

set_option maxRecDepth 8000 in
set_option maxHeartbeats 2000000 in
theorem lineOfJobs_any (a : Option Addr) (n cap : Nat) (ls : List Jb) (w : World) (h : JobS w a n cap ls) (hn : n ≤ 40) :
    Calls Try.prog 86 #[.slice a n cap] w fun e w' => e = .returned (.agg (ar (lnJ ls n))) ∧ Below w.heap.size w w' := by
  have hlen := h.len
  have hm := h.mx
  have hle := h.le
  unfold maxLen at hm
  go_enter Try.func86, Try.ntmps86
  go_wp2
  rw [ar_z40]
  obtain ⟨W0, hW0⟩ : ∃ W0, W0 = (w.alloc (.cells (ar z40) 89)).alloc (.cells (ar z40) 89) := ⟨_, rfl⟩
  have B0 : Below w.heap.size w W0 := by rw [hW0]; exact ((Below.refl _ _).alloc (Nat.le_refl _) _).alloc (by simp) _
  have L0 : LnB W0 w.heap.size z40 := by rw [hW0]; exact ⟨(heap_old _ _ _ (by simp)).trans (heap_new _ _), rfl⟩
  have L1 : LnB W0 (w.heap.size + 1) (lnJ ls 0) := by
    rw [hW0, lnJ_0]
    have := heap_new (w.alloc (.cells (ar z40) 89)) (.cells (ar z40) 89)
    rw [show (w.alloc (.cells (ar z40) 89)).heap.size = w.heap.size + 1 by simp] at this
    exact ⟨this, rfl⟩
  rw [← hW0]
  clear hW0
  go_loopw [4, 5, 8] (fun _ _ i wr => ∃ k : Nat, k ≤ n ∧ i = .int .i64 k ∧ Hid (LnB wr w.heap.size z40) ∧ Hid (LnB wr (w.heap.size + 1) (lnJ ls k)) ∧ Below w.heap.size w wr) (fun _ _ i _ => n - (intOf i).toNat)
  case atStart => exact ⟨0, by omega, rfl, L0, L1, B0⟩
  case round =>
    obtain ⟨k, hk, rfl, HA, HB, hw⟩ := hrel
    rename World => wr
    by_cases hlt : k < n
    · obtain ⟨b, off, rfl, hbw, hat⟩ := h.at_ (by omega)
      obtain ⟨hc0, hc1, hc2, hc3, hc4, hc5, hc6⟩ := (hat.below hw hbw).job (i := k) (by omega)
      have hlt' : (k : Int) < (n : Int) := by omega
      have hk40 : (k : Int) < 40 := by omega
      have hz := HB.out.lt
      have cl := HB.out.cell (k := k) (by omega)
      have fr := HB.out.free k
      obtain ⟨W2, hW2⟩ : ∃ W2, W2 = (wr.setCell ⟨w.heap.size + 1, k, none⟩ (.int .i64 (jg ls k).long)).alloc (.cells #[.int .i64 (jg ls k).id, .int .i64 (jg ls k).cores, .int .i64 (jg ls k).long, .int .i64 (jg ls k).due, .int .i64 (jg ls k).wt, .int .i64 (jg ls k).rank, .int .i64 (jg ls k).at_] 49) := ⟨_, rfl⟩
      have z1 : (wr.setCell ⟨w.heap.size + 1, k, none⟩ (.int .i64 (jg ls k).long)).heap.size = wr.heap.size := by simp [World.setCell]
      have HS : Hid (LnB W2 (w.heap.size + 1) (lnJ ls (k + 1))) := by
        have := HB.out.set k (jg ls k).long
        rw [lnJ_set] at this
        rw [hW2]; exact this.keep (heap_old _ _ _ (by rw [z1]; exact hz))
      have HT : Hid (LnB W2 w.heap.size z40) := by
        rw [hW2]; exact HA.out.keep ((heap_old _ _ _ (by rw [z1]; omega)).trans (Below.heap_setCell _ _ _ _ (by simp)))
      have HU : Hid (Below w.heap.size w W2) := by rw [hW2]; exact (hw.setCell (by simp) _).alloc (by rw [z1]; exact hw.size) _
      clear z1
      go_wp2
      rw [← hW2]
      go_roundw
      case rel => exact ⟨k + 1, by omega, by go_num, HT, HS, HU.out⟩
      case measure => simp [intOf]; omega
    · obtain rfl : k = n := by omega
      have sz : (Try.prog.info? 89).map (·.size) = some (ar (lnJ ls k)).size := by rw [ar_size, lnJ_len]; exact sizedLn
      have sz0 : (ar z40).size = (ar (lnJ ls k)).size := by rw [ar_size, ar_size, lnJ_len]; rfl
      go_wp2_with (first
        | (refine wpList_load_row rfl 89 (.tmp 3) rfl (w.heap.size + 1) rfl 89 (ar (lnJ ls k)) (0, 0) _ HB.out.1 Try.underlying89 rfl sz ?_)
        | (refine wpList_plain rfl fun _ hK => wp_store_row 89 (.tmp 2) (.tmp 18) rfl w.heap.size (ar (lnJ ls k)) rfl rfl 89 (ar z40) HA.out.1 sz sz0 (ar_one _) (hK _ _ ?_)))
      refine bodyPost_ret (v := .agg (ar (lnJ ls k))) (results_cell_row rfl _ _ w.heap.size 89 (ar (lnJ ls k)) (0, 0) _ rfl (setRow_heap wr w.heap.size _ _ _ _ HA.out.1) Try.underlying89 rfl sz) rfl ⟨rfl, setRow_below hw (Nat.le_refl _) _⟩
end Go.Proofs.Ytmaojjjdepgaeaa
