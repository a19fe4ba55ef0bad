/- Several texts in one. -/
import Derived.Test.YtnndkdonbjeejaaJobsOk
import Derived.Test.YtnndkdonbjeejaaInts
import Derived.Laws.Rows
import Derived.Laws.ResultCell
import Derived.ChangeKeysEq
import Derived.Laws.StructEq
import Derived.Test.YtnndkdonbjeejaaPieceOkS
/- Lines: arrays of forty numbers, loaded, stored and compared whole; lineOfJobs of the program. -/
namespace Go.Proofs.Ytnndkdonbjeejaa
open Go.RowKit

/-- numbers as cells -/
def ar (zs : List Int) : Array Value := (zs.map (Value.int .i64)).toArray
theorem ar_size (zs : List Int) : (ar zs).size = zs.length := by simp [ar]
theorem ar_one (zs : List Int) : (ar zs).all (·.oneCell') = true := by
  rw [Array.all_eq_true_iff_forall_mem]
  intro v hv
  obtain ⟨z, _, rfl⟩ := List.mem_map.1 (show v ∈ zs.map (Value.int .i64) by simpa [ar] using hv)
  rfl
theorem ar_at {zs : List Int} {k : Nat} (hk : k < zs.length) : (ar zs)[k]? = some (.int .i64 (zg zs k)) := by simp [ar, zg, hk]
theorem ar_set {zs : List Int} {k : Nat} {v : Int} : (ar zs).setIfInBounds k (.int .i64 v) = ar (zs.set k v) := by
  apply Array.ext_getElem?
  intro i
  simp only [ar, Array.getElem?_setIfInBounds, List.getElem?_toArray, List.getElem?_map, List.getElem?_set, List.size_toArray, List.length_map]
  by_cases e : k = i
  · subst e; simp only [if_true]; split <;> simp
  · simp [e]
/-- block B is a line -/
def LnB (w : World) (B : Nat) (zs : List Int) : Prop := w.heap[B]? = some (.cells (ar zs) 65 (0, 0)) ∧ zs.length = 40
theorem LnB.cell {w : World} {B : Nat} {zs : List Int} (h : LnB w B zs) {k : Nat} (hk : k < 40) : w.cell? ⟨B, k, none⟩ = some (.int .i64 (zg zs k)) := by
  rw [cell_of_row _ _ _ _ _ _ h.1]; exact ar_at (by rw [h.2]; exact hk)
theorem LnB.free {w : World} {B : Nat} {zs : List Int} (h : LnB w B zs) (k : Nat) : w.frozen? ⟨B, k, none⟩ = false := free_of_blk k h.1
theorem LnB.lt {w : World} {B : Nat} {zs : List Int} (h : LnB w B zs) : B < w.heap.size := (Array.getElem?_eq_some_iff.1 h.1).1
theorem LnB.set {w : World} {B : Nat} {zs : List Int} (h : LnB w B zs) (k : Nat) (v : Int) : LnB (w.setCell ⟨B, k, none⟩ (.int .i64 v)) B (zs.set k v) :=
  ⟨by rw [← ar_set]; exact blk_set (j := k) h.1 _, by rw [List.length_set]; exact h.2⟩
theorem LnB.keep {w w' : World} {B : Nat} {zs : List Int} (h : LnB w B zs) (hb : w'.heap[B]? = w.heap[B]?) : LnB w' B zs := ⟨hb.trans h.1, h.2⟩
theorem LnB.below {w w' : World} {B : Nat} {zs : List Int} (h : LnB w B zs) (hb : Below w.heap.size w w') : LnB w' B zs := h.keep (hb.block B h.lt)
theorem sizedLn : (Try.prog.info? 65).map (·.size) = some 40 := by kernel_rfl

theorem eqItems_ints (d : Nat) (w : World) : ∀ (is : List Nat) (xs ys : List Int), (∀ i ∈ is, i < xs.length ∧ i < ys.length) →
    (Op.eqItems (d + 1) 2 (Try.prog.cellsOf 2) (ar xs) (ar ys) is).run Try.prog w = .ok (is.all fun i => zg xs i == zg ys i) w
  | [], _, _, _ => by simp [Op.eqItems]
  | i :: is, xs, ys, h => by
    have ih := eqItems_ints d w is xs ys fun j hj => h j (List.mem_cons_of_mem _ hj)
    obtain ⟨h1, h2⟩ := h i List.mem_cons_self
    have ec : Try.prog.cellsOf 2 = 1 := by kernel_rfl
    have hp : Try.prog.plainKey 2 = true := by kernel_rfl
    have px : (part 2 (ar xs) (i * 1)).run Try.prog w = .ok (.int .i64 (zg xs i)) w := run_part_plain w hp (by rw [Nat.mul_one]; exact ar_at h1)
    have py : (part 2 (ar ys) (i * 1)).run Try.prog w = .ok (.int .i64 (zg ys i)) w := run_part_plain w hp (by rw [Nat.mul_one]; exact ar_at h2)
    rw [ec] at ih ⊢
    simp only [Op.eqItems, Sem.run_bind, px, py, Result.andThen_ok, run_equalIn_int (P := Try.prog) w d 2 .i64 .i64 _ _ Try.underlying2]
    rcases hb : (zg xs i == zg ys i) with _ | _
    · simp [hb]
    · simp [hb, ih]

/-- lines are alike where each number is -/
def eqL (xs ys : List Int) : Bool := (List.range 40).all fun i => zg xs i == zg ys i
theorem eqL_iff {xs ys : List Int} : eqL xs ys = true ↔ ∀ i, i < 40 → zg xs i = zg ys i := by unfold eqL; simp
theorem run_eqLine (w : World) (d : Nat) (xs ys : List Int) (hx : xs.length = 40) (hy : ys.length = 40) : (Op.equalIn (d + 2) 65 (.agg (ar xs)) (.agg (ar ys))).run Try.prog w = .ok (eqL xs ys) w := by
  obtain ⟨i1, hi, _⟩ := info_parts infoI
  rw [run_equalIn_array (P := Try.prog) w (d + 1) (ar xs) (ar ys) Try.underlying65 hi]
  exact eqItems_ints d w (List.range 40) xs ys fun i hi => by have := List.mem_range.1 hi; omega

/-- what the jobs ask for, the first k -/
def lnJ (ls : List Jb) (k : Nat) : List Int := (List.range 40).map fun i => if i < k then (jg ls i).long else 0
theorem lnJ_len (ls : List Jb) (k : Nat) : (lnJ ls k).length = 40 := by simp [lnJ]
theorem lnJ_at {ls : List Jb} {k i : Nat} (hi : i < 40) : zg (lnJ ls k) i = if i < k then (jg ls i).long else 0 := by simp [zg, lnJ, hi]
theorem lnJ_set (ls : List Jb) (k : Nat) : (lnJ ls k).set k (jg ls k).long = lnJ ls (k + 1) := by
  apply List.ext_getElem (by simp [lnJ])
  intro i h1 h2
  rw [List.getElem_set]
  simp only [lnJ, List.getElem_map, List.getElem_range]
  by_cases e : k = i
  · subst e; simp
  · rw [if_neg e]; by_cases h : i < k <;> simp [h, show (i < k + 1) ↔ (i < k) by omega]
def z40 : List Int := List.replicate 40 0
theorem z40_len : z40.length = 40 := rfl
theorem ar_z40 : (#[.int .i64 0, .int .i64 0, .int .i64 0, .int .i64 0, .int .i64 0, .int .i64 0, .int .i64 0, .int .i64 0, .int .i64 0, .int .i64 0, .int .i64 0, .int .i64 0, .int .i64 0, .int .i64 0, .int .i64 0, .int .i64 0, .int .i64 0, .int .i64 0, .int .i64 0, .int .i64 0, .int .i64 0, .int .i64 0, .int .i64 0, .int .i64 0, .int .i64 0, .int .i64 0, .int .i64 0, .int .i64 0, .int .i64 0, .int .i64 0, .int .i64 0, .int .i64 0, .int .i64 0, .int .i64 0, .int .i64 0, .int .i64 0, .int .i64 0, .int .i64 0, .int .i64 0, .int .i64 0] : Array Value) = ar z40 := rfl
theorem lnJ_0 (ls : List Jb) : lnJ ls 0 = z40 := by
  have e : ∀ i ∈ List.range 40, (if i < 0 then (jg ls i).long else 0) = (fun _ => (0 : Int)) i := fun i _ => by simp
  unfold lnJ
  rw [List.map_congr_left e]
  rfl
theorem heap_old (w : World) (o : Obj) (B : Nat) (h : B < w.heap.size) : (w.alloc o).heap[B]? = w.heap[B]? := Below.heap_alloc _ _ _ h
theorem heap_new (w : World) (o : Obj) : (w.alloc o).heap[w.heap.size]? = some o := by
  show (w.heap.push o)[w.heap.size]? = some o
  simp

theorem setRow_below {B g : Nat} {w0 w : World} (h : Below B w0 w) (hg : B ≤ g) (c : Array Value) : Below B w0 (w.setRow g c) :=
  ⟨h.os, h.tape, h.output, by simpa [World.setRow] using h.size, fun k hk => (setRow_other w g k _ (by omega)).trans (h.block k hk)⟩

set_option maxRecDepth 8000 in
set_option maxHeartbeats 2000000 in
theorem lineOfJobs_any (a : Option Addr) (n cap : Nat) (ls : List Jb) (w : World) (h : JobS w a n cap ls) (hn : n ≤ 40) :
    Calls Try.prog 43 #[.slice a n cap] w fun e w' => e = .returned (.agg (ar (lnJ ls n))) ∧ Below w.heap.size w w' := by
  have hlen := h.len
  have hm := h.mx
  have hle := h.le
  unfold maxLen at hm
  go_enter Try.func43, Try.ntmps43
  go_wp2
  rw [ar_z40]
  obtain ⟨W0, hW0⟩ : ∃ W0, W0 = (w.alloc (.cells (ar z40) 65)).alloc (.cells (ar z40) 65) := ⟨_, rfl⟩
  have B0 : Below w.heap.size w W0 := by rw [hW0]; exact ((Below.refl _ _).alloc (Nat.le_refl _) _).alloc (by simp) _
  have L0 : LnB W0 w.heap.size z40 := by rw [hW0]; exact ⟨(heap_old _ _ _ (by simp)).trans (heap_new _ _), rfl⟩
  have L1 : LnB W0 (w.heap.size + 1) (lnJ ls 0) := by
    rw [hW0, lnJ_0]
    have := heap_new (w.alloc (.cells (ar z40) 65)) (.cells (ar z40) 65)
    rw [show (w.alloc (.cells (ar z40) 65)).heap.size = w.heap.size + 1 by simp] at this
    exact ⟨this, rfl⟩
  rw [← hW0]
  clear hW0
  go_loopw [4, 5, 8] (fun _ _ i wr => ∃ k : Nat, k ≤ n ∧ i = .int .i64 k ∧ Hid (LnB wr w.heap.size z40) ∧ Hid (LnB wr (w.heap.size + 1) (lnJ ls k)) ∧ Below w.heap.size w wr) (fun _ _ i _ => n - (intOf i).toNat)
  case atStart => exact ⟨0, by omega, rfl, L0, L1, B0⟩
  case round =>
    obtain ⟨k, hk, rfl, HA, HB, hw⟩ := hrel
    rename World => wr
    by_cases hlt : k < n
    · obtain ⟨b, off, rfl, hbw, hat⟩ := h.at_ (by omega)
      obtain ⟨hc0, hc1, hc2, hc3, hc4, hc5, hc6⟩ := (hat.below hw hbw).job (i := k) (by omega)
      have hlt' : (k : Int) < (n : Int) := by omega
      have hk40 : (k : Int) < 40 := by omega
      have hz := HB.out.lt
      have cl := HB.out.cell (k := k) (by omega)
      have fr := HB.out.free k
      obtain ⟨W2, hW2⟩ : ∃ W2, W2 = (wr.setCell ⟨w.heap.size + 1, k, none⟩ (.int .i64 (jg ls k).long)).alloc (.cells #[.int .i64 (jg ls k).id, .int .i64 (jg ls k).cores, .int .i64 (jg ls k).long, .int .i64 (jg ls k).due, .int .i64 (jg ls k).wt, .int .i64 (jg ls k).rank, .int .i64 (jg ls k).at_] 40) := ⟨_, rfl⟩
      have z1 : (wr.setCell ⟨w.heap.size + 1, k, none⟩ (.int .i64 (jg ls k).long)).heap.size = wr.heap.size := by simp [World.setCell]
      have HS : Hid (LnB W2 (w.heap.size + 1) (lnJ ls (k + 1))) := by
        have := HB.out.set k (jg ls k).long
        rw [lnJ_set] at this
        rw [hW2]; exact this.keep (heap_old _ _ _ (by rw [z1]; exact hz))
      have HT : Hid (LnB W2 w.heap.size z40) := by
        rw [hW2]; exact HA.out.keep ((heap_old _ _ _ (by rw [z1]; omega)).trans (Below.heap_setCell _ _ _ _ (by simp)))
      have HU : Hid (Below w.heap.size w W2) := by rw [hW2]; exact (hw.setCell (by simp) _).alloc (by rw [z1]; exact hw.size) _
      clear z1
      go_wp2
      rw [← hW2]
      go_roundw
      case rel => exact ⟨k + 1, by omega, by go_num, HT, HS, HU.out⟩
      case measure => simp [intOf]; omega
    · obtain rfl : k = n := by omega
      have sz : (Try.prog.info? 65).map (·.size) = some (ar (lnJ ls k)).size := by rw [ar_size, lnJ_len]; exact sizedLn
      have sz0 : (ar z40).size = (ar (lnJ ls k)).size := by rw [ar_size, ar_size, lnJ_len]; rfl
      go_wp2_with (first
        | (refine wpList_load_row rfl 65 (.tmp 3) rfl (w.heap.size + 1) rfl 65 (ar (lnJ ls k)) (0, 0) _ HB.out.1 Try.underlying65 rfl sz ?_)
        | (refine wpList_plain rfl fun _ hK => wp_store_row 65 (.tmp 2) (.tmp 18) rfl w.heap.size (ar (lnJ ls k)) rfl rfl 65 (ar z40) HA.out.1 sz sz0 (ar_one _) (hK _ _ ?_)))
      refine bodyPost_ret (v := .agg (ar (lnJ ls k))) (results_cell_row rfl _ _ w.heap.size 65 (ar (lnJ ls k)) (0, 0) _ rfl (setRow_heap wr w.heap.size _ _ _ _ HA.out.1) Try.underlying65 rfl sz) rfl ⟨rfl, setRow_below hw (Nat.le_refl _) _⟩
end Go.Proofs.Ytnndkdonbjeejaa

/- lineOfPieces of the program. -/
namespace Go.Proofs.Ytnndkdonbjeejaa
open Go.RowKit Go.Sort

theorem wrap64_add (a b : Int) : wrap64 (wrap64 a + b) = wrap64 (a + b) := by unfold wrap64; omega
theorem wrap64_in {a : Int} (h1 : -9223372036854775808 ≤ a) (h2 : a ≤ 9223372036854775807) : wrap64 a = a := by unfold wrap64; omega
theorem wrap_eq64 (a : Int) : IntKind.i64.wrap a = wrap64 a := by
  show (if (true && decide (a % 2 ^ 64 ≥ 2 ^ 63)) = true then a % 2 ^ 64 - 2 ^ 64 else a % 2 ^ 64) = wrap64 a
  unfold wrap64
  by_cases h : a % 2 ^ 64 ≥ 2 ^ 63
  · rw [if_pos (by simpa using h)]; omega
  · rw [if_neg (by simpa using h)]; omega

/-- the sums of the first k pieces, each job's, as int64s add up -/
def lnP (ls : List Jb) (ps : List Pc) (k : Nat) : List Int := (List.range 40).map fun i => if i < ls.length then wrap64 (workOf (jg ls i).id (ps.take k)) else 0
theorem lnP_len (ls : List Jb) (ps : List Pc) (k : Nat) : (lnP ls ps k).length = 40 := by simp [lnP]
theorem lnP_at {ls : List Jb} {ps : List Pc} {k i : Nat} (hi : i < 40) (h : i < ls.length) : zg (lnP ls ps k) i = wrap64 (workOf (jg ls i).id (ps.take k)) := by simp [zg, lnP, hi, h]
theorem lnP_0 (ls : List Jb) (ps : List Pc) : lnP ls ps 0 = z40 := by
  have e : ∀ i ∈ List.range 40, (if i < ls.length then wrap64 (workOf (jg ls i).id (ps.take 0)) else 0) = (fun _ => (0 : Int)) i := fun i _ => by
    simp only [List.take_zero, workOf]
    rw [wrap64_in (by omega) (by omega)]
    split <;> rfl
  unfold lnP
  rw [List.map_congr_left e]
  rfl
theorem lnP_step {ls : List Jb} {ps : List Pc} {k q : Nat} (hj : JsOk ls) (hk : k < ps.length) (hq : q < ls.length) (e : (jg ls q).id = (pcg ps k).job) :
    (lnP ls ps k).set q (wrap64 (zg (lnP ls ps k) q + ((pcg ps k).up - (pcg ps k).fr))) = lnP ls ps (k + 1) := by
  have hn := hj.n
  rw [lnP_at (by omega) hq, wrap64_add]
  apply List.ext_getElem (by simp [lnP])
  intro i h1 h2
  rw [List.getElem_set]
  simp only [lnP, List.getElem_map, List.getElem_range]
  by_cases c : q = i
  · subst c
    have := workOf_step (id := (jg ls q).id) hk
    rw [if_pos e.symm] at this
    rw [if_pos rfl, if_pos hq, this]
  · rw [if_neg c]
    by_cases hi : i < ls.length
    · have hne : (pcg ps k).job ≠ (jg ls i).id := fun h => by
        rcases Nat.lt_or_gt_of_ne c with h9 | h9
        · exact (hj.ok i hi).2 q h9 (by rw [e, h])
        · exact (hj.ok q hq).2 i h9 (by rw [e, h])
      have := workOf_step (id := (jg ls i).id) hk
      rw [if_neg hne, Int.add_zero] at this
      rw [if_pos hi, if_pos hi, this]
    · rw [if_neg hi, if_neg hi]

theorem results_row_tmp {P : Program} {fn : Func} {p u : Tmp} {ty : TypeId} (h : fn.results = #[.cell p ty, .tmp u]) (tmps : Array Value) (w : World) (g : Nat) (t : TypeId) (cs : Array Value) (fr : Nat × Nat) (d : TypeDesc) (v : Value)
    (hp : tmps.getD p undef = .pointer (some ⟨g, 0, none⟩)) (hv : tmps.getD u undef = v) (hg : w.heap[g]? = some (.cells cs t fr))
    (hu : P.underlying ty = some d) (hd : (match d with | .struct _ | .array _ _ => true | _ => false) = true) (hi : (P.info? ty).map (·.size) = some cs.size) :
    (results fn tmps).run P w = .ok (.tuple #[.agg cs, v]) w := by
  have hl := run_loadVar_row (P := P) w g t ty cs fr d hg hu hd hi
  rw [results_cell_tmp h, hp, hv]
  simp [asAddr, Result.andThen, hl]

/-- all of the first k are pieces of these jobs -/
def AllTo (ls : List Jb) (m : Int) (ps : List Pc) (k : Nat) : Prop := ∀ i, i < k → Pk1 ls m (pcg ps i)
theorem AllTo.all {ls : List Jb} {m : Int} {ps : List Pc} (h : AllTo ls m ps ps.length) : ∀ p ∈ ps, Pk1 ls m p := fun p hp => by
  obtain ⟨i, hi, rfl⟩ := List.getElem_of_mem hp
  rw [← pcg_get hi]; exact h i hi
theorem AllTo.succ {ls : List Jb} {m : Int} {ps : List Pc} {k : Nat} (h : AllTo ls m ps k) (h1 : Pk1 ls m (pcg ps k)) : AllTo ls m ps (k + 1) := fun i hi => by
  by_cases e : i = k
  · subst e; exact h1
  · exact h i (by omega)
/-- what lineOfPieces tells -/
def LnTold (ls : List Jb) (m : Int) (ps : List Pc) (b : Bool) (zs : List Int) : Prop := (b = true ∧ AllTo ls m ps ps.length ∧ zs = lnP ls ps ps.length) ∨ (b = false ∧ ∃ p ∈ ps, ¬ Pk1 ls m p)

set_option maxRecDepth 8000 in
set_option maxHeartbeats 8000000 in
theorem lineOfPieces_any (a a2 : Option Addr) (n cap n2 cap2 : Nat) (ls : List Jb) (m : Int) (ps : List Pc) (w : World) (h : JobS w a n cap ls) (h2 : PieceS w a2 n2 cap2 ps) (hj : JsOk ls) (m0 : 1 ≤ m) (m1 : m ≤ 10) :
    Calls Try.prog 42 #[.slice a n cap, .int .i64 m, .slice a2 n2 cap2] w fun e w' => ∃ b zs, zs.length = 40 ∧ e = .returned (.tuple #[.agg (ar zs), .bool b]) ∧ LnTold ls m ps b zs ∧ Below w.heap.size w w' := by
  have hlen := h.len
  have hlen2 := h2.len
  have hm := h2.mx
  have hle := h2.le
  have hn40 := hj.n
  unfold maxLen at hm
  have hzb : ∀ zs : List Int, zs.length = 40 → (Try.prog.info? 65).map (·.size) = some (ar zs).size := fun zs hz => by rw [ar_size, hz]; exact sizedLn
  go_enter Try.func42, Try.ntmps42
  go_wp2
  rw [ar_z40]
  obtain ⟨W0, hW0⟩ : ∃ W0, W0 = (w.alloc (.cells (ar z40) 65)).alloc (.cells (ar z40) 65) := ⟨_, rfl⟩
  have B0 : Below w.heap.size w W0 := by rw [hW0]; exact ((Below.refl _ _).alloc (Nat.le_refl _) _).alloc (by simp) _
  have L0 : LnB W0 w.heap.size z40 := by rw [hW0]; exact ⟨(heap_old _ _ _ (by simp)).trans (heap_new _ _), rfl⟩
  have L1 : LnB W0 (w.heap.size + 1) (lnP ls ps 0) := by
    rw [hW0, lnP_0]
    have := heap_new (w.alloc (.cells (ar z40) 65)) (.cells (ar z40) 65)
    rw [show (w.alloc (.cells (ar z40) 65)).heap.size = w.heap.size + 1 by simp] at this
    exact ⟨this, rfl⟩
  rw [← hW0]
  clear hW0
  go_loopw [10, 11, 14] (fun _ _ i wr => ∃ k : Nat, k ≤ n2 ∧ i = .int .i64 k ∧ AllTo ls m ps k ∧ Hid (LnB wr w.heap.size z40) ∧ Hid (LnB wr (w.heap.size + 1) (lnP ls ps k)) ∧ Below w.heap.size w wr) (fun _ _ i _ => n2 - (intOf i).toNat)
  case atStart => exact ⟨0, by omega, rfl, fun i hi => by omega, L0, L1, B0⟩
  case round =>
    obtain ⟨k, hk, rfl, HAll, HA, HB, hw⟩ := hrel
    rename World => wr
    by_cases hlt : k < n2
    · obtain ⟨b, off, rfl, hbw, hat⟩ := h2.at_ (by omega)
      obtain ⟨hc0, hc1, hc2, hc3⟩ := (hat.below hw hbw).row (i := k) (by omega)
      have hlt' : (k : Int) < (n2 : Int) := by omega
      have pwf := h2.wf k hlt
      have wf2 : -9223372036854775808 ≤ (pcg ps k).fr ∧ (pcg ps k).fr ≤ 9223372036854775807 := pwf 2 (by omega)
      have wf3 : -9223372036854775808 ≤ (pcg ps k).up ∧ (pcg ps k).up ≤ 9223372036854775807 := pwf 3 (by omega)
      have B2 := hw.alloc hw.size (.cells #[.int .i64 (pcg ps k).job, .int .i64 (pcg ps k).mac, .int .i64 (pcg ps k).fr, .int .i64 (pcg ps k).up] 56)
      obtain ⟨W2, hW2⟩ : ∃ W2, W2 = wr.alloc (.cells #[.int .i64 (pcg ps k).job, .int .i64 (pcg ps k).mac, .int .i64 (pcg ps k).fr, .int .i64 (pcg ps k).up] 56) := ⟨_, rfl⟩
      have bb : Below wr.heap.size wr W2 := by rw [hW2]; exact box_below
      have z2 : W2.heap.size = wr.heap.size + 1 := by rw [hW2]; simp
      have q0 : W2.cell? ⟨wr.heap.size, 0, none⟩ = some (.int .i64 (pcg ps k).job) := by rw [hW2]; simp
      have q1 : W2.cell? ⟨wr.heap.size, 1, none⟩ = some (.int .i64 (pcg ps k).mac) := by rw [hW2]; simp
      have q2 : W2.cell? ⟨wr.heap.size, 2, none⟩ = some (.int .i64 (pcg ps k).fr) := by rw [hW2]; simp
      have q3 : W2.cell? ⟨wr.heap.size, 3, none⟩ = some (.int .i64 (pcg ps k).up) := by rw [hW2]; simp
      rw [← hW2] at B2
      have LA := HA.out.below bb
      have LB := HB.out.below bb
      have hzr := HB.out.lt
      have hex : (∃ p ∈ ps, ¬ Pk1 ls m p) ∨ Pk1 ls m (pcg ps k) := by
        by_cases hp : Pk1 ls m (pcg ps k)
        · exact Or.inr hp
        · exact Or.inl ⟨_, by rw [pcg_get (by omega)]; exact List.getElem_mem _, hp⟩
      go_wp2_with fail
      rw [← hW2]
      refine (numberOf_any a n cap ls (pcg ps k).job W2 (h.below B2)).mono ?_
      rintro e w3 ⟨r, rfl, hr, q, os, hw3⟩
      have b3 : Below W2.heap.size W2 w3 := by rw [hw3]; exact below_grow _ _ _
      have U3 := B2.then b3 B2.size
      have k0 : w3.cell? ⟨wr.heap.size, 0, none⟩ = some (.int .i64 (pcg ps k).job) := (b3.cell (p := ⟨wr.heap.size, 0, none⟩) (by show wr.heap.size < W2.heap.size; omega)).trans q0
      have k1 : w3.cell? ⟨wr.heap.size, 1, none⟩ = some (.int .i64 (pcg ps k).mac) := (b3.cell (p := ⟨wr.heap.size, 1, none⟩) (by show wr.heap.size < W2.heap.size; omega)).trans q1
      have k2 : w3.cell? ⟨wr.heap.size, 2, none⟩ = some (.int .i64 (pcg ps k).fr) := (b3.cell (p := ⟨wr.heap.size, 2, none⟩) (by show wr.heap.size < W2.heap.size; omega)).trans q2
      have k3 : w3.cell? ⟨wr.heap.size, 3, none⟩ = some (.int .i64 (pcg ps k).up) := (b3.cell (p := ⟨wr.heap.size, 3, none⟩) (by show wr.heap.size < W2.heap.size; omega)).trans q3
      have LA3 : Hid (LnB w3 w.heap.size z40) := LA.below b3
      have LB3 : Hid (LnB w3 (w.heap.size + 1) (lnP ls ps k)) := LB.below b3
      clear hw3 hW2 q0 q1 q2 q3 hc0 hc1 hc2 hc3 hat
      by_cases g : 0 ≤ r ∧ inB (pcg ps k).mac 0 (m - 1) = true ∧ 0 ≤ (pcg ps k).fr ∧ (pcg ps k).fr < (pcg ps k).up
      · obtain ⟨g0, g1, g2, g3⟩ := g
        obtain ⟨i, rfl, hin, hie, _⟩ : ∃ i : Nat, r = i ∧ i < n ∧ (jg ls i).id = (pcg ps k).job ∧ True := by
          rcases hr with ⟨rfl, _⟩ | ⟨i, rfl, h1, h2, _⟩
          · omega
          · exact ⟨i, rfl, h1, h2, trivial⟩
        have hP : Pk1 ls m (pcg ps k) := by
          unfold inB at g1
          simp only [Bool.and_eq_true, decide_eq_true_eq] at g1
          exact ⟨⟨jg ls i, by rw [jg_get (by omega)]; exact List.getElem_mem _, hie⟩, by omega, by omega, g2, g3⟩
        have HAll2 : AllTo ls m ps (k + 1) := HAll.succ hP
        have hm1 : -9223372036854775808 ≤ m - 1 ∧ m - 1 ≤ 9223372036854775807 := by omega
        have hi40 : (i : Int) < 40 := by omega
        have hi0 : ¬ ((i : Int) < 0) := by omega
        have c2 : ¬ (pcg ps k).fr < 0 := by omega
        have c3 : ¬ (pcg ps k).up ≤ (pcg ps k).fr := by omega
        have cl := LB3.out.cell (k := i) (by omega)
        have fr := LB3.out.free i
        have w1 : IntKind.i64.wrap ((pcg ps k).up - (pcg ps k).fr) = (pcg ps k).up - (pcg ps k).fr := by rw [wrap_eq64]; exact wrap64_in (by omega) (by omega)
        obtain ⟨V, hV⟩ : ∃ V, V = wrap64 (zg (lnP ls ps k) i + ((pcg ps k).up - (pcg ps k).fr)) := ⟨_, rfl⟩
        have w2 : IntKind.i64.wrap (zg (lnP ls ps k) i + ((pcg ps k).up - (pcg ps k).fr)) = V := by rw [wrap_eq64, hV]
        have w2' := hV.symm
        have hset := lnP_step hj (show k < ps.length by omega) (show i < ls.length by omega) hie
        rw [← hV] at hset
        clear hV hr hex hP g2 g3
        have HS : Hid (LnB (w3.setCell ⟨w.heap.size + 1, i, none⟩ (.int .i64 V)).drew (w.heap.size + 1) (lnP ls ps (k + 1))) := by
          have := LB3.out.set i V
          rw [hset] at this
          exact this.keep rfl
        have HT : Hid (LnB (w3.setCell ⟨w.heap.size + 1, i, none⟩ (.int .i64 V)).drew w.heap.size z40) := LA3.out.keep (Below.heap_setCell _ _ _ _ (by simp))
        have HU : Below w.heap.size w (w3.setCell ⟨w.heap.size + 1, i, none⟩ (.int .i64 V)).drew := (U3.setCell (by simp) _).drew
        clear w2' hset
        go_wp2_with (go_at_call 56; refine (within_any _ _ _ _).mono ?_; rw [g1]; rintro e w4 ⟨rfl, hq4⟩; have hq4' := hq4.symm; clear hq4; subst hq4')
        go_region
        go_wp2
        go_roundw
        case rel => exact ⟨k + 1, by omega, by go_num, HAll2, HT, HS, HU⟩
        case measure => simp [intOf]; omega
      · have hno : ∃ p ∈ ps, ¬ Pk1 ls m p := hex.resolve_right fun hp => g ⟨by
            rcases hr with ⟨_, hr⟩ | ⟨i, rfl, _⟩
            · obtain ⟨j, hjm, e⟩ := hp.job
              obtain ⟨i, hi, rfl⟩ := List.getElem_of_mem hjm
              exact absurd (by rw [jg_get hi]; exact e) (hr i (by omega))
            · omega, by unfold inB; simp; exact ⟨hp.m0, by have := hp.m1; omega⟩, hp.f0, hp.lt⟩
        clear hr hex
        have hm1 : -9223372036854775808 ≤ m - 1 ∧ m - 1 ≤ 9223372036854775807 := by omega
        by_cases g0 : r < 0
        · go_wp2_with (first
          | (refine wpList_plain rfl fun _ hK => wp_store_row 65 (.tmp 6) (.tmp 44) rfl w.heap.size (ar z40) rfl rfl 65 (ar z40) LA3.out.1 (hzb _ rfl) rfl (ar_one _) (hK _ _ ?_)))
          exact bodyPost_ret (v := .tuple #[.agg (ar z40), .bool false]) (results_row_tmp rfl _ _ w.heap.size 65 (ar z40) (0, 0) _ (.bool false) rfl rfl (setRow_heap w3 w.heap.size _ _ _ _ LA3.out.1) Try.underlying65 rfl (hzb _ rfl)) rfl ⟨false, z40, rfl, rfl, Or.inr ⟨rfl, hno⟩, setRow_below U3 (Nat.le_refl _) _⟩
        · have gr : 0 ≤ r := by omega
          rcases g1 : inB (pcg ps k).mac 0 (m - 1) with _ | _
          · go_wp2_with (first
            | (go_at_call 56; refine (within_any _ _ _ _).mono ?_; rw [g1]; rintro e w4 ⟨rfl, hq4⟩; have hq4' := hq4.symm; clear hq4; subst hq4')
            | (refine wpList_plain rfl fun _ hK => wp_store_row 65 (.tmp 6) (.tmp 44) rfl w.heap.size (ar z40) rfl rfl 65 (ar z40) LA3.out.1 (hzb _ rfl) rfl (ar_one _) (hK _ _ ?_)))
            exact bodyPost_ret (v := .tuple #[.agg (ar z40), .bool false]) (results_row_tmp rfl _ _ w.heap.size 65 (ar z40) (0, 0) _ (.bool false) rfl rfl (setRow_heap w3 w.heap.size _ _ _ _ LA3.out.1) Try.underlying65 rfl (hzb _ rfl)) rfl ⟨false, z40, rfl, rfl, Or.inr ⟨rfl, hno⟩, setRow_below U3 (Nat.le_refl _) _⟩
          · by_cases g2 : (pcg ps k).fr < 0
            · go_wp2_with (first
              | (go_at_call 56; refine (within_any _ _ _ _).mono ?_; rw [g1]; rintro e w4 ⟨rfl, hq4⟩; have hq4' := hq4.symm; clear hq4; subst hq4')
              | (refine wpList_plain rfl fun _ hK => wp_store_row 65 (.tmp 6) (.tmp 44) rfl w.heap.size (ar z40) rfl rfl 65 (ar z40) LA3.out.1 (hzb _ rfl) rfl (ar_one _) (hK _ _ ?_)))
              exact bodyPost_ret (v := .tuple #[.agg (ar z40), .bool false]) (results_row_tmp rfl _ _ w.heap.size 65 (ar z40) (0, 0) _ (.bool false) rfl rfl (setRow_heap w3 w.heap.size _ _ _ _ LA3.out.1) Try.underlying65 rfl (hzb _ rfl)) rfl ⟨false, z40, rfl, rfl, Or.inr ⟨rfl, hno⟩, setRow_below U3 (Nat.le_refl _) _⟩
            · have g3 : (pcg ps k).up ≤ (pcg ps k).fr := by
                by_cases g3 : (pcg ps k).up ≤ (pcg ps k).fr
                · exact g3
                · exact absurd ⟨gr, g1, by omega, by omega⟩ g
              go_wp2_with (first
              | (go_at_call 56; refine (within_any _ _ _ _).mono ?_; rw [g1]; rintro e w4 ⟨rfl, hq4⟩; have hq4' := hq4.symm; clear hq4; subst hq4')
              | (refine wpList_plain rfl fun _ hK => wp_store_row 65 (.tmp 6) (.tmp 44) rfl w.heap.size (ar z40) rfl rfl 65 (ar z40) LA3.out.1 (hzb _ rfl) rfl (ar_one _) (hK _ _ ?_)))
              exact bodyPost_ret (v := .tuple #[.agg (ar z40), .bool false]) (results_row_tmp rfl _ _ w.heap.size 65 (ar z40) (0, 0) _ (.bool false) rfl rfl (setRow_heap w3 w.heap.size _ _ _ _ LA3.out.1) Try.underlying65 rfl (hzb _ rfl)) rfl ⟨false, z40, rfl, rfl, Or.inr ⟨rfl, hno⟩, setRow_below U3 (Nat.le_refl _) _⟩
    · obtain rfl : k = n2 := by omega
      have HF : Hid (LnTold ls m ps true (lnP ls ps k)) := Or.inl ⟨rfl, by rw [hlen2]; exact HAll, by rw [hlen2]⟩
      have zl := lnP_len ls ps k
      go_wp2_with (first
        | (refine wpList_load_row rfl 65 (.tmp 8) rfl (w.heap.size + 1) rfl 65 (ar (lnP ls ps k)) (0, 0) _ HB.out.1 Try.underlying65 rfl (hzb _ zl) ?_)
        | (refine wpList_plain rfl fun _ hK => wp_store_row 65 (.tmp 6) (.tmp 56) rfl w.heap.size (ar (lnP ls ps k)) rfl rfl 65 (ar z40) HA.out.1 (hzb _ zl) (by rw [ar_size, ar_size, zl]; rfl) (ar_one _) (hK _ _ ?_)))
      exact bodyPost_ret (v := .tuple #[.agg (ar (lnP ls ps k)), .bool true]) (results_row_tmp rfl _ _ w.heap.size 65 (ar (lnP ls ps k)) (0, 0) _ (.bool true) rfl rfl (setRow_heap wr w.heap.size _ _ _ _ HA.out.1) Try.underlying65 rfl (hzb _ zl)) rfl ⟨true, _, zl, rfl, HF.out, setRow_below hw (Nat.le_refl _) _⟩
end Go.Proofs.Ytnndkdonbjeejaa
