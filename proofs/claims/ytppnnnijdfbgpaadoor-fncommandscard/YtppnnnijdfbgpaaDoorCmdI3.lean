/- The program's ShowCommand. -/
import Derived.Test.YtppnnnijdfbgpaaDoorCmdI2
import Derived.Test.YtppnnnijdfbgpaaDoorShelf
import Derived.Lib.SmallJoins
import Derived.Deep.RegionWith
import Derived.Deep.RegionHeld3
import Derived.Deep.RegionHeldLaw
import Derived.Deep.Cut
import Derived.Deep.CutRange
namespace Go.Proofs.YtppnnnijdfbgpaaDoor
open Go.RowKit

theorem tdK_kC {k : Nat} (h1 : 1 ≤ k) (h7 : k ≤ 7) : tdK k = kC (k : Int) := by
  obtain rfl | rfl | rfl | rfl | rfl | rfl | rfl : k = 1 ∨ k = 2 ∨ k = 3 ∨ k = 4 ∨ k = 5 ∨ k = 6 ∨ k = 7 := by omega
  all_goals rfl
theorem below_growC (B : Nat) (w : World) (hB : B ≤ w.heap.size) (k : Nat) (os : Array Obj) : Below B w (Sort.grow (w.drewN k) os) := by
  refine ⟨rfl, rfl, rfl, ?_, fun j hj => ?_⟩
  · have : (Sort.grow (w.drewN k) os).heap = w.heap ++ os := rfl
    rw [this]; simp
  · have : (Sort.grow (w.drewN k) os).heap = w.heap ++ os := rfl
    rw [this]; exact Array.getElem?_append_left (by omega)

/-- a block's cells, as a walk wants them, here and behind one more block -/
def Zd (w : World) (p : Nat) (cs : Array Value) (T : TypeId) : Prop := w.heap[p]? = some (.cells cs T (0, 0))
theorem nbC {W w' : World} {o : Obj} (h : Below (W.alloc o).heap.size (W.alloc o) w') : w'.heap[W.heap.size]? = some o := (h.block W.heap.size (by simp)).trans (heap_alloc_new _ _)
theorem nbCd {W w' : World} {o : Obj} (h : Below (W.alloc o).drew.heap.size (W.alloc o).drew w') : w'.heap[W.heap.size]? = some o := (h.block W.heap.size (by show W.heap.size < (W.alloc o).heap.size; simp)).trans (heap_alloc_new _ _)
theorem zd7 {w : World} {p : Nat} {v0 v1 v2 v3 v4 v5 v6 : Value} {T : TypeId} (h : w.heap[p]? = some (.cells #[v0, v1, v2, v3, v4, v5, v6] T (0, 0))) : w.cell? ⟨p, 0, none⟩ = some v0 ∧ w.cell? ⟨p, 1, none⟩ = some v1 ∧ w.cell? ⟨p, 2, none⟩ = some v2 ∧ w.cell? ⟨p, 3, none⟩ = some v3 ∧ w.cell? ⟨p, 4, none⟩ = some v4 ∧ w.cell? ⟨p, 5, none⟩ = some v5 ∧ w.cell? ⟨p, 6, none⟩ = some v6 ∧ w.frozen? ⟨p, 0, none⟩ = false ∧ w.frozen? ⟨p, 1, none⟩ = false ∧ w.frozen? ⟨p, 2, none⟩ = false ∧ w.frozen? ⟨p, 3, none⟩ = false ∧ w.frozen? ⟨p, 4, none⟩ = false ∧ w.frozen? ⟨p, 5, none⟩ = false ∧ w.frozen? ⟨p, 6, none⟩ = false :=
  ⟨cell_of_blk 0 h (by simp), cell_of_blk 1 h (by simp), cell_of_blk 2 h (by simp), cell_of_blk 3 h (by simp), cell_of_blk 4 h (by simp), cell_of_blk 5 h (by simp), cell_of_blk 6 h (by simp), free_of_blk 0 h, free_of_blk 1 h, free_of_blk 2 h, free_of_blk 3 h, free_of_blk 4 h, free_of_blk 5 h, free_of_blk 6 h⟩
theorem zd3 {w : World} {p : Nat} {v0 v1 v2 : Value} {T : TypeId} (h : w.heap[p]? = some (.cells #[v0, v1, v2] T (0, 0))) : w.cell? ⟨p, 0, none⟩ = some v0 ∧ w.cell? ⟨p, 1, none⟩ = some v1 ∧ w.cell? ⟨p, 2, none⟩ = some v2 ∧ w.frozen? ⟨p, 0, none⟩ = false ∧ w.frozen? ⟨p, 1, none⟩ = false ∧ w.frozen? ⟨p, 2, none⟩ = false :=
  ⟨cell_of_blk 0 h (by simp), cell_of_blk 1 h (by simp), cell_of_blk 2 h (by simp), free_of_blk 0 h, free_of_blk 1 h, free_of_blk 2 h⟩
theorem nbC2 {W w' : World} {o o' : Obj} (h : Below ((W.alloc o).alloc o').drew.heap.size ((W.alloc o).alloc o').drew w') : w'.heap[W.heap.size]? = some o ∧ w'.heap[W.heap.size + 1]? = some o' :=
  ⟨(h.block W.heap.size (by show W.heap.size < ((W.alloc o).alloc o').heap.size; simp; omega)).trans ((Below.heap_alloc _ _ _ (by simp)).trans (heap_alloc_new _ _)),
   (h.block (W.heap.size + 1) (by show W.heap.size + 1 < ((W.alloc o).alloc o').heap.size; simp)).trans (by have := heap_alloc_new (W.alloc o) o'; rwa [World.size_alloc] at this)⟩
theorem nbC3 {W w' : World} {o o' : Obj} (h : Below ((W.alloc o).alloc o').heap.size ((W.alloc o).alloc o') w') : w'.heap[W.heap.size]? = some o ∧ w'.heap[W.heap.size + 1]? = some o' :=
  ⟨(h.block W.heap.size (by simp; omega)).trans ((Below.heap_alloc _ _ _ (by simp)).trans (heap_alloc_new _ _)),
   (h.block (W.heap.size + 1) (by simp)).trans (by have := heap_alloc_new (W.alloc o) o'; rwa [World.size_alloc] at this)⟩
theorem Zd.alloc {w : World} {p : Nat} {cs : Array Value} {T : TypeId} (h : Zd w p cs T) (o : Obj) : Zd (w.alloc o) p cs T := (Below.heap_alloc _ _ _ (lt_of_block h)).trans h
theorem Zd.cell {w : World} {p : Nat} {cs : Array Value} {T : TypeId} (h : Zd w p cs T) (i : Nat) : w.cell? ⟨p, i, none⟩ = cs[i]? := by rw [cell_of_row _ _ _ _ _ _ h]
theorem Zd.free {w : World} {p : Nat} {cs : Array Value} {T : TypeId} (h : Zd w p cs T) (i : Nat) : w.frozen? ⟨p, i, none⟩ = false := free_of_blk i h

theorem set7 {W : World} {p : Nat} {u0 u1 u2 u3 u4 u5 u6 : Value} {T : TypeId} (h : W.heap[p]? = some (.cells #[u0, u1, u2, u3, u4, u5, u6] T (0, 0))) (v0 v1 v2 v3 v4 v5 v6 : Value) : (((((((W.setCell ⟨p, 0, none⟩ v0).setCell ⟨p, 1, none⟩ v1).setCell ⟨p, 2, none⟩ v2).setCell ⟨p, 3, none⟩ v3).setCell ⟨p, 4, none⟩ v4).setCell ⟨p, 5, none⟩ v5).setCell ⟨p, 6, none⟩ v6).heap[p]? = some (.cells #[v0, v1, v2, v3, v4, v5, v6] T (0, 0)) := by
  have h0 : (W.setCell ⟨p, 0, none⟩ v0).heap[p]? = some (.cells #[v0, u1, u2, u3, u4, u5, u6] T (0, 0)) := blk_set (j := 0) h v0
  have h1 : ((W.setCell ⟨p, 0, none⟩ v0).setCell ⟨p, 1, none⟩ v1).heap[p]? = some (.cells #[v0, v1, u2, u3, u4, u5, u6] T (0, 0)) := blk_set (j := 1) h0 v1
  have h2 : (((W.setCell ⟨p, 0, none⟩ v0).setCell ⟨p, 1, none⟩ v1).setCell ⟨p, 2, none⟩ v2).heap[p]? = some (.cells #[v0, v1, v2, u3, u4, u5, u6] T (0, 0)) := blk_set (j := 2) h1 v2
  have h3 : ((((W.setCell ⟨p, 0, none⟩ v0).setCell ⟨p, 1, none⟩ v1).setCell ⟨p, 2, none⟩ v2).setCell ⟨p, 3, none⟩ v3).heap[p]? = some (.cells #[v0, v1, v2, v3, u4, u5, u6] T (0, 0)) := blk_set (j := 3) h2 v3
  have h4 : (((((W.setCell ⟨p, 0, none⟩ v0).setCell ⟨p, 1, none⟩ v1).setCell ⟨p, 2, none⟩ v2).setCell ⟨p, 3, none⟩ v3).setCell ⟨p, 4, none⟩ v4).heap[p]? = some (.cells #[v0, v1, v2, v3, v4, u5, u6] T (0, 0)) := blk_set (j := 4) h3 v4
  have h5 : ((((((W.setCell ⟨p, 0, none⟩ v0).setCell ⟨p, 1, none⟩ v1).setCell ⟨p, 2, none⟩ v2).setCell ⟨p, 3, none⟩ v3).setCell ⟨p, 4, none⟩ v4).setCell ⟨p, 5, none⟩ v5).heap[p]? = some (.cells #[v0, v1, v2, v3, v4, v5, u6] T (0, 0)) := blk_set (j := 5) h4 v5
  have h6 : (((((((W.setCell ⟨p, 0, none⟩ v0).setCell ⟨p, 1, none⟩ v1).setCell ⟨p, 2, none⟩ v2).setCell ⟨p, 3, none⟩ v3).setCell ⟨p, 4, none⟩ v4).setCell ⟨p, 5, none⟩ v5).setCell ⟨p, 6, none⟩ v6).heap[p]? = some (.cells #[v0, v1, v2, v3, v4, v5, v6] T (0, 0)) := blk_set (j := 6) h5 v6
  exact h6
theorem set7_other {W : World} {p q : Nat} (h : q ≠ p) (v0 v1 v2 v3 v4 v5 v6 : Value) : (((((((W.setCell ⟨p, 0, none⟩ v0).setCell ⟨p, 1, none⟩ v1).setCell ⟨p, 2, none⟩ v2).setCell ⟨p, 3, none⟩ v3).setCell ⟨p, 4, none⟩ v4).setCell ⟨p, 5, none⟩ v5).setCell ⟨p, 6, none⟩ v6).heap[q]? = W.heap[q]? := by
  rw [Below.heap_setCell _ _ _ _ h, Below.heap_setCell _ _ _ _ h, Below.heap_setCell _ _ _ _ h, Below.heap_setCell _ _ _ _ h, Below.heap_setCell _ _ _ _ h, Below.heap_setCell _ _ _ _ h, Below.heap_setCell _ _ _ _ h]
theorem below7 {B p : Nat} {w W : World} (h : Below B w W) (hB : B ≤ p) (v0 v1 v2 v3 v4 v5 v6 : Value) : Below B w (((((((W.setCell ⟨p, 0, none⟩ v0).setCell ⟨p, 1, none⟩ v1).setCell ⟨p, 2, none⟩ v2).setCell ⟨p, 3, none⟩ v3).setCell ⟨p, 4, none⟩ v4).setCell ⟨p, 5, none⟩ v5).setCell ⟨p, 6, none⟩ v6) := (((((((h.setCell (p := ⟨p, 0, none⟩) hB v0).setCell (p := ⟨p, 1, none⟩) hB v1).setCell (p := ⟨p, 2, none⟩) hB v2).setCell (p := ⟨p, 3, none⟩) hB v3).setCell (p := ⟨p, 4, none⟩) hB v4).setCell (p := ⟨p, 5, none⟩) hB v5).setCell (p := ⟨p, 6, none⟩) hB v6)
theorem set3 {W : World} {p : Nat} {u0 u1 u2 : Value} {T : TypeId} (h : W.heap[p]? = some (.cells #[u0, u1, u2] T (0, 0))) (v0 v1 v2 : Value) : (((W.setCell ⟨p, 0, none⟩ v0).setCell ⟨p, 1, none⟩ v1).setCell ⟨p, 2, none⟩ v2).heap[p]? = some (.cells #[v0, v1, v2] T (0, 0)) := (blk_set (j := 2) (blk_set (j := 1) (blk_set (j := 0) h v0) v1) v2)
theorem set3_other {W : World} {p q : Nat} (h : q ≠ p) (v0 v1 v2 : Value) : (((W.setCell ⟨p, 0, none⟩ v0).setCell ⟨p, 1, none⟩ v1).setCell ⟨p, 2, none⟩ v2).heap[q]? = W.heap[q]? := by
  rw [Below.heap_setCell _ _ _ _ h, Below.heap_setCell _ _ _ _ h, Below.heap_setCell _ _ _ _ h]
theorem below3 {B p : Nat} {w W : World} (h : Below B w W) (hB : B ≤ p) (v0 v1 v2 : Value) : Below B w (((W.setCell ⟨p, 0, none⟩ v0).setCell ⟨p, 1, none⟩ v1).setCell ⟨p, 2, none⟩ v2) := (((h.setCell (p := ⟨p, 0, none⟩) hB v0).setCell (p := ⟨p, 1, none⟩) hB v1).setCell (p := ⟨p, 2, none⟩) hB v2)
theorem nb_next (W : World) (o o' : Obj) : ((W.alloc o).alloc o').heap[W.heap.size + 1]? = some o' := by
  have := heap_alloc_new (W.alloc o) o'
  rwa [World.size_alloc] at this
theorem nb_set3 (W : World) (p : Nat) (v0 v1 v2 : Value) (o : Obj) : ((((W.setCell ⟨p, 0, none⟩ v0).setCell ⟨p, 1, none⟩ v1).setCell ⟨p, 2, none⟩ v2).alloc o).heap[W.heap.size]? = some o := by
  have := heap_alloc_new (((W.setCell ⟨p, 0, none⟩ v0).setCell ⟨p, 1, none⟩ v1).setCell ⟨p, 2, none⟩ v2) o
  simpa [World.setCell] using this
theorem nb_set7 (W : World) (p : Nat) (v0 v1 v2 v3 v4 v5 v6 : Value) (o : Obj) : ((((((((W.setCell ⟨p, 0, none⟩ v0).setCell ⟨p, 1, none⟩ v1).setCell ⟨p, 2, none⟩ v2).setCell ⟨p, 3, none⟩ v3).setCell ⟨p, 4, none⟩ v4).setCell ⟨p, 5, none⟩ v5).setCell ⟨p, 6, none⟩ v6).alloc o).heap[W.heap.size]? = some o := by
  have := heap_alloc_new (((((((W.setCell ⟨p, 0, none⟩ v0).setCell ⟨p, 1, none⟩ v1).setCell ⟨p, 2, none⟩ v2).setCell ⟨p, 3, none⟩ v3).setCell ⟨p, 4, none⟩ v4).setCell ⟨p, 5, none⟩ v5).setCell ⟨p, 6, none⟩ v6) o
  simpa [World.setCell] using this

set_option maxRecDepth 8000 in
set_option maxHeartbeats 4000000 in
theorem implShowCommand_any (k a b c : Int) (w : World) (hs : ShIs w) (htab : Lib.TabIs Tryd.prog w "internal/strconv.uint64pow10" .u64 Lib.pow10Tab) :
    Calls Tryd.prog 9 #[.agg #[.int .i64 k, .int .i64 a, .int .i64 b, .int .i64 c]] w fun e w' => e = .returned (.string ⟨(if cmB k a b c = true then cmSh k a b c else []).toArray⟩) ∧ Below w.heap.size w w' := by
  obtain ⟨W0, hW0⟩ : ∃ W0, W0 = w.alloc (.cells #[.int .i64 k, .int .i64 a, .int .i64 b, .int .i64 c] 25) := ⟨_, rfl⟩
  have B0 : Below w.heap.size w W0 := by rw [hW0]; exact box_below
  have X0 : W0.heap[w.heap.size]? = some (.cells #[.int .i64 k, .int .i64 a, .int .i64 b, .int .i64 c] 25 (0, 0)) := by rw [hW0]; exact heap_alloc_new _ _
  have HS0 : Hid (ShIs W0) := hs.keep B0 hs.pos
  have HT : Hid (∀ W, Below w.heap.size w W → Lib.TabIs Tryd.prog W "internal/strconv.uint64pow10" .u64 Lib.pow10Tab) := fun W hW => Joins.tab_stays (by kernel_rfl : Tryd.prog.globalNamed "internal/strconv.uint64pow10" = some 1) htab hW (Nat.le_refl _)
  have CO := fun W h => implCommandOk_any k a b c W h
  have HX : Hid (∀ W, Below W0.heap.size W0 W → W.cell? ⟨w.heap.size, 0, none⟩ = some (.int .i64 k) ∧ W.cell? ⟨w.heap.size, 1, none⟩ = some (.int .i64 a) ∧ W.cell? ⟨w.heap.size, 2, none⟩ = some (.int .i64 b) ∧ W.cell? ⟨w.heap.size, 3, none⟩ = some (.int .i64 c)) := fun W hW => (boxed4 (Blk4.below X0 hW)).1
  obtain ⟨c0, c1, c2, c3⟩ := HX.out W0 (Below.refl _ _)
  have l0 := lt_of_block X0
  clear X0 hs htab
  obtain ⟨ans, hans⟩ : ∃ ans, ans = if cmB k a b c = true then cmSh k a b c else [] := ⟨_, rfl⟩
  have HA : Hid (ans = if cmB k a b c = true then cmSh k a b c else []) := hans
  rw [← hans]
  clear hans
  go_enter Tryd.func9, Tryd.ntmps9
  go_upto_region 1 with fail
  rw [← hW0]
  clear hW0
  rcases hr : cmB k a b c with _ | _
  · have E : Hid (ans = []) := HA.out.trans (by rw [hr]; rfl)
    rw [hr] at CO
    go_wp2_with (go_at_call 14; refine (CO _ HS0.out).mono ?_; rintro e w1 ⟨rfl, hb1⟩; have H1 : Hid (Below w.heap.size w w1) := B0.then hb1 B0.size; clear hb1)
    go_ret
    exact ⟨by rw [E.out]; rfl, H1.out⟩
  · have E : Hid (ans = cmSh k a b c) := HA.out.trans (by rw [hr]; rfl)
    clear HA
    rw [hr] at CO
    have HR : Hid (cmB k a b c = true) := hr
    obtain ⟨m, rfl⟩ : ∃ m : Nat, k = m := ⟨k.toNat, by have := kind_of hr; omega⟩
    have hm1 : 1 ≤ m := by have := kind_of hr; omega
    have hm7 : m ≤ 7 := by have := kind_of hr; omega
    have hm8 : m < 8 := by omega
    clear hr
    go_upto_region 3 with (go_at_call 14; refine (CO _ HS0.out).mono ?_; rintro e w1 ⟨rfl, hb1⟩)
    clear CO c0 c1 c2 c3
    have B1 : Hid (Below w.heap.size w w1) := B0.then hb1 B0.size
    have HS1 : Hid (ShIs w1) := HS0.out.keep hb1 HS0.out.pos
    have HX1 : Hid (∀ W, Below w1.heap.size w1 W → W.cell? ⟨w.heap.size, 0, none⟩ = some (.int .i64 (m : Int)) ∧ W.cell? ⟨w.heap.size, 1, none⟩ = some (.int .i64 a) ∧ W.cell? ⟨w.heap.size, 2, none⟩ = some (.int .i64 b) ∧ W.cell? ⟨w.heap.size, 3, none⟩ = some (.int .i64 c)) := fun W hW => HX.out W (hb1.then hW hb1.size)
    have HR7 : Hid (∀ W, Below w1.heap.size w1 W → ShRow W m ⟨(kW (m : Int)).toArray⟩ (loK m 0) (hiK m 0) (loK m 1) (hiK m 1) (loK m 2) (hiK m 2)) := fun W hW => (HS1.out.keep hW HS1.out.pos).row hm8
    have CT : ∀ W, Calls Tryd.prog 20 #[.agg #[.string ⟨(kW (m : Int)).toArray⟩, .int .i64 (loK m 0), .int .i64 (hiK m 0), .int .i64 (loK m 1), .int .i64 (hiK m 1), .int .i64 (loK m 2), .int .i64 (hiK m 2)]] W fun e w' => e = .returned (.int .i64 (kC (m : Int) : Nat)) ∧ Below W.heap.size W w' := fun W => by
      have := told_any m hm8 W
      rwa [shV_is hm8, tdK_kC hm1 hm7] at this
    have hz1 : w.heap.size < w1.heap.size := Nat.lt_of_lt_of_le l0 hb1.size
    generalize hwb : (⟨(kW (m : Int)).toArray⟩ : ByteArray) = wb at CT HR7
    generalize loK m 0 = x0 at CT HR7
    generalize hiK m 0 = y0 at CT HR7
    generalize loK m 1 = x1 at CT HR7
    generalize hiK m 1 = y1 at CT HR7
    generalize loK m 2 = x2 at CT HR7
    generalize hiK m 2 = y2 at CT HR7
    have HWB : Hid (⟨(kW (m : Int)).toArray⟩ = wb) := hwb
    clear hwb HX HS0 hb1
    obtain ⟨cn, hcn⟩ : ∃ cn, cn = kC (m : Int) := ⟨_, rfl⟩
    rw [← hcn] at CT
    have HCN : Hid (cn = kC (m : Int)) := hcn
    clear hcn
    have HKK : Hid (∀ W, Below w1.heap.size w1 W → (W.cell? ⟨0, 7 * m, none⟩ = some (.string wb) ∧ W.cell? ⟨0, 7 * m + 1, none⟩ = some (.int .i64 x0) ∧ W.cell? ⟨0, 7 * m + 2, none⟩ = some (.int .i64 y0) ∧ W.cell? ⟨0, 7 * m + 3, none⟩ = some (.int .i64 x1) ∧ W.cell? ⟨0, 7 * m + 4, none⟩ = some (.int .i64 y1) ∧ W.cell? ⟨0, 7 * m + 5, none⟩ = some (.int .i64 x2) ∧ W.cell? ⟨0, 7 * m + 6, none⟩ = some (.int .i64 y2) ∧ W.cell? ⟨w.heap.size, 0, none⟩ = some (.int .i64 (m : Int)) ∧ W.cell? ⟨w.heap.size, 1, none⟩ = some (.int .i64 a) ∧ W.cell? ⟨w.heap.size, 2, none⟩ = some (.int .i64 b) ∧ W.cell? ⟨w.heap.size, 3, none⟩ = some (.int .i64 c) ∧ Below w1.heap.size w1 W)) := fun W hW => by
      obtain ⟨e0, e1, e2, e3, e4, e5, e6⟩ := HR7.out W hW
      obtain ⟨d0, d1, d2, d3⟩ := HX1.out W hW
      exact ⟨e0, e1, e2, e3, e4, e5, e6, d0, d1, d2, d3, hW⟩
    clear HR7
    go_cut [3, 4] from 11 (fun sf sn wx => ∃ pf pn : Nat, sf = .pointer (some ⟨pf, 0, none⟩) ∧ sn = .pointer (some ⟨pn, 0, none⟩) ∧ wx.heap[pf]? = some (.cells #[.string wb, .int .i64 x0, .int .i64 y0, .int .i64 x1, .int .i64 y1, .int .i64 x2, .int .i64 y2] 41 (0, 0)) ∧ wx.heap[pn]? = some (.cells #[.int .i64 a, .int .i64 b, .int .i64 c] 43 (0, 0)) ∧ Below w1.heap.size w1 wx)
    case first =>
      obtain rfl | rfl | rfl | rfl | rfl | rfl | rfl : m = 1 ∨ m = 2 ∨ m = 3 ∨ m = 4 ∨ m = 5 ∨ m = 6 ∨ m = 7 := by omega
      · simp only [Nat.reduceMul, Nat.reduceAdd] at HKK
        have KB : ∀ {W}, (W.cell? ⟨0, 7, none⟩ = some (.string wb) ∧ W.cell? ⟨0, 8, none⟩ = some (.int .i64 x0) ∧ W.cell? ⟨0, 9, none⟩ = some (.int .i64 y0) ∧ W.cell? ⟨0, 10, none⟩ = some (.int .i64 x1) ∧ W.cell? ⟨0, 11, none⟩ = some (.int .i64 y1) ∧ W.cell? ⟨0, 12, none⟩ = some (.int .i64 x2) ∧ W.cell? ⟨0, 13, none⟩ = some (.int .i64 y2) ∧ W.cell? ⟨w.heap.size, 0, none⟩ = some (.int .i64 1) ∧ W.cell? ⟨w.heap.size, 1, none⟩ = some (.int .i64 a) ∧ W.cell? ⟨w.heap.size, 2, none⟩ = some (.int .i64 b) ∧ W.cell? ⟨w.heap.size, 3, none⟩ = some (.int .i64 c) ∧ Below w1.heap.size w1 W) → Below w1.heap.size w1 W := fun h => h.2.2.2.2.2.2.2.2.2.2.2
        have HG0 : Hid (Below w1.heap.size w1 w1) := Below.refl _ _
        go_region_held3 (fun w' => w'.cell? ⟨0, 7, none⟩ = some (.string wb) ∧ w'.cell? ⟨0, 8, none⟩ = some (.int .i64 x0) ∧ w'.cell? ⟨0, 9, none⟩ = some (.int .i64 y0) ∧ w'.cell? ⟨0, 10, none⟩ = some (.int .i64 x1) ∧ w'.cell? ⟨0, 11, none⟩ = some (.int .i64 y1) ∧ w'.cell? ⟨0, 12, none⟩ = some (.int .i64 x2) ∧ w'.cell? ⟨0, 13, none⟩ = some (.int .i64 y2) ∧ w'.cell? ⟨w.heap.size, 0, none⟩ = some (.int .i64 1) ∧ w'.cell? ⟨w.heap.size, 1, none⟩ = some (.int .i64 a) ∧ w'.cell? ⟨w.heap.size, 2, none⟩ = some (.int .i64 b) ∧ w'.cell? ⟨w.heap.size, 3, none⟩ = some (.int .i64 c) ∧ Below w1.heap.size w1 w') ((refine HKK.out _ ?_; repeat (first | with_reducible exact SB | with_reducible exact HG0.out | (with_reducible refine Below.drew ?_) | (with_reducible refine Below.alloc ?_ (by first | exact Nat.le_refl _ | omega | (simp [World.setCell]; done) | (simp [World.setCell]; omega)) _) | (with_reducible refine Below.setCell ?_ (by first | exact Nat.le_refl _ | (dsimp only; omega)) _)))) ((go_at_call 19; refine (numbers_any _ _ _ _ _).mono ?_; rintro e w5 ⟨rfl, hb5⟩; have SB : Below w1.heap.size w1 w5 := (KB (by assumption)).then hb5 (KB (by assumption)).size; have zSB := SB.size; (first
          | (obtain ⟨NA, NB⟩ := nbC2 hb5; first | (have FA := zd7 NA; have FB := zd3 NB) | (have FA := zd3 NA; have FB := zd7 NB))
          | (obtain ⟨NA, NB⟩ := nbC3 hb5; first | (have FA := zd7 NA; have FB := zd3 NB) | (have FA := zd3 NA; have FB := zd7 NB))
          | (have NB := nbCd hb5; have hn1 := lt_of_block NB; have hn2 := Nat.ne_of_lt hn1; have hn3 := hn2.symm; first | (have FA := zd7 NB; have FB := fun o => zd7 (Zd.alloc NB o)) | (have FA := zd3 NB; have FB := fun o => zd3 (Zd.alloc NB o)))
          | (have NB := nbC hb5; have hn1 := lt_of_block NB; have hn2 := Nat.ne_of_lt hn1; have hn3 := hn2.symm; first | (have FA := zd7 NB; have FB := fun o => zd7 (Zd.alloc NB o)) | (have FA := zd3 NB; have FB := fun o => zd3 (Zd.alloc NB o)))
          | skip)))
        · go_wp2_with fail
          go_meet
          exact ⟨_, _, rfl, rfl, Zd.alloc (heap_alloc_new _ _) _, nb_next _ _ _, (SB.alloc zSB _).alloc (SB.alloc zSB _).size _⟩
        · go_wp2_with fail
          go_meet
          exact ⟨_, _, rfl, rfl, nb_next _ _ _, Zd.alloc (heap_alloc_new _ _) _, (SB.alloc zSB _).alloc (SB.alloc zSB _).size _⟩
        · go_wp2_with fail
          go_meet
          have B7 := fun v0 v1 v2 v3 v4 v5 v6 => below7 SB (Nat.le_refl _) v0 v1 v2 v3 v4 v5 v6
          exact ⟨_, _, rfl, rfl, Zd.alloc (set7 NB _ _ _ _ _ _ _) _, nb_set7 _ _ _ _ _ _ _ _ _ _, (B7 _ _ _ _ _ _ _).alloc (B7 _ _ _ _ _ _ _).size _⟩
        · go_wp2_with fail
          go_meet
          exact ⟨_, _, rfl, rfl, (set3_other (by omega) _ _ _).trans (set7 NA _ _ _ _ _ _ _), set3 ((set7_other (by omega) _ _ _ _ _ _ _).trans NB) _ _ _, below3 (below7 SB (Nat.le_refl _) _ _ _ _ _ _ _) (by omega) _ _ _⟩
        · go_wp2_with fail
          go_meet
          have B3 := fun v0 v1 v2 => below3 SB (Nat.le_refl _) v0 v1 v2
          exact ⟨_, _, rfl, rfl, nb_set3 _ _ _ _ _ _, Zd.alloc (set3 NB _ _ _) _, (B3 _ _ _).alloc (B3 _ _ _).size _⟩
        · go_wp2_with fail
          go_meet
          exact ⟨_, _, rfl, rfl, (set3_other (by omega) _ _ _).trans (set7 NB _ _ _ _ _ _ _), set3 ((set7_other (by omega) _ _ _ _ _ _ _).trans NA) _ _ _, below3 (below7 SB (by omega) _ _ _ _ _ _ _) (Nat.le_refl _) _ _ _⟩
      · simp only [Nat.reduceMul, Nat.reduceAdd] at HKK
        have KB : ∀ {W}, (W.cell? ⟨0, 14, none⟩ = some (.string wb) ∧ W.cell? ⟨0, 15, none⟩ = some (.int .i64 x0) ∧ W.cell? ⟨0, 16, none⟩ = some (.int .i64 y0) ∧ W.cell? ⟨0, 17, none⟩ = some (.int .i64 x1) ∧ W.cell? ⟨0, 18, none⟩ = some (.int .i64 y1) ∧ W.cell? ⟨0, 19, none⟩ = some (.int .i64 x2) ∧ W.cell? ⟨0, 20, none⟩ = some (.int .i64 y2) ∧ W.cell? ⟨w.heap.size, 0, none⟩ = some (.int .i64 2) ∧ W.cell? ⟨w.heap.size, 1, none⟩ = some (.int .i64 a) ∧ W.cell? ⟨w.heap.size, 2, none⟩ = some (.int .i64 b) ∧ W.cell? ⟨w.heap.size, 3, none⟩ = some (.int .i64 c) ∧ Below w1.heap.size w1 W) → Below w1.heap.size w1 W := fun h => h.2.2.2.2.2.2.2.2.2.2.2
        have HG0 : Hid (Below w1.heap.size w1 w1) := Below.refl _ _
        go_region_held3 (fun w' => w'.cell? ⟨0, 14, none⟩ = some (.string wb) ∧ w'.cell? ⟨0, 15, none⟩ = some (.int .i64 x0) ∧ w'.cell? ⟨0, 16, none⟩ = some (.int .i64 y0) ∧ w'.cell? ⟨0, 17, none⟩ = some (.int .i64 x1) ∧ w'.cell? ⟨0, 18, none⟩ = some (.int .i64 y1) ∧ w'.cell? ⟨0, 19, none⟩ = some (.int .i64 x2) ∧ w'.cell? ⟨0, 20, none⟩ = some (.int .i64 y2) ∧ w'.cell? ⟨w.heap.size, 0, none⟩ = some (.int .i64 2) ∧ w'.cell? ⟨w.heap.size, 1, none⟩ = some (.int .i64 a) ∧ w'.cell? ⟨w.heap.size, 2, none⟩ = some (.int .i64 b) ∧ w'.cell? ⟨w.heap.size, 3, none⟩ = some (.int .i64 c) ∧ Below w1.heap.size w1 w') ((refine HKK.out _ ?_; repeat (first | with_reducible exact SB | with_reducible exact HG0.out | (with_reducible refine Below.drew ?_) | (with_reducible refine Below.alloc ?_ (by first | exact Nat.le_refl _ | omega | (simp [World.setCell]; done) | (simp [World.setCell]; omega)) _) | (with_reducible refine Below.setCell ?_ (by first | exact Nat.le_refl _ | (dsimp only; omega)) _)))) ((go_at_call 19; refine (numbers_any _ _ _ _ _).mono ?_; rintro e w5 ⟨rfl, hb5⟩; have SB : Below w1.heap.size w1 w5 := (KB (by assumption)).then hb5 (KB (by assumption)).size; have zSB := SB.size; (first
          | (obtain ⟨NA, NB⟩ := nbC2 hb5; first | (have FA := zd7 NA; have FB := zd3 NB) | (have FA := zd3 NA; have FB := zd7 NB))
          | (obtain ⟨NA, NB⟩ := nbC3 hb5; first | (have FA := zd7 NA; have FB := zd3 NB) | (have FA := zd3 NA; have FB := zd7 NB))
          | (have NB := nbCd hb5; have hn1 := lt_of_block NB; have hn2 := Nat.ne_of_lt hn1; have hn3 := hn2.symm; first | (have FA := zd7 NB; have FB := fun o => zd7 (Zd.alloc NB o)) | (have FA := zd3 NB; have FB := fun o => zd3 (Zd.alloc NB o)))
          | (have NB := nbC hb5; have hn1 := lt_of_block NB; have hn2 := Nat.ne_of_lt hn1; have hn3 := hn2.symm; first | (have FA := zd7 NB; have FB := fun o => zd7 (Zd.alloc NB o)) | (have FA := zd3 NB; have FB := fun o => zd3 (Zd.alloc NB o)))
          | skip)))
        · go_wp2_with fail
          go_meet
          exact ⟨_, _, rfl, rfl, Zd.alloc (heap_alloc_new _ _) _, nb_next _ _ _, (SB.alloc zSB _).alloc (SB.alloc zSB _).size _⟩
        · go_wp2_with fail
          go_meet
          exact ⟨_, _, rfl, rfl, nb_next _ _ _, Zd.alloc (heap_alloc_new _ _) _, (SB.alloc zSB _).alloc (SB.alloc zSB _).size _⟩
        · go_wp2_with fail
          go_meet
          have B7 := fun v0 v1 v2 v3 v4 v5 v6 => below7 SB (Nat.le_refl _) v0 v1 v2 v3 v4 v5 v6
          exact ⟨_, _, rfl, rfl, Zd.alloc (set7 NB _ _ _ _ _ _ _) _, nb_set7 _ _ _ _ _ _ _ _ _ _, (B7 _ _ _ _ _ _ _).alloc (B7 _ _ _ _ _ _ _).size _⟩
        · go_wp2_with fail
          go_meet
          exact ⟨_, _, rfl, rfl, (set3_other (by omega) _ _ _).trans (set7 NA _ _ _ _ _ _ _), set3 ((set7_other (by omega) _ _ _ _ _ _ _).trans NB) _ _ _, below3 (below7 SB (Nat.le_refl _) _ _ _ _ _ _ _) (by omega) _ _ _⟩
        · go_wp2_with fail
          go_meet
          have B3 := fun v0 v1 v2 => below3 SB (Nat.le_refl _) v0 v1 v2
          exact ⟨_, _, rfl, rfl, nb_set3 _ _ _ _ _ _, Zd.alloc (set3 NB _ _ _) _, (B3 _ _ _).alloc (B3 _ _ _).size _⟩
        · go_wp2_with fail
          go_meet
          exact ⟨_, _, rfl, rfl, (set3_other (by omega) _ _ _).trans (set7 NB _ _ _ _ _ _ _), set3 ((set7_other (by omega) _ _ _ _ _ _ _).trans NA) _ _ _, below3 (below7 SB (by omega) _ _ _ _ _ _ _) (Nat.le_refl _) _ _ _⟩
      · simp only [Nat.reduceMul, Nat.reduceAdd] at HKK
        have KB : ∀ {W}, (W.cell? ⟨0, 21, none⟩ = some (.string wb) ∧ W.cell? ⟨0, 22, none⟩ = some (.int .i64 x0) ∧ W.cell? ⟨0, 23, none⟩ = some (.int .i64 y0) ∧ W.cell? ⟨0, 24, none⟩ = some (.int .i64 x1) ∧ W.cell? ⟨0, 25, none⟩ = some (.int .i64 y1) ∧ W.cell? ⟨0, 26, none⟩ = some (.int .i64 x2) ∧ W.cell? ⟨0, 27, none⟩ = some (.int .i64 y2) ∧ W.cell? ⟨w.heap.size, 0, none⟩ = some (.int .i64 3) ∧ W.cell? ⟨w.heap.size, 1, none⟩ = some (.int .i64 a) ∧ W.cell? ⟨w.heap.size, 2, none⟩ = some (.int .i64 b) ∧ W.cell? ⟨w.heap.size, 3, none⟩ = some (.int .i64 c) ∧ Below w1.heap.size w1 W) → Below w1.heap.size w1 W := fun h => h.2.2.2.2.2.2.2.2.2.2.2
        have HG0 : Hid (Below w1.heap.size w1 w1) := Below.refl _ _
        go_region_held3 (fun w' => w'.cell? ⟨0, 21, none⟩ = some (.string wb) ∧ w'.cell? ⟨0, 22, none⟩ = some (.int .i64 x0) ∧ w'.cell? ⟨0, 23, none⟩ = some (.int .i64 y0) ∧ w'.cell? ⟨0, 24, none⟩ = some (.int .i64 x1) ∧ w'.cell? ⟨0, 25, none⟩ = some (.int .i64 y1) ∧ w'.cell? ⟨0, 26, none⟩ = some (.int .i64 x2) ∧ w'.cell? ⟨0, 27, none⟩ = some (.int .i64 y2) ∧ w'.cell? ⟨w.heap.size, 0, none⟩ = some (.int .i64 3) ∧ w'.cell? ⟨w.heap.size, 1, none⟩ = some (.int .i64 a) ∧ w'.cell? ⟨w.heap.size, 2, none⟩ = some (.int .i64 b) ∧ w'.cell? ⟨w.heap.size, 3, none⟩ = some (.int .i64 c) ∧ Below w1.heap.size w1 w') ((refine HKK.out _ ?_; repeat (first | with_reducible exact SB | with_reducible exact HG0.out | (with_reducible refine Below.drew ?_) | (with_reducible refine Below.alloc ?_ (by first | exact Nat.le_refl _ | omega | (simp [World.setCell]; done) | (simp [World.setCell]; omega)) _) | (with_reducible refine Below.setCell ?_ (by first | exact Nat.le_refl _ | (dsimp only; omega)) _)))) ((go_at_call 19; refine (numbers_any _ _ _ _ _).mono ?_; rintro e w5 ⟨rfl, hb5⟩; have SB : Below w1.heap.size w1 w5 := (KB (by assumption)).then hb5 (KB (by assumption)).size; have zSB := SB.size; (first
          | (obtain ⟨NA, NB⟩ := nbC2 hb5; first | (have FA := zd7 NA; have FB := zd3 NB) | (have FA := zd3 NA; have FB := zd7 NB))
          | (obtain ⟨NA, NB⟩ := nbC3 hb5; first | (have FA := zd7 NA; have FB := zd3 NB) | (have FA := zd3 NA; have FB := zd7 NB))
          | (have NB := nbCd hb5; have hn1 := lt_of_block NB; have hn2 := Nat.ne_of_lt hn1; have hn3 := hn2.symm; first | (have FA := zd7 NB; have FB := fun o => zd7 (Zd.alloc NB o)) | (have FA := zd3 NB; have FB := fun o => zd3 (Zd.alloc NB o)))
          | (have NB := nbC hb5; have hn1 := lt_of_block NB; have hn2 := Nat.ne_of_lt hn1; have hn3 := hn2.symm; first | (have FA := zd7 NB; have FB := fun o => zd7 (Zd.alloc NB o)) | (have FA := zd3 NB; have FB := fun o => zd3 (Zd.alloc NB o)))
          | skip)))
        · go_wp2_with fail
          go_meet
          exact ⟨_, _, rfl, rfl, Zd.alloc (heap_alloc_new _ _) _, nb_next _ _ _, (SB.alloc zSB _).alloc (SB.alloc zSB _).size _⟩
        · go_wp2_with fail
          go_meet
          exact ⟨_, _, rfl, rfl, nb_next _ _ _, Zd.alloc (heap_alloc_new _ _) _, (SB.alloc zSB _).alloc (SB.alloc zSB _).size _⟩
        · go_wp2_with fail
          go_meet
          have B7 := fun v0 v1 v2 v3 v4 v5 v6 => below7 SB (Nat.le_refl _) v0 v1 v2 v3 v4 v5 v6
          exact ⟨_, _, rfl, rfl, Zd.alloc (set7 NB _ _ _ _ _ _ _) _, nb_set7 _ _ _ _ _ _ _ _ _ _, (B7 _ _ _ _ _ _ _).alloc (B7 _ _ _ _ _ _ _).size _⟩
        · go_wp2_with fail
          go_meet
          exact ⟨_, _, rfl, rfl, (set3_other (by omega) _ _ _).trans (set7 NA _ _ _ _ _ _ _), set3 ((set7_other (by omega) _ _ _ _ _ _ _).trans NB) _ _ _, below3 (below7 SB (Nat.le_refl _) _ _ _ _ _ _ _) (by omega) _ _ _⟩
        · go_wp2_with fail
          go_meet
          have B3 := fun v0 v1 v2 => below3 SB (Nat.le_refl _) v0 v1 v2
          exact ⟨_, _, rfl, rfl, nb_set3 _ _ _ _ _ _, Zd.alloc (set3 NB _ _ _) _, (B3 _ _ _).alloc (B3 _ _ _).size _⟩
        · go_wp2_with fail
          go_meet
          exact ⟨_, _, rfl, rfl, (set3_other (by omega) _ _ _).trans (set7 NB _ _ _ _ _ _ _), set3 ((set7_other (by omega) _ _ _ _ _ _ _).trans NA) _ _ _, below3 (below7 SB (by omega) _ _ _ _ _ _ _) (Nat.le_refl _) _ _ _⟩
      · simp only [Nat.reduceMul, Nat.reduceAdd] at HKK
        have KB : ∀ {W}, (W.cell? ⟨0, 28, none⟩ = some (.string wb) ∧ W.cell? ⟨0, 29, none⟩ = some (.int .i64 x0) ∧ W.cell? ⟨0, 30, none⟩ = some (.int .i64 y0) ∧ W.cell? ⟨0, 31, none⟩ = some (.int .i64 x1) ∧ W.cell? ⟨0, 32, none⟩ = some (.int .i64 y1) ∧ W.cell? ⟨0, 33, none⟩ = some (.int .i64 x2) ∧ W.cell? ⟨0, 34, none⟩ = some (.int .i64 y2) ∧ W.cell? ⟨w.heap.size, 0, none⟩ = some (.int .i64 4) ∧ W.cell? ⟨w.heap.size, 1, none⟩ = some (.int .i64 a) ∧ W.cell? ⟨w.heap.size, 2, none⟩ = some (.int .i64 b) ∧ W.cell? ⟨w.heap.size, 3, none⟩ = some (.int .i64 c) ∧ Below w1.heap.size w1 W) → Below w1.heap.size w1 W := fun h => h.2.2.2.2.2.2.2.2.2.2.2
        have HG0 : Hid (Below w1.heap.size w1 w1) := Below.refl _ _
        go_region_held3 (fun w' => w'.cell? ⟨0, 28, none⟩ = some (.string wb) ∧ w'.cell? ⟨0, 29, none⟩ = some (.int .i64 x0) ∧ w'.cell? ⟨0, 30, none⟩ = some (.int .i64 y0) ∧ w'.cell? ⟨0, 31, none⟩ = some (.int .i64 x1) ∧ w'.cell? ⟨0, 32, none⟩ = some (.int .i64 y1) ∧ w'.cell? ⟨0, 33, none⟩ = some (.int .i64 x2) ∧ w'.cell? ⟨0, 34, none⟩ = some (.int .i64 y2) ∧ w'.cell? ⟨w.heap.size, 0, none⟩ = some (.int .i64 4) ∧ w'.cell? ⟨w.heap.size, 1, none⟩ = some (.int .i64 a) ∧ w'.cell? ⟨w.heap.size, 2, none⟩ = some (.int .i64 b) ∧ w'.cell? ⟨w.heap.size, 3, none⟩ = some (.int .i64 c) ∧ Below w1.heap.size w1 w') ((refine HKK.out _ ?_; repeat (first | with_reducible exact SB | with_reducible exact HG0.out | (with_reducible refine Below.drew ?_) | (with_reducible refine Below.alloc ?_ (by first | exact Nat.le_refl _ | omega | (simp [World.setCell]; done) | (simp [World.setCell]; omega)) _) | (with_reducible refine Below.setCell ?_ (by first | exact Nat.le_refl _ | (dsimp only; omega)) _)))) ((go_at_call 19; refine (numbers_any _ _ _ _ _).mono ?_; rintro e w5 ⟨rfl, hb5⟩; have SB : Below w1.heap.size w1 w5 := (KB (by assumption)).then hb5 (KB (by assumption)).size; have zSB := SB.size; (first
          | (obtain ⟨NA, NB⟩ := nbC2 hb5; first | (have FA := zd7 NA; have FB := zd3 NB) | (have FA := zd3 NA; have FB := zd7 NB))
          | (obtain ⟨NA, NB⟩ := nbC3 hb5; first | (have FA := zd7 NA; have FB := zd3 NB) | (have FA := zd3 NA; have FB := zd7 NB))
          | (have NB := nbCd hb5; have hn1 := lt_of_block NB; have hn2 := Nat.ne_of_lt hn1; have hn3 := hn2.symm; first | (have FA := zd7 NB; have FB := fun o => zd7 (Zd.alloc NB o)) | (have FA := zd3 NB; have FB := fun o => zd3 (Zd.alloc NB o)))
          | (have NB := nbC hb5; have hn1 := lt_of_block NB; have hn2 := Nat.ne_of_lt hn1; have hn3 := hn2.symm; first | (have FA := zd7 NB; have FB := fun o => zd7 (Zd.alloc NB o)) | (have FA := zd3 NB; have FB := fun o => zd3 (Zd.alloc NB o)))
          | skip)))
        · go_wp2_with fail
          go_meet
          exact ⟨_, _, rfl, rfl, Zd.alloc (heap_alloc_new _ _) _, nb_next _ _ _, (SB.alloc zSB _).alloc (SB.alloc zSB _).size _⟩
        · go_wp2_with fail
          go_meet
          exact ⟨_, _, rfl, rfl, nb_next _ _ _, Zd.alloc (heap_alloc_new _ _) _, (SB.alloc zSB _).alloc (SB.alloc zSB _).size _⟩
        · go_wp2_with fail
          go_meet
          have B7 := fun v0 v1 v2 v3 v4 v5 v6 => below7 SB (Nat.le_refl _) v0 v1 v2 v3 v4 v5 v6
          exact ⟨_, _, rfl, rfl, Zd.alloc (set7 NB _ _ _ _ _ _ _) _, nb_set7 _ _ _ _ _ _ _ _ _ _, (B7 _ _ _ _ _ _ _).alloc (B7 _ _ _ _ _ _ _).size _⟩
        · go_wp2_with fail
          go_meet
          exact ⟨_, _, rfl, rfl, (set3_other (by omega) _ _ _).trans (set7 NA _ _ _ _ _ _ _), set3 ((set7_other (by omega) _ _ _ _ _ _ _).trans NB) _ _ _, below3 (below7 SB (Nat.le_refl _) _ _ _ _ _ _ _) (by omega) _ _ _⟩
        · go_wp2_with fail
          go_meet
          have B3 := fun v0 v1 v2 => below3 SB (Nat.le_refl _) v0 v1 v2
          exact ⟨_, _, rfl, rfl, nb_set3 _ _ _ _ _ _, Zd.alloc (set3 NB _ _ _) _, (B3 _ _ _).alloc (B3 _ _ _).size _⟩
        · go_wp2_with fail
          go_meet
          exact ⟨_, _, rfl, rfl, (set3_other (by omega) _ _ _).trans (set7 NB _ _ _ _ _ _ _), set3 ((set7_other (by omega) _ _ _ _ _ _ _).trans NA) _ _ _, below3 (below7 SB (by omega) _ _ _ _ _ _ _) (Nat.le_refl _) _ _ _⟩
      · simp only [Nat.reduceMul, Nat.reduceAdd] at HKK
        have KB : ∀ {W}, (W.cell? ⟨0, 35, none⟩ = some (.string wb) ∧ W.cell? ⟨0, 36, none⟩ = some (.int .i64 x0) ∧ W.cell? ⟨0, 37, none⟩ = some (.int .i64 y0) ∧ W.cell? ⟨0, 38, none⟩ = some (.int .i64 x1) ∧ W.cell? ⟨0, 39, none⟩ = some (.int .i64 y1) ∧ W.cell? ⟨0, 40, none⟩ = some (.int .i64 x2) ∧ W.cell? ⟨0, 41, none⟩ = some (.int .i64 y2) ∧ W.cell? ⟨w.heap.size, 0, none⟩ = some (.int .i64 5) ∧ W.cell? ⟨w.heap.size, 1, none⟩ = some (.int .i64 a) ∧ W.cell? ⟨w.heap.size, 2, none⟩ = some (.int .i64 b) ∧ W.cell? ⟨w.heap.size, 3, none⟩ = some (.int .i64 c) ∧ Below w1.heap.size w1 W) → Below w1.heap.size w1 W := fun h => h.2.2.2.2.2.2.2.2.2.2.2
        have HG0 : Hid (Below w1.heap.size w1 w1) := Below.refl _ _
        go_region_held3 (fun w' => w'.cell? ⟨0, 35, none⟩ = some (.string wb) ∧ w'.cell? ⟨0, 36, none⟩ = some (.int .i64 x0) ∧ w'.cell? ⟨0, 37, none⟩ = some (.int .i64 y0) ∧ w'.cell? ⟨0, 38, none⟩ = some (.int .i64 x1) ∧ w'.cell? ⟨0, 39, none⟩ = some (.int .i64 y1) ∧ w'.cell? ⟨0, 40, none⟩ = some (.int .i64 x2) ∧ w'.cell? ⟨0, 41, none⟩ = some (.int .i64 y2) ∧ w'.cell? ⟨w.heap.size, 0, none⟩ = some (.int .i64 5) ∧ w'.cell? ⟨w.heap.size, 1, none⟩ = some (.int .i64 a) ∧ w'.cell? ⟨w.heap.size, 2, none⟩ = some (.int .i64 b) ∧ w'.cell? ⟨w.heap.size, 3, none⟩ = some (.int .i64 c) ∧ Below w1.heap.size w1 w') ((refine HKK.out _ ?_; repeat (first | with_reducible exact SB | with_reducible exact HG0.out | (with_reducible refine Below.drew ?_) | (with_reducible refine Below.alloc ?_ (by first | exact Nat.le_refl _ | omega | (simp [World.setCell]; done) | (simp [World.setCell]; omega)) _) | (with_reducible refine Below.setCell ?_ (by first | exact Nat.le_refl _ | (dsimp only; omega)) _)))) ((go_at_call 19; refine (numbers_any _ _ _ _ _).mono ?_; rintro e w5 ⟨rfl, hb5⟩; have SB : Below w1.heap.size w1 w5 := (KB (by assumption)).then hb5 (KB (by assumption)).size; have zSB := SB.size; (first
          | (obtain ⟨NA, NB⟩ := nbC2 hb5; first | (have FA := zd7 NA; have FB := zd3 NB) | (have FA := zd3 NA; have FB := zd7 NB))
          | (obtain ⟨NA, NB⟩ := nbC3 hb5; first | (have FA := zd7 NA; have FB := zd3 NB) | (have FA := zd3 NA; have FB := zd7 NB))
          | (have NB := nbCd hb5; have hn1 := lt_of_block NB; have hn2 := Nat.ne_of_lt hn1; have hn3 := hn2.symm; first | (have FA := zd7 NB; have FB := fun o => zd7 (Zd.alloc NB o)) | (have FA := zd3 NB; have FB := fun o => zd3 (Zd.alloc NB o)))
          | (have NB := nbC hb5; have hn1 := lt_of_block NB; have hn2 := Nat.ne_of_lt hn1; have hn3 := hn2.symm; first | (have FA := zd7 NB; have FB := fun o => zd7 (Zd.alloc NB o)) | (have FA := zd3 NB; have FB := fun o => zd3 (Zd.alloc NB o)))
          | skip)))
        · go_wp2_with fail
          go_meet
          exact ⟨_, _, rfl, rfl, Zd.alloc (heap_alloc_new _ _) _, nb_next _ _ _, (SB.alloc zSB _).alloc (SB.alloc zSB _).size _⟩
        · go_wp2_with fail
          go_meet
          exact ⟨_, _, rfl, rfl, nb_next _ _ _, Zd.alloc (heap_alloc_new _ _) _, (SB.alloc zSB _).alloc (SB.alloc zSB _).size _⟩
        · go_wp2_with fail
          go_meet
          have B7 := fun v0 v1 v2 v3 v4 v5 v6 => below7 SB (Nat.le_refl _) v0 v1 v2 v3 v4 v5 v6
          exact ⟨_, _, rfl, rfl, Zd.alloc (set7 NB _ _ _ _ _ _ _) _, nb_set7 _ _ _ _ _ _ _ _ _ _, (B7 _ _ _ _ _ _ _).alloc (B7 _ _ _ _ _ _ _).size _⟩
        · go_wp2_with fail
          go_meet
          exact ⟨_, _, rfl, rfl, (set3_other (by omega) _ _ _).trans (set7 NA _ _ _ _ _ _ _), set3 ((set7_other (by omega) _ _ _ _ _ _ _).trans NB) _ _ _, below3 (below7 SB (Nat.le_refl _) _ _ _ _ _ _ _) (by omega) _ _ _⟩
        · go_wp2_with fail
          go_meet
          have B3 := fun v0 v1 v2 => below3 SB (Nat.le_refl _) v0 v1 v2
          exact ⟨_, _, rfl, rfl, nb_set3 _ _ _ _ _ _, Zd.alloc (set3 NB _ _ _) _, (B3 _ _ _).alloc (B3 _ _ _).size _⟩
        · go_wp2_with fail
          go_meet
          exact ⟨_, _, rfl, rfl, (set3_other (by omega) _ _ _).trans (set7 NB _ _ _ _ _ _ _), set3 ((set7_other (by omega) _ _ _ _ _ _ _).trans NA) _ _ _, below3 (below7 SB (by omega) _ _ _ _ _ _ _) (Nat.le_refl _) _ _ _⟩
      · simp only [Nat.reduceMul, Nat.reduceAdd] at HKK
        have KB : ∀ {W}, (W.cell? ⟨0, 42, none⟩ = some (.string wb) ∧ W.cell? ⟨0, 43, none⟩ = some (.int .i64 x0) ∧ W.cell? ⟨0, 44, none⟩ = some (.int .i64 y0) ∧ W.cell? ⟨0, 45, none⟩ = some (.int .i64 x1) ∧ W.cell? ⟨0, 46, none⟩ = some (.int .i64 y1) ∧ W.cell? ⟨0, 47, none⟩ = some (.int .i64 x2) ∧ W.cell? ⟨0, 48, none⟩ = some (.int .i64 y2) ∧ W.cell? ⟨w.heap.size, 0, none⟩ = some (.int .i64 6) ∧ W.cell? ⟨w.heap.size, 1, none⟩ = some (.int .i64 a) ∧ W.cell? ⟨w.heap.size, 2, none⟩ = some (.int .i64 b) ∧ W.cell? ⟨w.heap.size, 3, none⟩ = some (.int .i64 c) ∧ Below w1.heap.size w1 W) → Below w1.heap.size w1 W := fun h => h.2.2.2.2.2.2.2.2.2.2.2
        have HG0 : Hid (Below w1.heap.size w1 w1) := Below.refl _ _
        go_region_held3 (fun w' => w'.cell? ⟨0, 42, none⟩ = some (.string wb) ∧ w'.cell? ⟨0, 43, none⟩ = some (.int .i64 x0) ∧ w'.cell? ⟨0, 44, none⟩ = some (.int .i64 y0) ∧ w'.cell? ⟨0, 45, none⟩ = some (.int .i64 x1) ∧ w'.cell? ⟨0, 46, none⟩ = some (.int .i64 y1) ∧ w'.cell? ⟨0, 47, none⟩ = some (.int .i64 x2) ∧ w'.cell? ⟨0, 48, none⟩ = some (.int .i64 y2) ∧ w'.cell? ⟨w.heap.size, 0, none⟩ = some (.int .i64 6) ∧ w'.cell? ⟨w.heap.size, 1, none⟩ = some (.int .i64 a) ∧ w'.cell? ⟨w.heap.size, 2, none⟩ = some (.int .i64 b) ∧ w'.cell? ⟨w.heap.size, 3, none⟩ = some (.int .i64 c) ∧ Below w1.heap.size w1 w') ((refine HKK.out _ ?_; repeat (first | with_reducible exact SB | with_reducible exact HG0.out | (with_reducible refine Below.drew ?_) | (with_reducible refine Below.alloc ?_ (by first | exact Nat.le_refl _ | omega | (simp [World.setCell]; done) | (simp [World.setCell]; omega)) _) | (with_reducible refine Below.setCell ?_ (by first | exact Nat.le_refl _ | (dsimp only; omega)) _)))) ((go_at_call 19; refine (numbers_any _ _ _ _ _).mono ?_; rintro e w5 ⟨rfl, hb5⟩; have SB : Below w1.heap.size w1 w5 := (KB (by assumption)).then hb5 (KB (by assumption)).size; have zSB := SB.size; (first
          | (obtain ⟨NA, NB⟩ := nbC2 hb5; first | (have FA := zd7 NA; have FB := zd3 NB) | (have FA := zd3 NA; have FB := zd7 NB))
          | (obtain ⟨NA, NB⟩ := nbC3 hb5; first | (have FA := zd7 NA; have FB := zd3 NB) | (have FA := zd3 NA; have FB := zd7 NB))
          | (have NB := nbCd hb5; have hn1 := lt_of_block NB; have hn2 := Nat.ne_of_lt hn1; have hn3 := hn2.symm; first | (have FA := zd7 NB; have FB := fun o => zd7 (Zd.alloc NB o)) | (have FA := zd3 NB; have FB := fun o => zd3 (Zd.alloc NB o)))
          | (have NB := nbC hb5; have hn1 := lt_of_block NB; have hn2 := Nat.ne_of_lt hn1; have hn3 := hn2.symm; first | (have FA := zd7 NB; have FB := fun o => zd7 (Zd.alloc NB o)) | (have FA := zd3 NB; have FB := fun o => zd3 (Zd.alloc NB o)))
          | skip)))
        · go_wp2_with fail
          go_meet
          exact ⟨_, _, rfl, rfl, Zd.alloc (heap_alloc_new _ _) _, nb_next _ _ _, (SB.alloc zSB _).alloc (SB.alloc zSB _).size _⟩
        · go_wp2_with fail
          go_meet
          exact ⟨_, _, rfl, rfl, nb_next _ _ _, Zd.alloc (heap_alloc_new _ _) _, (SB.alloc zSB _).alloc (SB.alloc zSB _).size _⟩
        · go_wp2_with fail
          go_meet
          have B7 := fun v0 v1 v2 v3 v4 v5 v6 => below7 SB (Nat.le_refl _) v0 v1 v2 v3 v4 v5 v6
          exact ⟨_, _, rfl, rfl, Zd.alloc (set7 NB _ _ _ _ _ _ _) _, nb_set7 _ _ _ _ _ _ _ _ _ _, (B7 _ _ _ _ _ _ _).alloc (B7 _ _ _ _ _ _ _).size _⟩
        · go_wp2_with fail
          go_meet
          exact ⟨_, _, rfl, rfl, (set3_other (by omega) _ _ _).trans (set7 NA _ _ _ _ _ _ _), set3 ((set7_other (by omega) _ _ _ _ _ _ _).trans NB) _ _ _, below3 (below7 SB (Nat.le_refl _) _ _ _ _ _ _ _) (by omega) _ _ _⟩
        · go_wp2_with fail
          go_meet
          have B3 := fun v0 v1 v2 => below3 SB (Nat.le_refl _) v0 v1 v2
          exact ⟨_, _, rfl, rfl, nb_set3 _ _ _ _ _ _, Zd.alloc (set3 NB _ _ _) _, (B3 _ _ _).alloc (B3 _ _ _).size _⟩
        · go_wp2_with fail
          go_meet
          exact ⟨_, _, rfl, rfl, (set3_other (by omega) _ _ _).trans (set7 NB _ _ _ _ _ _ _), set3 ((set7_other (by omega) _ _ _ _ _ _ _).trans NA) _ _ _, below3 (below7 SB (by omega) _ _ _ _ _ _ _) (Nat.le_refl _) _ _ _⟩
      · simp only [Nat.reduceMul, Nat.reduceAdd] at HKK
        have KB : ∀ {W}, (W.cell? ⟨0, 49, none⟩ = some (.string wb) ∧ W.cell? ⟨0, 50, none⟩ = some (.int .i64 x0) ∧ W.cell? ⟨0, 51, none⟩ = some (.int .i64 y0) ∧ W.cell? ⟨0, 52, none⟩ = some (.int .i64 x1) ∧ W.cell? ⟨0, 53, none⟩ = some (.int .i64 y1) ∧ W.cell? ⟨0, 54, none⟩ = some (.int .i64 x2) ∧ W.cell? ⟨0, 55, none⟩ = some (.int .i64 y2) ∧ W.cell? ⟨w.heap.size, 0, none⟩ = some (.int .i64 7) ∧ W.cell? ⟨w.heap.size, 1, none⟩ = some (.int .i64 a) ∧ W.cell? ⟨w.heap.size, 2, none⟩ = some (.int .i64 b) ∧ W.cell? ⟨w.heap.size, 3, none⟩ = some (.int .i64 c) ∧ Below w1.heap.size w1 W) → Below w1.heap.size w1 W := fun h => h.2.2.2.2.2.2.2.2.2.2.2
        have HG0 : Hid (Below w1.heap.size w1 w1) := Below.refl _ _
        go_region_held3 (fun w' => w'.cell? ⟨0, 49, none⟩ = some (.string wb) ∧ w'.cell? ⟨0, 50, none⟩ = some (.int .i64 x0) ∧ w'.cell? ⟨0, 51, none⟩ = some (.int .i64 y0) ∧ w'.cell? ⟨0, 52, none⟩ = some (.int .i64 x1) ∧ w'.cell? ⟨0, 53, none⟩ = some (.int .i64 y1) ∧ w'.cell? ⟨0, 54, none⟩ = some (.int .i64 x2) ∧ w'.cell? ⟨0, 55, none⟩ = some (.int .i64 y2) ∧ w'.cell? ⟨w.heap.size, 0, none⟩ = some (.int .i64 7) ∧ w'.cell? ⟨w.heap.size, 1, none⟩ = some (.int .i64 a) ∧ w'.cell? ⟨w.heap.size, 2, none⟩ = some (.int .i64 b) ∧ w'.cell? ⟨w.heap.size, 3, none⟩ = some (.int .i64 c) ∧ Below w1.heap.size w1 w') ((refine HKK.out _ ?_; repeat (first | with_reducible exact SB | with_reducible exact HG0.out | (with_reducible refine Below.drew ?_) | (with_reducible refine Below.alloc ?_ (by first | exact Nat.le_refl _ | omega | (simp [World.setCell]; done) | (simp [World.setCell]; omega)) _) | (with_reducible refine Below.setCell ?_ (by first | exact Nat.le_refl _ | (dsimp only; omega)) _)))) ((go_at_call 19; refine (numbers_any _ _ _ _ _).mono ?_; rintro e w5 ⟨rfl, hb5⟩; have SB : Below w1.heap.size w1 w5 := (KB (by assumption)).then hb5 (KB (by assumption)).size; have zSB := SB.size; (first
          | (obtain ⟨NA, NB⟩ := nbC2 hb5; first | (have FA := zd7 NA; have FB := zd3 NB) | (have FA := zd3 NA; have FB := zd7 NB))
          | (obtain ⟨NA, NB⟩ := nbC3 hb5; first | (have FA := zd7 NA; have FB := zd3 NB) | (have FA := zd3 NA; have FB := zd7 NB))
          | (have NB := nbCd hb5; have hn1 := lt_of_block NB; have hn2 := Nat.ne_of_lt hn1; have hn3 := hn2.symm; first | (have FA := zd7 NB; have FB := fun o => zd7 (Zd.alloc NB o)) | (have FA := zd3 NB; have FB := fun o => zd3 (Zd.alloc NB o)))
          | (have NB := nbC hb5; have hn1 := lt_of_block NB; have hn2 := Nat.ne_of_lt hn1; have hn3 := hn2.symm; first | (have FA := zd7 NB; have FB := fun o => zd7 (Zd.alloc NB o)) | (have FA := zd3 NB; have FB := fun o => zd3 (Zd.alloc NB o)))
          | skip)))
        · go_wp2_with fail
          go_meet
          exact ⟨_, _, rfl, rfl, Zd.alloc (heap_alloc_new _ _) _, nb_next _ _ _, (SB.alloc zSB _).alloc (SB.alloc zSB _).size _⟩
        · go_wp2_with fail
          go_meet
          exact ⟨_, _, rfl, rfl, nb_next _ _ _, Zd.alloc (heap_alloc_new _ _) _, (SB.alloc zSB _).alloc (SB.alloc zSB _).size _⟩
        · go_wp2_with fail
          go_meet
          have B7 := fun v0 v1 v2 v3 v4 v5 v6 => below7 SB (Nat.le_refl _) v0 v1 v2 v3 v4 v5 v6
          exact ⟨_, _, rfl, rfl, Zd.alloc (set7 NB _ _ _ _ _ _ _) _, nb_set7 _ _ _ _ _ _ _ _ _ _, (B7 _ _ _ _ _ _ _).alloc (B7 _ _ _ _ _ _ _).size _⟩
        · go_wp2_with fail
          go_meet
          exact ⟨_, _, rfl, rfl, (set3_other (by omega) _ _ _).trans (set7 NA _ _ _ _ _ _ _), set3 ((set7_other (by omega) _ _ _ _ _ _ _).trans NB) _ _ _, below3 (below7 SB (Nat.le_refl _) _ _ _ _ _ _ _) (by omega) _ _ _⟩
        · go_wp2_with fail
          go_meet
          have B3 := fun v0 v1 v2 => below3 SB (Nat.le_refl _) v0 v1 v2
          exact ⟨_, _, rfl, rfl, nb_set3 _ _ _ _ _ _, Zd.alloc (set3 NB _ _ _) _, (B3 _ _ _).alloc (B3 _ _ _).size _⟩
        · go_wp2_with fail
          go_meet
          exact ⟨_, _, rfl, rfl, (set3_other (by omega) _ _ _).trans (set7 NB _ _ _ _ _ _ _), set3 ((set7_other (by omega) _ _ _ _ _ _ _).trans NA) _ _ _, below3 (below7 SB (by omega) _ _ _ _ _ _ _) (Nat.le_refl _) _ _ _⟩
    case rest =>
      obtain ⟨pf, pn, rfl, rfl, hpf, hpn, hwc⟩ := hcut
      have BW : Below w.heap.size w wc := B1.out.then hwc B1.out.size
      have lpn := lt_of_block hpn
      have HN : Hid (∀ W, Below wc.heap.size wc W → ∀ i, i < 3 → W.cell? ⟨pn, i, none⟩ = some (.int .i64 (n3 a b c i))) := fun W hW i hi => by
        have e := (hW.block pn lpn).trans hpn
        obtain rfl | rfl | rfl : i = 0 ∨ i = 1 ∨ i = 2 := by omega
        all_goals simp [World.cell?, e, n3]
      obtain ⟨e0, e1, e2, e3, e4, e5, e6, _⟩ := zd7 hpf
      have hcn3 : cn ≤ 3 := by rw [HCN.out]; exact kC_le _
      have hcn3' : (cn : Int) ≤ 3 := by omega
      clear hpf hpn HKK hwc B0 B1 HX1
      go_wp2_with (go_at_call 20; refine (CT _).mono ?_; rintro e w6 ⟨rfl, hb6⟩; have H6 : Hid (Below wc.heap.size wc w6) := hb6; clear hb6)
      clear e0 e1 e2 e3 e4 e5 e6 CT
      have HSTART : Hid (Value.string wb = .string ⟨(cmTo (m : Int) a b c 0).toArray⟩) := by
        unfold Hid cmTo
        rw [List.take_zero, ← HWB.out]
        show _ = Value.string ⟨(kW (m : Int) ++ []).toArray⟩
        rw [List.append_nil]
      go_loopw [5, 7, 23] (fun sv _ iv wr => ∃ j : Nat, j ≤ cn ∧ iv = .int .i64 j ∧ sv = .string ⟨(cmTo (m : Int) a b c j).toArray⟩ ∧ Hid (Below wc.heap.size wc wr)) (fun _ _ iv _ => cn - (intOf iv).toNat)
      case atStart => exact ⟨0, by omega, rfl, HSTART.out, H6⟩
      case round =>
        obtain ⟨j, hj, rfl, rfl, hw⟩ := hrel
        rename World => wr
        by_cases hlt : j < cn
        · have hb := n3_bd HR.out j
          have hl := cmTo_len HR.out j (by rw [← HCN.out]; omega)
          have HS := cmTo_s (k := (m : Int)) (a := a) (b := b) (c := c) (i := j) (by rw [← HCN.out]; exact hlt)
          have HNj := HN.out wr hw.out j (by omega)
          have hjl : j < 3 := by omega
          generalize cmTo (m : Int) a b c j = t at hl HS ⊢
          have HI : Hid (Lib.itoa (n3 a b c j) = Lib.decDigits (n3 a b c j).toNat) := by unfold Hid Lib.itoa; rw [if_neg (by omega)]
          have hd := decDigits_len 9 (n3 a b c j).toNat (by omega)
          generalize n3 a b c j = x at HS HNj hb HI hd
          have HTw : Hid (Lib.TabIs Tryd.prog wr "internal/strconv.uint64pow10" .u64 Lib.pow10Tab) := HT.out _ (BW.then hw.out BW.size)
          have HF : ∀ W, Lib.TabIs Tryd.prog W "internal/strconv.uint64pow10" .u64 Lib.pow10Tab → Calls Tryd.prog 21 #[.int .i64 x, .int .i64 10] W fun e w' => e = .returned (.string ⟨(Lib.decDigits x.toNat).toArray⟩) ∧ Below W.heap.size W w' := fun W hW => by
            refine (Tryd.strconv_FormatInt_10 x (by omega) (by omega) W hW).mono ?_
            rintro e w' ⟨rfl, q, os, rfl⟩
            exact ⟨by rw [HI.out], below_growC _ _ (Nat.le_refl _) _ _⟩
          generalize Lib.decDigits x.toNat = d at HS hd HF
          have HS' : Hid (cmTo (m : Int) a b c (j + 1) = t ++ ([32] ++ d)) := by unfold Hid; rw [HS, List.append_assoc]
          clear HS HI
          have hlt' : (j : Int) < (cn : Int) := by omega
          go_wp2_with (go_at_call 21; refine (HF _ HTw.out).mono ?_; rintro e w7 ⟨rfl, hb7⟩; have H7 : Hid (Below wc.heap.size wc w7) := hw.out.then hb7 hw.out.size; clear hb7)
          go_roundw
          case rel => exact ⟨j + 1, by omega, by go_num, by rw [HS'.out, ← text_app, ← text_app], H7⟩
          case measure => simp [intOf]; omega
        · obtain rfl : j = cn := by omega
          have EA : Hid (ans = cmTo (m : Int) a b c j) := by unfold Hid; rw [E.out, HCN.out, cmTo_all]
          have hnn : ¬ (j : Int) < (j : Int) := by omega
          go_wp2
          go_ret
          exact ⟨by rw [EA.out]; rfl, BW.then hw.out BW.size⟩

end Go.Proofs.YtppnnnijdfbgpaaDoor
