/- A box of 11 cells. -/
import Derived.Test.YtdgfkcobhhlfbaaGreatMem
namespace Go.Proofs.YtdgfkcobhhlfbaaGreat
open Go.RowKit

theorem new_box (w : World) (o : Obj) (s : Nat) (hs : s = w.heap.size) : (w.alloc o).heap[s]? = some o := by subst hs; exact heap_alloc_new w o
/-- its cells, and that none is frozen -/
structure Box11 (W : World) (k : Nat) (v0 v1 v2 v3 v4 v5 v6 v7 v8 v9 v10 : Value) : Prop where
  c0 : W.cell? ⟨k, 0, none⟩ = some v0
  c1 : W.cell? ⟨k, 1, none⟩ = some v1
  c2 : W.cell? ⟨k, 2, none⟩ = some v2
  c3 : W.cell? ⟨k, 3, none⟩ = some v3
  c4 : W.cell? ⟨k, 4, none⟩ = some v4
  c5 : W.cell? ⟨k, 5, none⟩ = some v5
  c6 : W.cell? ⟨k, 6, none⟩ = some v6
  c7 : W.cell? ⟨k, 7, none⟩ = some v7
  c8 : W.cell? ⟨k, 8, none⟩ = some v8
  c9 : W.cell? ⟨k, 9, none⟩ = some v9
  c10 : W.cell? ⟨k, 10, none⟩ = some v10
  f0 : W.frozen? ⟨k, 0, none⟩ = false
  f1 : W.frozen? ⟨k, 1, none⟩ = false
  f2 : W.frozen? ⟨k, 2, none⟩ = false
  f3 : W.frozen? ⟨k, 3, none⟩ = false
  f4 : W.frozen? ⟨k, 4, none⟩ = false
  f5 : W.frozen? ⟨k, 5, none⟩ = false
  f6 : W.frozen? ⟨k, 6, none⟩ = false
  f7 : W.frozen? ⟨k, 7, none⟩ = false
  f8 : W.frozen? ⟨k, 8, none⟩ = false
  f9 : W.frozen? ⟨k, 9, none⟩ = false
  f10 : W.frozen? ⟨k, 10, none⟩ = false
theorem box11 {W : World} {k : Nat} {v0 v1 v2 v3 v4 v5 v6 v7 v8 v9 v10 : Value} {ty : TypeId} (h : W.heap[k]? = some (.cells #[v0, v1, v2, v3, v4, v5, v6, v7, v8, v9, v10] ty (0, 0))) : Box11 W k v0 v1 v2 v3 v4 v5 v6 v7 v8 v9 v10 :=
  ⟨cell_of_blk 0 h (by simp), cell_of_blk 1 h (by simp), cell_of_blk 2 h (by simp), cell_of_blk 3 h (by simp), cell_of_blk 4 h (by simp), cell_of_blk 5 h (by simp), cell_of_blk 6 h (by simp), cell_of_blk 7 h (by simp), cell_of_blk 8 h (by simp), cell_of_blk 9 h (by simp), cell_of_blk 10 h (by simp), free_of_blk 0 h, free_of_blk 1 h, free_of_blk 2 h, free_of_blk 3 h, free_of_blk 4 h, free_of_blk 5 h, free_of_blk 6 h, free_of_blk 7 h, free_of_blk 8 h, free_of_blk 9 h, free_of_blk 10 h⟩
theorem put7 {W : World} {k : Nat} {v0 v1 v2 v3 v4 v5 v6 v7 v8 v9 v10 : Value} {ty : TypeId} (h : W.heap[k]? = some (.cells #[v0, v1, v2, v3, v4, v5, v6, v7, v8, v9, v10] ty (0, 0))) (u0 u1 u2 u3 u4 u5 u6 : Value) :
    (((((((W.setCell ⟨k, 0, none⟩ u0).setCell ⟨k, 1, none⟩ u1).setCell ⟨k, 2, none⟩ u2).setCell ⟨k, 3, none⟩ u3).setCell ⟨k, 4, none⟩ u4).setCell ⟨k, 5, none⟩ u5).setCell ⟨k, 6, none⟩ u6).heap[k]? = some (.cells #[u0, u1, u2, u3, u4, u5, u6, v7, v8, v9, v10] ty (0, 0)) := by
    have h0 : (W.setCell ⟨k, 0, none⟩ u0).heap[k]? = some (.cells #[u0, v1, v2, v3, v4, v5, v6, v7, v8, v9, v10] ty (0, 0)) := blk_set (j := 0) h u0
    have h1 : ((W.setCell ⟨k, 0, none⟩ u0).setCell ⟨k, 1, none⟩ u1).heap[k]? = some (.cells #[u0, u1, v2, v3, v4, v5, v6, v7, v8, v9, v10] ty (0, 0)) := blk_set (j := 1) h0 u1
    have h2 : (((W.setCell ⟨k, 0, none⟩ u0).setCell ⟨k, 1, none⟩ u1).setCell ⟨k, 2, none⟩ u2).heap[k]? = some (.cells #[u0, u1, u2, v3, v4, v5, v6, v7, v8, v9, v10] ty (0, 0)) := blk_set (j := 2) h1 u2
    have h3 : ((((W.setCell ⟨k, 0, none⟩ u0).setCell ⟨k, 1, none⟩ u1).setCell ⟨k, 2, none⟩ u2).setCell ⟨k, 3, none⟩ u3).heap[k]? = some (.cells #[u0, u1, u2, u3, v4, v5, v6, v7, v8, v9, v10] ty (0, 0)) := blk_set (j := 3) h2 u3
    have h4 : (((((W.setCell ⟨k, 0, none⟩ u0).setCell ⟨k, 1, none⟩ u1).setCell ⟨k, 2, none⟩ u2).setCell ⟨k, 3, none⟩ u3).setCell ⟨k, 4, none⟩ u4).heap[k]? = some (.cells #[u0, u1, u2, u3, u4, v5, v6, v7, v8, v9, v10] ty (0, 0)) := blk_set (j := 4) h3 u4
    have h5 : ((((((W.setCell ⟨k, 0, none⟩ u0).setCell ⟨k, 1, none⟩ u1).setCell ⟨k, 2, none⟩ u2).setCell ⟨k, 3, none⟩ u3).setCell ⟨k, 4, none⟩ u4).setCell ⟨k, 5, none⟩ u5).heap[k]? = some (.cells #[u0, u1, u2, u3, u4, u5, v6, v7, v8, v9, v10] ty (0, 0)) := blk_set (j := 5) h4 u5
    have h6 : (((((((W.setCell ⟨k, 0, none⟩ u0).setCell ⟨k, 1, none⟩ u1).setCell ⟨k, 2, none⟩ u2).setCell ⟨k, 3, none⟩ u3).setCell ⟨k, 4, none⟩ u4).setCell ⟨k, 5, none⟩ u5).setCell ⟨k, 6, none⟩ u6).heap[k]? = some (.cells #[u0, u1, u2, u3, u4, u5, u6, v7, v8, v9, v10] ty (0, 0)) := blk_set (j := 6) h5 u6
    exact h6
theorem put7_below {B k : Nat} {w W : World} (h : Below B w W) (hB : B ≤ k) (u0 u1 u2 u3 u4 u5 u6 : Value) : Below B w (((((((W.setCell ⟨k, 0, none⟩ u0).setCell ⟨k, 1, none⟩ u1).setCell ⟨k, 2, none⟩ u2).setCell ⟨k, 3, none⟩ u3).setCell ⟨k, 4, none⟩ u4).setCell ⟨k, 5, none⟩ u5).setCell ⟨k, 6, none⟩ u6) :=
  (((((((h.setCell (p := ⟨k, 0, none⟩) hB _).setCell (p := ⟨k, 1, none⟩) hB _).setCell (p := ⟨k, 2, none⟩) hB _).setCell (p := ⟨k, 3, none⟩) hB _).setCell (p := ⟨k, 4, none⟩) hB _).setCell (p := ⟨k, 5, none⟩) hB _).setCell (p := ⟨k, 6, none⟩) hB _)
theorem put7_keep {W : World} {k r : Nat} (hr : r ≠ k) (u0 u1 u2 u3 u4 u5 u6 : Value) : (((((((W.setCell ⟨k, 0, none⟩ u0).setCell ⟨k, 1, none⟩ u1).setCell ⟨k, 2, none⟩ u2).setCell ⟨k, 3, none⟩ u3).setCell ⟨k, 4, none⟩ u4).setCell ⟨k, 5, none⟩ u5).setCell ⟨k, 6, none⟩ u6).heap[r]? = W.heap[r]? :=
  by
    have e0 : (W.setCell ⟨k, 0, none⟩ u0).heap[r]? = W.heap[r]? := Below.heap_setCell W ⟨k, 0, none⟩ u0 r hr
    have e1 : ((W.setCell ⟨k, 0, none⟩ u0).setCell ⟨k, 1, none⟩ u1).heap[r]? = (W.setCell ⟨k, 0, none⟩ u0).heap[r]? := Below.heap_setCell (W.setCell ⟨k, 0, none⟩ u0) ⟨k, 1, none⟩ u1 r hr
    have e2 : (((W.setCell ⟨k, 0, none⟩ u0).setCell ⟨k, 1, none⟩ u1).setCell ⟨k, 2, none⟩ u2).heap[r]? = ((W.setCell ⟨k, 0, none⟩ u0).setCell ⟨k, 1, none⟩ u1).heap[r]? := Below.heap_setCell ((W.setCell ⟨k, 0, none⟩ u0).setCell ⟨k, 1, none⟩ u1) ⟨k, 2, none⟩ u2 r hr
    have e3 : ((((W.setCell ⟨k, 0, none⟩ u0).setCell ⟨k, 1, none⟩ u1).setCell ⟨k, 2, none⟩ u2).setCell ⟨k, 3, none⟩ u3).heap[r]? = (((W.setCell ⟨k, 0, none⟩ u0).setCell ⟨k, 1, none⟩ u1).setCell ⟨k, 2, none⟩ u2).heap[r]? := Below.heap_setCell (((W.setCell ⟨k, 0, none⟩ u0).setCell ⟨k, 1, none⟩ u1).setCell ⟨k, 2, none⟩ u2) ⟨k, 3, none⟩ u3 r hr
    have e4 : (((((W.setCell ⟨k, 0, none⟩ u0).setCell ⟨k, 1, none⟩ u1).setCell ⟨k, 2, none⟩ u2).setCell ⟨k, 3, none⟩ u3).setCell ⟨k, 4, none⟩ u4).heap[r]? = ((((W.setCell ⟨k, 0, none⟩ u0).setCell ⟨k, 1, none⟩ u1).setCell ⟨k, 2, none⟩ u2).setCell ⟨k, 3, none⟩ u3).heap[r]? := Below.heap_setCell ((((W.setCell ⟨k, 0, none⟩ u0).setCell ⟨k, 1, none⟩ u1).setCell ⟨k, 2, none⟩ u2).setCell ⟨k, 3, none⟩ u3) ⟨k, 4, none⟩ u4 r hr
    have e5 : ((((((W.setCell ⟨k, 0, none⟩ u0).setCell ⟨k, 1, none⟩ u1).setCell ⟨k, 2, none⟩ u2).setCell ⟨k, 3, none⟩ u3).setCell ⟨k, 4, none⟩ u4).setCell ⟨k, 5, none⟩ u5).heap[r]? = (((((W.setCell ⟨k, 0, none⟩ u0).setCell ⟨k, 1, none⟩ u1).setCell ⟨k, 2, none⟩ u2).setCell ⟨k, 3, none⟩ u3).setCell ⟨k, 4, none⟩ u4).heap[r]? := Below.heap_setCell (((((W.setCell ⟨k, 0, none⟩ u0).setCell ⟨k, 1, none⟩ u1).setCell ⟨k, 2, none⟩ u2).setCell ⟨k, 3, none⟩ u3).setCell ⟨k, 4, none⟩ u4) ⟨k, 5, none⟩ u5 r hr
    have e6 : (((((((W.setCell ⟨k, 0, none⟩ u0).setCell ⟨k, 1, none⟩ u1).setCell ⟨k, 2, none⟩ u2).setCell ⟨k, 3, none⟩ u3).setCell ⟨k, 4, none⟩ u4).setCell ⟨k, 5, none⟩ u5).setCell ⟨k, 6, none⟩ u6).heap[r]? = ((((((W.setCell ⟨k, 0, none⟩ u0).setCell ⟨k, 1, none⟩ u1).setCell ⟨k, 2, none⟩ u2).setCell ⟨k, 3, none⟩ u3).setCell ⟨k, 4, none⟩ u4).setCell ⟨k, 5, none⟩ u5).heap[r]? := Below.heap_setCell ((((((W.setCell ⟨k, 0, none⟩ u0).setCell ⟨k, 1, none⟩ u1).setCell ⟨k, 2, none⟩ u2).setCell ⟨k, 3, none⟩ u3).setCell ⟨k, 4, none⟩ u4).setCell ⟨k, 5, none⟩ u5) ⟨k, 6, none⟩ u6 r hr
    exact (((((e6.trans e5).trans e4).trans e3).trans e2).trans e1).trans e0
theorem put_7 {W : World} {k : Nat} {v0 v1 v2 v3 v4 v5 v6 v7 v8 v9 v10 : Value} {ty : TypeId} (h : W.heap[k]? = some (.cells #[v0, v1, v2, v3, v4, v5, v6, v7, v8, v9, v10] ty (0, 0))) (u7 : Value) :
    (W.setCell ⟨k, 7, none⟩ u7).heap[k]? = some (.cells #[v0, v1, v2, v3, v4, v5, v6, u7, v8, v9, v10] ty (0, 0)) := by
    have h0 : (W.setCell ⟨k, 7, none⟩ u7).heap[k]? = some (.cells #[v0, v1, v2, v3, v4, v5, v6, u7, v8, v9, v10] ty (0, 0)) := blk_set (j := 7) h u7
    exact h0
theorem put_7_below {B k : Nat} {w W : World} (h : Below B w W) (hB : B ≤ k) (u7 : Value) : Below B w (W.setCell ⟨k, 7, none⟩ u7) :=
  (h.setCell (p := ⟨k, 7, none⟩) hB _)
theorem put_7_keep {W : World} {k r : Nat} (hr : r ≠ k) (u7 : Value) : (W.setCell ⟨k, 7, none⟩ u7).heap[r]? = W.heap[r]? :=
  by
    have e0 : (W.setCell ⟨k, 7, none⟩ u7).heap[r]? = W.heap[r]? := Below.heap_setCell W ⟨k, 7, none⟩ u7 r hr
    exact e0
theorem put_8 {W : World} {k : Nat} {v0 v1 v2 v3 v4 v5 v6 v7 v8 v9 v10 : Value} {ty : TypeId} (h : W.heap[k]? = some (.cells #[v0, v1, v2, v3, v4, v5, v6, v7, v8, v9, v10] ty (0, 0))) (u8 : Value) :
    (W.setCell ⟨k, 8, none⟩ u8).heap[k]? = some (.cells #[v0, v1, v2, v3, v4, v5, v6, v7, u8, v9, v10] ty (0, 0)) := by
    have h0 : (W.setCell ⟨k, 8, none⟩ u8).heap[k]? = some (.cells #[v0, v1, v2, v3, v4, v5, v6, v7, u8, v9, v10] ty (0, 0)) := blk_set (j := 8) h u8
    exact h0
theorem put_8_below {B k : Nat} {w W : World} (h : Below B w W) (hB : B ≤ k) (u8 : Value) : Below B w (W.setCell ⟨k, 8, none⟩ u8) :=
  (h.setCell (p := ⟨k, 8, none⟩) hB _)
theorem put_8_keep {W : World} {k r : Nat} (hr : r ≠ k) (u8 : Value) : (W.setCell ⟨k, 8, none⟩ u8).heap[r]? = W.heap[r]? :=
  by
    have e0 : (W.setCell ⟨k, 8, none⟩ u8).heap[r]? = W.heap[r]? := Below.heap_setCell W ⟨k, 8, none⟩ u8 r hr
    exact e0
theorem put_9 {W : World} {k : Nat} {v0 v1 v2 v3 v4 v5 v6 v7 v8 v9 v10 : Value} {ty : TypeId} (h : W.heap[k]? = some (.cells #[v0, v1, v2, v3, v4, v5, v6, v7, v8, v9, v10] ty (0, 0))) (u9 : Value) :
    (W.setCell ⟨k, 9, none⟩ u9).heap[k]? = some (.cells #[v0, v1, v2, v3, v4, v5, v6, v7, v8, u9, v10] ty (0, 0)) := by
    have h0 : (W.setCell ⟨k, 9, none⟩ u9).heap[k]? = some (.cells #[v0, v1, v2, v3, v4, v5, v6, v7, v8, u9, v10] ty (0, 0)) := blk_set (j := 9) h u9
    exact h0
theorem put_9_below {B k : Nat} {w W : World} (h : Below B w W) (hB : B ≤ k) (u9 : Value) : Below B w (W.setCell ⟨k, 9, none⟩ u9) :=
  (h.setCell (p := ⟨k, 9, none⟩) hB _)
theorem put_9_keep {W : World} {k r : Nat} (hr : r ≠ k) (u9 : Value) : (W.setCell ⟨k, 9, none⟩ u9).heap[r]? = W.heap[r]? :=
  by
    have e0 : (W.setCell ⟨k, 9, none⟩ u9).heap[r]? = W.heap[r]? := Below.heap_setCell W ⟨k, 9, none⟩ u9 r hr
    exact e0
theorem put_10 {W : World} {k : Nat} {v0 v1 v2 v3 v4 v5 v6 v7 v8 v9 v10 : Value} {ty : TypeId} (h : W.heap[k]? = some (.cells #[v0, v1, v2, v3, v4, v5, v6, v7, v8, v9, v10] ty (0, 0))) (u10 : Value) :
    (W.setCell ⟨k, 10, none⟩ u10).heap[k]? = some (.cells #[v0, v1, v2, v3, v4, v5, v6, v7, v8, v9, u10] ty (0, 0)) := by
    have h0 : (W.setCell ⟨k, 10, none⟩ u10).heap[k]? = some (.cells #[v0, v1, v2, v3, v4, v5, v6, v7, v8, v9, u10] ty (0, 0)) := blk_set (j := 10) h u10
    exact h0
theorem put_10_below {B k : Nat} {w W : World} (h : Below B w W) (hB : B ≤ k) (u10 : Value) : Below B w (W.setCell ⟨k, 10, none⟩ u10) :=
  (h.setCell (p := ⟨k, 10, none⟩) hB _)
theorem put_10_keep {W : World} {k r : Nat} (hr : r ≠ k) (u10 : Value) : (W.setCell ⟨k, 10, none⟩ u10).heap[r]? = W.heap[r]? :=
  by
    have e0 : (W.setCell ⟨k, 10, none⟩ u10).heap[r]? = W.heap[r]? := Below.heap_setCell W ⟨k, 10, none⟩ u10 r hr
    exact e0
theorem put11 {W : World} {k : Nat} {v0 v1 v2 v3 v4 v5 v6 v7 v8 v9 v10 : Value} {ty : TypeId} (h : W.heap[k]? = some (.cells #[v0, v1, v2, v3, v4, v5, v6, v7, v8, v9, v10] ty (0, 0))) (u0 u1 u2 u3 u4 u5 u6 u7 u8 u9 u10 : Value) :
    (((((((((((W.setCell ⟨k, 0, none⟩ u0).setCell ⟨k, 1, none⟩ u1).setCell ⟨k, 2, none⟩ u2).setCell ⟨k, 3, none⟩ u3).setCell ⟨k, 4, none⟩ u4).setCell ⟨k, 5, none⟩ u5).setCell ⟨k, 6, none⟩ u6).setCell ⟨k, 7, none⟩ u7).setCell ⟨k, 8, none⟩ u8).setCell ⟨k, 9, none⟩ u9).setCell ⟨k, 10, none⟩ u10).heap[k]? = some (.cells #[u0, u1, u2, u3, u4, u5, u6, u7, u8, u9, u10] ty (0, 0)) := by
    have h0 : (W.setCell ⟨k, 0, none⟩ u0).heap[k]? = some (.cells #[u0, v1, v2, v3, v4, v5, v6, v7, v8, v9, v10] ty (0, 0)) := blk_set (j := 0) h u0
    have h1 : ((W.setCell ⟨k, 0, none⟩ u0).setCell ⟨k, 1, none⟩ u1).heap[k]? = some (.cells #[u0, u1, v2, v3, v4, v5, v6, v7, v8, v9, v10] ty (0, 0)) := blk_set (j := 1) h0 u1
    have h2 : (((W.setCell ⟨k, 0, none⟩ u0).setCell ⟨k, 1, none⟩ u1).setCell ⟨k, 2, none⟩ u2).heap[k]? = some (.cells #[u0, u1, u2, v3, v4, v5, v6, v7, v8, v9, v10] ty (0, 0)) := blk_set (j := 2) h1 u2
    have h3 : ((((W.setCell ⟨k, 0, none⟩ u0).setCell ⟨k, 1, none⟩ u1).setCell ⟨k, 2, none⟩ u2).setCell ⟨k, 3, none⟩ u3).heap[k]? = some (.cells #[u0, u1, u2, u3, v4, v5, v6, v7, v8, v9, v10] ty (0, 0)) := blk_set (j := 3) h2 u3
    have h4 : (((((W.setCell ⟨k, 0, none⟩ u0).setCell ⟨k, 1, none⟩ u1).setCell ⟨k, 2, none⟩ u2).setCell ⟨k, 3, none⟩ u3).setCell ⟨k, 4, none⟩ u4).heap[k]? = some (.cells #[u0, u1, u2, u3, u4, v5, v6, v7, v8, v9, v10] ty (0, 0)) := blk_set (j := 4) h3 u4
    have h5 : ((((((W.setCell ⟨k, 0, none⟩ u0).setCell ⟨k, 1, none⟩ u1).setCell ⟨k, 2, none⟩ u2).setCell ⟨k, 3, none⟩ u3).setCell ⟨k, 4, none⟩ u4).setCell ⟨k, 5, none⟩ u5).heap[k]? = some (.cells #[u0, u1, u2, u3, u4, u5, v6, v7, v8, v9, v10] ty (0, 0)) := blk_set (j := 5) h4 u5
    have h6 : (((((((W.setCell ⟨k, 0, none⟩ u0).setCell ⟨k, 1, none⟩ u1).setCell ⟨k, 2, none⟩ u2).setCell ⟨k, 3, none⟩ u3).setCell ⟨k, 4, none⟩ u4).setCell ⟨k, 5, none⟩ u5).setCell ⟨k, 6, none⟩ u6).heap[k]? = some (.cells #[u0, u1, u2, u3, u4, u5, u6, v7, v8, v9, v10] ty (0, 0)) := blk_set (j := 6) h5 u6
    have h7 : ((((((((W.setCell ⟨k, 0, none⟩ u0).setCell ⟨k, 1, none⟩ u1).setCell ⟨k, 2, none⟩ u2).setCell ⟨k, 3, none⟩ u3).setCell ⟨k, 4, none⟩ u4).setCell ⟨k, 5, none⟩ u5).setCell ⟨k, 6, none⟩ u6).setCell ⟨k, 7, none⟩ u7).heap[k]? = some (.cells #[u0, u1, u2, u3, u4, u5, u6, u7, v8, v9, v10] ty (0, 0)) := blk_set (j := 7) h6 u7
    have h8 : (((((((((W.setCell ⟨k, 0, none⟩ u0).setCell ⟨k, 1, none⟩ u1).setCell ⟨k, 2, none⟩ u2).setCell ⟨k, 3, none⟩ u3).setCell ⟨k, 4, none⟩ u4).setCell ⟨k, 5, none⟩ u5).setCell ⟨k, 6, none⟩ u6).setCell ⟨k, 7, none⟩ u7).setCell ⟨k, 8, none⟩ u8).heap[k]? = some (.cells #[u0, u1, u2, u3, u4, u5, u6, u7, u8, v9, v10] ty (0, 0)) := blk_set (j := 8) h7 u8
    have h9 : ((((((((((W.setCell ⟨k, 0, none⟩ u0).setCell ⟨k, 1, none⟩ u1).setCell ⟨k, 2, none⟩ u2).setCell ⟨k, 3, none⟩ u3).setCell ⟨k, 4, none⟩ u4).setCell ⟨k, 5, none⟩ u5).setCell ⟨k, 6, none⟩ u6).setCell ⟨k, 7, none⟩ u7).setCell ⟨k, 8, none⟩ u8).setCell ⟨k, 9, none⟩ u9).heap[k]? = some (.cells #[u0, u1, u2, u3, u4, u5, u6, u7, u8, u9, v10] ty (0, 0)) := blk_set (j := 9) h8 u9
    have h10 : (((((((((((W.setCell ⟨k, 0, none⟩ u0).setCell ⟨k, 1, none⟩ u1).setCell ⟨k, 2, none⟩ u2).setCell ⟨k, 3, none⟩ u3).setCell ⟨k, 4, none⟩ u4).setCell ⟨k, 5, none⟩ u5).setCell ⟨k, 6, none⟩ u6).setCell ⟨k, 7, none⟩ u7).setCell ⟨k, 8, none⟩ u8).setCell ⟨k, 9, none⟩ u9).setCell ⟨k, 10, none⟩ u10).heap[k]? = some (.cells #[u0, u1, u2, u3, u4, u5, u6, u7, u8, u9, u10] ty (0, 0)) := blk_set (j := 10) h9 u10
    exact h10
theorem put11_below {B k : Nat} {w W : World} (h : Below B w W) (hB : B ≤ k) (u0 u1 u2 u3 u4 u5 u6 u7 u8 u9 u10 : Value) : Below B w (((((((((((W.setCell ⟨k, 0, none⟩ u0).setCell ⟨k, 1, none⟩ u1).setCell ⟨k, 2, none⟩ u2).setCell ⟨k, 3, none⟩ u3).setCell ⟨k, 4, none⟩ u4).setCell ⟨k, 5, none⟩ u5).setCell ⟨k, 6, none⟩ u6).setCell ⟨k, 7, none⟩ u7).setCell ⟨k, 8, none⟩ u8).setCell ⟨k, 9, none⟩ u9).setCell ⟨k, 10, none⟩ u10) :=
  (((((((((((h.setCell (p := ⟨k, 0, none⟩) hB _).setCell (p := ⟨k, 1, none⟩) hB _).setCell (p := ⟨k, 2, none⟩) hB _).setCell (p := ⟨k, 3, none⟩) hB _).setCell (p := ⟨k, 4, none⟩) hB _).setCell (p := ⟨k, 5, none⟩) hB _).setCell (p := ⟨k, 6, none⟩) hB _).setCell (p := ⟨k, 7, none⟩) hB _).setCell (p := ⟨k, 8, none⟩) hB _).setCell (p := ⟨k, 9, none⟩) hB _).setCell (p := ⟨k, 10, none⟩) hB _)
theorem put11_keep {W : World} {k r : Nat} (hr : r ≠ k) (u0 u1 u2 u3 u4 u5 u6 u7 u8 u9 u10 : Value) : (((((((((((W.setCell ⟨k, 0, none⟩ u0).setCell ⟨k, 1, none⟩ u1).setCell ⟨k, 2, none⟩ u2).setCell ⟨k, 3, none⟩ u3).setCell ⟨k, 4, none⟩ u4).setCell ⟨k, 5, none⟩ u5).setCell ⟨k, 6, none⟩ u6).setCell ⟨k, 7, none⟩ u7).setCell ⟨k, 8, none⟩ u8).setCell ⟨k, 9, none⟩ u9).setCell ⟨k, 10, none⟩ u10).heap[r]? = W.heap[r]? :=
  by
    have e0 : (W.setCell ⟨k, 0, none⟩ u0).heap[r]? = W.heap[r]? := Below.heap_setCell W ⟨k, 0, none⟩ u0 r hr
    have e1 : ((W.setCell ⟨k, 0, none⟩ u0).setCell ⟨k, 1, none⟩ u1).heap[r]? = (W.setCell ⟨k, 0, none⟩ u0).heap[r]? := Below.heap_setCell (W.setCell ⟨k, 0, none⟩ u0) ⟨k, 1, none⟩ u1 r hr
    have e2 : (((W.setCell ⟨k, 0, none⟩ u0).setCell ⟨k, 1, none⟩ u1).setCell ⟨k, 2, none⟩ u2).heap[r]? = ((W.setCell ⟨k, 0, none⟩ u0).setCell ⟨k, 1, none⟩ u1).heap[r]? := Below.heap_setCell ((W.setCell ⟨k, 0, none⟩ u0).setCell ⟨k, 1, none⟩ u1) ⟨k, 2, none⟩ u2 r hr
    have e3 : ((((W.setCell ⟨k, 0, none⟩ u0).setCell ⟨k, 1, none⟩ u1).setCell ⟨k, 2, none⟩ u2).setCell ⟨k, 3, none⟩ u3).heap[r]? = (((W.setCell ⟨k, 0, none⟩ u0).setCell ⟨k, 1, none⟩ u1).setCell ⟨k, 2, none⟩ u2).heap[r]? := Below.heap_setCell (((W.setCell ⟨k, 0, none⟩ u0).setCell ⟨k, 1, none⟩ u1).setCell ⟨k, 2, none⟩ u2) ⟨k, 3, none⟩ u3 r hr
    have e4 : (((((W.setCell ⟨k, 0, none⟩ u0).setCell ⟨k, 1, none⟩ u1).setCell ⟨k, 2, none⟩ u2).setCell ⟨k, 3, none⟩ u3).setCell ⟨k, 4, none⟩ u4).heap[r]? = ((((W.setCell ⟨k, 0, none⟩ u0).setCell ⟨k, 1, none⟩ u1).setCell ⟨k, 2, none⟩ u2).setCell ⟨k, 3, none⟩ u3).heap[r]? := Below.heap_setCell ((((W.setCell ⟨k, 0, none⟩ u0).setCell ⟨k, 1, none⟩ u1).setCell ⟨k, 2, none⟩ u2).setCell ⟨k, 3, none⟩ u3) ⟨k, 4, none⟩ u4 r hr
    have e5 : ((((((W.setCell ⟨k, 0, none⟩ u0).setCell ⟨k, 1, none⟩ u1).setCell ⟨k, 2, none⟩ u2).setCell ⟨k, 3, none⟩ u3).setCell ⟨k, 4, none⟩ u4).setCell ⟨k, 5, none⟩ u5).heap[r]? = (((((W.setCell ⟨k, 0, none⟩ u0).setCell ⟨k, 1, none⟩ u1).setCell ⟨k, 2, none⟩ u2).setCell ⟨k, 3, none⟩ u3).setCell ⟨k, 4, none⟩ u4).heap[r]? := Below.heap_setCell (((((W.setCell ⟨k, 0, none⟩ u0).setCell ⟨k, 1, none⟩ u1).setCell ⟨k, 2, none⟩ u2).setCell ⟨k, 3, none⟩ u3).setCell ⟨k, 4, none⟩ u4) ⟨k, 5, none⟩ u5 r hr
    have e6 : (((((((W.setCell ⟨k, 0, none⟩ u0).setCell ⟨k, 1, none⟩ u1).setCell ⟨k, 2, none⟩ u2).setCell ⟨k, 3, none⟩ u3).setCell ⟨k, 4, none⟩ u4).setCell ⟨k, 5, none⟩ u5).setCell ⟨k, 6, none⟩ u6).heap[r]? = ((((((W.setCell ⟨k, 0, none⟩ u0).setCell ⟨k, 1, none⟩ u1).setCell ⟨k, 2, none⟩ u2).setCell ⟨k, 3, none⟩ u3).setCell ⟨k, 4, none⟩ u4).setCell ⟨k, 5, none⟩ u5).heap[r]? := Below.heap_setCell ((((((W.setCell ⟨k, 0, none⟩ u0).setCell ⟨k, 1, none⟩ u1).setCell ⟨k, 2, none⟩ u2).setCell ⟨k, 3, none⟩ u3).setCell ⟨k, 4, none⟩ u4).setCell ⟨k, 5, none⟩ u5) ⟨k, 6, none⟩ u6 r hr
    have e7 : ((((((((W.setCell ⟨k, 0, none⟩ u0).setCell ⟨k, 1, none⟩ u1).setCell ⟨k, 2, none⟩ u2).setCell ⟨k, 3, none⟩ u3).setCell ⟨k, 4, none⟩ u4).setCell ⟨k, 5, none⟩ u5).setCell ⟨k, 6, none⟩ u6).setCell ⟨k, 7, none⟩ u7).heap[r]? = (((((((W.setCell ⟨k, 0, none⟩ u0).setCell ⟨k, 1, none⟩ u1).setCell ⟨k, 2, none⟩ u2).setCell ⟨k, 3, none⟩ u3).setCell ⟨k, 4, none⟩ u4).setCell ⟨k, 5, none⟩ u5).setCell ⟨k, 6, none⟩ u6).heap[r]? := Below.heap_setCell (((((((W.setCell ⟨k, 0, none⟩ u0).setCell ⟨k, 1, none⟩ u1).setCell ⟨k, 2, none⟩ u2).setCell ⟨k, 3, none⟩ u3).setCell ⟨k, 4, none⟩ u4).setCell ⟨k, 5, none⟩ u5).setCell ⟨k, 6, none⟩ u6) ⟨k, 7, none⟩ u7 r hr
    have e8 : (((((((((W.setCell ⟨k, 0, none⟩ u0).setCell ⟨k, 1, none⟩ u1).setCell ⟨k, 2, none⟩ u2).setCell ⟨k, 3, none⟩ u3).setCell ⟨k, 4, none⟩ u4).setCell ⟨k, 5, none⟩ u5).setCell ⟨k, 6, none⟩ u6).setCell ⟨k, 7, none⟩ u7).setCell ⟨k, 8, none⟩ u8).heap[r]? = ((((((((W.setCell ⟨k, 0, none⟩ u0).setCell ⟨k, 1, none⟩ u1).setCell ⟨k, 2, none⟩ u2).setCell ⟨k, 3, none⟩ u3).setCell ⟨k, 4, none⟩ u4).setCell ⟨k, 5, none⟩ u5).setCell ⟨k, 6, none⟩ u6).setCell ⟨k, 7, none⟩ u7).heap[r]? := Below.heap_setCell ((((((((W.setCell ⟨k, 0, none⟩ u0).setCell ⟨k, 1, none⟩ u1).setCell ⟨k, 2, none⟩ u2).setCell ⟨k, 3, none⟩ u3).setCell ⟨k, 4, none⟩ u4).setCell ⟨k, 5, none⟩ u5).setCell ⟨k, 6, none⟩ u6).setCell ⟨k, 7, none⟩ u7) ⟨k, 8, none⟩ u8 r hr
    have e9 : ((((((((((W.setCell ⟨k, 0, none⟩ u0).setCell ⟨k, 1, none⟩ u1).setCell ⟨k, 2, none⟩ u2).setCell ⟨k, 3, none⟩ u3).setCell ⟨k, 4, none⟩ u4).setCell ⟨k, 5, none⟩ u5).setCell ⟨k, 6, none⟩ u6).setCell ⟨k, 7, none⟩ u7).setCell ⟨k, 8, none⟩ u8).setCell ⟨k, 9, none⟩ u9).heap[r]? = (((((((((W.setCell ⟨k, 0, none⟩ u0).setCell ⟨k, 1, none⟩ u1).setCell ⟨k, 2, none⟩ u2).setCell ⟨k, 3, none⟩ u3).setCell ⟨k, 4, none⟩ u4).setCell ⟨k, 5, none⟩ u5).setCell ⟨k, 6, none⟩ u6).setCell ⟨k, 7, none⟩ u7).setCell ⟨k, 8, none⟩ u8).heap[r]? := Below.heap_setCell (((((((((W.setCell ⟨k, 0, none⟩ u0).setCell ⟨k, 1, none⟩ u1).setCell ⟨k, 2, none⟩ u2).setCell ⟨k, 3, none⟩ u3).setCell ⟨k, 4, none⟩ u4).setCell ⟨k, 5, none⟩ u5).setCell ⟨k, 6, none⟩ u6).setCell ⟨k, 7, none⟩ u7).setCell ⟨k, 8, none⟩ u8) ⟨k, 9, none⟩ u9 r hr
    have e10 : (((((((((((W.setCell ⟨k, 0, none⟩ u0).setCell ⟨k, 1, none⟩ u1).setCell ⟨k, 2, none⟩ u2).setCell ⟨k, 3, none⟩ u3).setCell ⟨k, 4, none⟩ u4).setCell ⟨k, 5, none⟩ u5).setCell ⟨k, 6, none⟩ u6).setCell ⟨k, 7, none⟩ u7).setCell ⟨k, 8, none⟩ u8).setCell ⟨k, 9, none⟩ u9).setCell ⟨k, 10, none⟩ u10).heap[r]? = ((((((((((W.setCell ⟨k, 0, none⟩ u0).setCell ⟨k, 1, none⟩ u1).setCell ⟨k, 2, none⟩ u2).setCell ⟨k, 3, none⟩ u3).setCell ⟨k, 4, none⟩ u4).setCell ⟨k, 5, none⟩ u5).setCell ⟨k, 6, none⟩ u6).setCell ⟨k, 7, none⟩ u7).setCell ⟨k, 8, none⟩ u8).setCell ⟨k, 9, none⟩ u9).heap[r]? := Below.heap_setCell ((((((((((W.setCell ⟨k, 0, none⟩ u0).setCell ⟨k, 1, none⟩ u1).setCell ⟨k, 2, none⟩ u2).setCell ⟨k, 3, none⟩ u3).setCell ⟨k, 4, none⟩ u4).setCell ⟨k, 5, none⟩ u5).setCell ⟨k, 6, none⟩ u6).setCell ⟨k, 7, none⟩ u7).setCell ⟨k, 8, none⟩ u8).setCell ⟨k, 9, none⟩ u9) ⟨k, 10, none⟩ u10 r hr
    exact (((((((((e10.trans e9).trans e8).trans e7).trans e6).trans e5).trans e4).trans e3).trans e2).trans e1).trans e0

end Go.Proofs.YtdgfkcobhhlfbaaGreat
