/- A box of 5 cells. -/
import Derived.Test.YtdgfkcobhhlfbaaGreatMem
import Derived.Test.YtdgfkcobhhlfbaaGreatEntBox
namespace Go.Proofs.YtdgfkcobhhlfbaaGreat
open Go.RowKit

/-- its cells, and that none is frozen -/
structure Box5 (W : World) (k : Nat) (v0 v1 v2 v3 v4 : Value) : Prop where
  c0 : W.cell? ⟨k, 0, none⟩ = some v0
  c1 : W.cell? ⟨k, 1, none⟩ = some v1
  c2 : W.cell? ⟨k, 2, none⟩ = some v2
  c3 : W.cell? ⟨k, 3, none⟩ = some v3
  c4 : W.cell? ⟨k, 4, none⟩ = some v4
  f0 : W.frozen? ⟨k, 0, none⟩ = false
  f1 : W.frozen? ⟨k, 1, none⟩ = false
  f2 : W.frozen? ⟨k, 2, none⟩ = false
  f3 : W.frozen? ⟨k, 3, none⟩ = false
  f4 : W.frozen? ⟨k, 4, none⟩ = false
theorem box5 {W : World} {k : Nat} {v0 v1 v2 v3 v4 : Value} {ty : TypeId} (h : W.heap[k]? = some (.cells #[v0, v1, v2, v3, v4] ty (0, 0))) : Box5 W k v0 v1 v2 v3 v4 :=
  ⟨cell_of_blk 0 h (by simp), cell_of_blk 1 h (by simp), cell_of_blk 2 h (by simp), cell_of_blk 3 h (by simp), cell_of_blk 4 h (by simp), free_of_blk 0 h, free_of_blk 1 h, free_of_blk 2 h, free_of_blk 3 h, free_of_blk 4 h⟩
theorem pst_0 {W : World} {k : Nat} {v0 v1 v2 v3 v4 : Value} {ty : TypeId} (h : W.heap[k]? = some (.cells #[v0, v1, v2, v3, v4] ty (0, 0))) (u0 : Value) :
    (W.setCell ⟨k, 0, none⟩ u0).heap[k]? = some (.cells #[u0, v1, v2, v3, v4] ty (0, 0)) := by
    have h0 : (W.setCell ⟨k, 0, none⟩ u0).heap[k]? = some (.cells #[u0, v1, v2, v3, v4] ty (0, 0)) := blk_set (j := 0) h u0
    exact h0
theorem pst_0_below {B k : Nat} {w W : World} (h : Below B w W) (hB : B ≤ k) (u0 : Value) : Below B w (W.setCell ⟨k, 0, none⟩ u0) :=
  (h.setCell (p := ⟨k, 0, none⟩) hB _)
theorem pst_0_keep {W : World} {k r : Nat} (hr : r ≠ k) (u0 : Value) : (W.setCell ⟨k, 0, none⟩ u0).heap[r]? = W.heap[r]? :=
  by
    have e0 : (W.setCell ⟨k, 0, none⟩ u0).heap[r]? = W.heap[r]? := Below.heap_setCell W ⟨k, 0, none⟩ u0 r hr
    exact e0
theorem pst_1 {W : World} {k : Nat} {v0 v1 v2 v3 v4 : Value} {ty : TypeId} (h : W.heap[k]? = some (.cells #[v0, v1, v2, v3, v4] ty (0, 0))) (u1 : Value) :
    (W.setCell ⟨k, 1, none⟩ u1).heap[k]? = some (.cells #[v0, u1, v2, v3, v4] ty (0, 0)) := by
    have h0 : (W.setCell ⟨k, 1, none⟩ u1).heap[k]? = some (.cells #[v0, u1, v2, v3, v4] ty (0, 0)) := blk_set (j := 1) h u1
    exact h0
theorem pst_1_below {B k : Nat} {w W : World} (h : Below B w W) (hB : B ≤ k) (u1 : Value) : Below B w (W.setCell ⟨k, 1, none⟩ u1) :=
  (h.setCell (p := ⟨k, 1, none⟩) hB _)
theorem pst_1_keep {W : World} {k r : Nat} (hr : r ≠ k) (u1 : Value) : (W.setCell ⟨k, 1, none⟩ u1).heap[r]? = W.heap[r]? :=
  by
    have e0 : (W.setCell ⟨k, 1, none⟩ u1).heap[r]? = W.heap[r]? := Below.heap_setCell W ⟨k, 1, none⟩ u1 r hr
    exact e0
theorem pst_2 {W : World} {k : Nat} {v0 v1 v2 v3 v4 : Value} {ty : TypeId} (h : W.heap[k]? = some (.cells #[v0, v1, v2, v3, v4] ty (0, 0))) (u2 : Value) :
    (W.setCell ⟨k, 2, none⟩ u2).heap[k]? = some (.cells #[v0, v1, u2, v3, v4] ty (0, 0)) := by
    have h0 : (W.setCell ⟨k, 2, none⟩ u2).heap[k]? = some (.cells #[v0, v1, u2, v3, v4] ty (0, 0)) := blk_set (j := 2) h u2
    exact h0
theorem pst_2_below {B k : Nat} {w W : World} (h : Below B w W) (hB : B ≤ k) (u2 : Value) : Below B w (W.setCell ⟨k, 2, none⟩ u2) :=
  (h.setCell (p := ⟨k, 2, none⟩) hB _)
theorem pst_2_keep {W : World} {k r : Nat} (hr : r ≠ k) (u2 : Value) : (W.setCell ⟨k, 2, none⟩ u2).heap[r]? = W.heap[r]? :=
  by
    have e0 : (W.setCell ⟨k, 2, none⟩ u2).heap[r]? = W.heap[r]? := Below.heap_setCell W ⟨k, 2, none⟩ u2 r hr
    exact e0
theorem pst_3 {W : World} {k : Nat} {v0 v1 v2 v3 v4 : Value} {ty : TypeId} (h : W.heap[k]? = some (.cells #[v0, v1, v2, v3, v4] ty (0, 0))) (u3 : Value) :
    (W.setCell ⟨k, 3, none⟩ u3).heap[k]? = some (.cells #[v0, v1, v2, u3, v4] ty (0, 0)) := by
    have h0 : (W.setCell ⟨k, 3, none⟩ u3).heap[k]? = some (.cells #[v0, v1, v2, u3, v4] ty (0, 0)) := blk_set (j := 3) h u3
    exact h0
theorem pst_3_below {B k : Nat} {w W : World} (h : Below B w W) (hB : B ≤ k) (u3 : Value) : Below B w (W.setCell ⟨k, 3, none⟩ u3) :=
  (h.setCell (p := ⟨k, 3, none⟩) hB _)
theorem pst_3_keep {W : World} {k r : Nat} (hr : r ≠ k) (u3 : Value) : (W.setCell ⟨k, 3, none⟩ u3).heap[r]? = W.heap[r]? :=
  by
    have e0 : (W.setCell ⟨k, 3, none⟩ u3).heap[r]? = W.heap[r]? := Below.heap_setCell W ⟨k, 3, none⟩ u3 r hr
    exact e0
theorem pst_4 {W : World} {k : Nat} {v0 v1 v2 v3 v4 : Value} {ty : TypeId} (h : W.heap[k]? = some (.cells #[v0, v1, v2, v3, v4] ty (0, 0))) (u4 : Value) :
    (W.setCell ⟨k, 4, none⟩ u4).heap[k]? = some (.cells #[v0, v1, v2, v3, u4] ty (0, 0)) := by
    have h0 : (W.setCell ⟨k, 4, none⟩ u4).heap[k]? = some (.cells #[v0, v1, v2, v3, u4] ty (0, 0)) := blk_set (j := 4) h u4
    exact h0
theorem pst_4_below {B k : Nat} {w W : World} (h : Below B w W) (hB : B ≤ k) (u4 : Value) : Below B w (W.setCell ⟨k, 4, none⟩ u4) :=
  (h.setCell (p := ⟨k, 4, none⟩) hB _)
theorem pst_4_keep {W : World} {k r : Nat} (hr : r ≠ k) (u4 : Value) : (W.setCell ⟨k, 4, none⟩ u4).heap[r]? = W.heap[r]? :=
  by
    have e0 : (W.setCell ⟨k, 4, none⟩ u4).heap[r]? = W.heap[r]? := Below.heap_setCell W ⟨k, 4, none⟩ u4 r hr
    exact e0
theorem pst5 {W : World} {k : Nat} {v0 v1 v2 v3 v4 : Value} {ty : TypeId} (h : W.heap[k]? = some (.cells #[v0, v1, v2, v3, v4] ty (0, 0))) (u0 u1 u2 u3 u4 : Value) :
    (((((W.setCell ⟨k, 0, none⟩ u0).setCell ⟨k, 1, none⟩ u1).setCell ⟨k, 2, none⟩ u2).setCell ⟨k, 3, none⟩ u3).setCell ⟨k, 4, none⟩ u4).heap[k]? = some (.cells #[u0, u1, u2, u3, u4] ty (0, 0)) := by
    have h0 : (W.setCell ⟨k, 0, none⟩ u0).heap[k]? = some (.cells #[u0, v1, v2, v3, v4] ty (0, 0)) := blk_set (j := 0) h u0
    have h1 : ((W.setCell ⟨k, 0, none⟩ u0).setCell ⟨k, 1, none⟩ u1).heap[k]? = some (.cells #[u0, u1, v2, v3, v4] ty (0, 0)) := blk_set (j := 1) h0 u1
    have h2 : (((W.setCell ⟨k, 0, none⟩ u0).setCell ⟨k, 1, none⟩ u1).setCell ⟨k, 2, none⟩ u2).heap[k]? = some (.cells #[u0, u1, u2, v3, v4] ty (0, 0)) := blk_set (j := 2) h1 u2
    have h3 : ((((W.setCell ⟨k, 0, none⟩ u0).setCell ⟨k, 1, none⟩ u1).setCell ⟨k, 2, none⟩ u2).setCell ⟨k, 3, none⟩ u3).heap[k]? = some (.cells #[u0, u1, u2, u3, v4] ty (0, 0)) := blk_set (j := 3) h2 u3
    have h4 : (((((W.setCell ⟨k, 0, none⟩ u0).setCell ⟨k, 1, none⟩ u1).setCell ⟨k, 2, none⟩ u2).setCell ⟨k, 3, none⟩ u3).setCell ⟨k, 4, none⟩ u4).heap[k]? = some (.cells #[u0, u1, u2, u3, u4] ty (0, 0)) := blk_set (j := 4) h3 u4
    exact h4
theorem pst5_below {B k : Nat} {w W : World} (h : Below B w W) (hB : B ≤ k) (u0 u1 u2 u3 u4 : Value) : Below B w (((((W.setCell ⟨k, 0, none⟩ u0).setCell ⟨k, 1, none⟩ u1).setCell ⟨k, 2, none⟩ u2).setCell ⟨k, 3, none⟩ u3).setCell ⟨k, 4, none⟩ u4) :=
  (((((h.setCell (p := ⟨k, 0, none⟩) hB _).setCell (p := ⟨k, 1, none⟩) hB _).setCell (p := ⟨k, 2, none⟩) hB _).setCell (p := ⟨k, 3, none⟩) hB _).setCell (p := ⟨k, 4, none⟩) hB _)
theorem pst5_keep {W : World} {k r : Nat} (hr : r ≠ k) (u0 u1 u2 u3 u4 : Value) : (((((W.setCell ⟨k, 0, none⟩ u0).setCell ⟨k, 1, none⟩ u1).setCell ⟨k, 2, none⟩ u2).setCell ⟨k, 3, none⟩ u3).setCell ⟨k, 4, none⟩ u4).heap[r]? = W.heap[r]? :=
  by
    have e0 : (W.setCell ⟨k, 0, none⟩ u0).heap[r]? = W.heap[r]? := Below.heap_setCell W ⟨k, 0, none⟩ u0 r hr
    have e1 : ((W.setCell ⟨k, 0, none⟩ u0).setCell ⟨k, 1, none⟩ u1).heap[r]? = (W.setCell ⟨k, 0, none⟩ u0).heap[r]? := Below.heap_setCell (W.setCell ⟨k, 0, none⟩ u0) ⟨k, 1, none⟩ u1 r hr
    have e2 : (((W.setCell ⟨k, 0, none⟩ u0).setCell ⟨k, 1, none⟩ u1).setCell ⟨k, 2, none⟩ u2).heap[r]? = ((W.setCell ⟨k, 0, none⟩ u0).setCell ⟨k, 1, none⟩ u1).heap[r]? := Below.heap_setCell ((W.setCell ⟨k, 0, none⟩ u0).setCell ⟨k, 1, none⟩ u1) ⟨k, 2, none⟩ u2 r hr
    have e3 : ((((W.setCell ⟨k, 0, none⟩ u0).setCell ⟨k, 1, none⟩ u1).setCell ⟨k, 2, none⟩ u2).setCell ⟨k, 3, none⟩ u3).heap[r]? = (((W.setCell ⟨k, 0, none⟩ u0).setCell ⟨k, 1, none⟩ u1).setCell ⟨k, 2, none⟩ u2).heap[r]? := Below.heap_setCell (((W.setCell ⟨k, 0, none⟩ u0).setCell ⟨k, 1, none⟩ u1).setCell ⟨k, 2, none⟩ u2) ⟨k, 3, none⟩ u3 r hr
    have e4 : (((((W.setCell ⟨k, 0, none⟩ u0).setCell ⟨k, 1, none⟩ u1).setCell ⟨k, 2, none⟩ u2).setCell ⟨k, 3, none⟩ u3).setCell ⟨k, 4, none⟩ u4).heap[r]? = ((((W.setCell ⟨k, 0, none⟩ u0).setCell ⟨k, 1, none⟩ u1).setCell ⟨k, 2, none⟩ u2).setCell ⟨k, 3, none⟩ u3).heap[r]? := Below.heap_setCell ((((W.setCell ⟨k, 0, none⟩ u0).setCell ⟨k, 1, none⟩ u1).setCell ⟨k, 2, none⟩ u2).setCell ⟨k, 3, none⟩ u3) ⟨k, 4, none⟩ u4 r hr
    exact (((e4.trans e3).trans e2).trans e1).trans e0

end Go.Proofs.YtdgfkcobhhlfbaaGreat
