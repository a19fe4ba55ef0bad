/- Two jobs drawn. -/
import Derived.Test.YtnbeaeekfahijaaJobDraw3
import Derived.Deep.RegionHeld3
namespace Go.Proofs.Ytnbeaeekfahijaa
open Go.RowKit Go.Sort

/-- block R holds a small job -/
def SmallAt (R : Nat) (w : World) : Prop := ∃ j : Jb, jsmall j ∧ w.heap[R]? = some (.cells #[.int .i64 j.id, .int .i64 j.cores, .int .i64 j.long, .int .i64 j.due, .int .i64 j.wt, .int .i64 j.rank, .int .i64 j.at_] 31 (0, 0))
theorem SmallAt.keep {R : Nat} {w w' : World} (h : SmallAt R w) (hb : w'.heap[R]? = w.heap[R]?) : SmallAt R w' := by
  obtain ⟨j, h1, h2⟩ := h; exact ⟨j, h1, hb.trans h2⟩
theorem SmallAt.store {R : Nat} {w : World} (h : SmallAt R w) {j : Jb} (hj : jsmall j) : SmallAt R (((((((w.setCell ⟨R, 0, none⟩ (.int .i64 j.id)).setCell ⟨R, 1, none⟩ (.int .i64 j.cores)).setCell ⟨R, 2, none⟩ (.int .i64 j.long)).setCell ⟨R, 3, none⟩ (.int .i64 j.due)).setCell ⟨R, 4, none⟩ (.int .i64 j.wt)).setCell ⟨R, 5, none⟩ (.int .i64 j.rank)).setCell ⟨R, 6, none⟩ (.int .i64 j.at_)) := by
  obtain ⟨k, _, h2⟩ := h
  refine ⟨j, hj, ?_⟩
  have := blk_set (j := 6) (blk_set (j := 5) (blk_set (j := 4) (blk_set (j := 3) (blk_set (j := 2) (blk_set (j := 1) (blk_set (j := 0) h2 (.int .i64 j.id)) (.int .i64 j.cores)) (.int .i64 j.long)) (.int .i64 j.due)) (.int .i64 j.wt)) (.int .i64 j.rank)) (.int .i64 j.at_)
  simp only [List.setIfInBounds_toArray, List.set_cons_zero, List.set_cons_succ] at this
  exact this
theorem set7_other (w : World) (R : Nat) (j : Jb) (k : Nat) (hk : k ≠ R) : (((((((w.setCell ⟨R, 0, none⟩ (.int .i64 j.id)).setCell ⟨R, 1, none⟩ (.int .i64 j.cores)).setCell ⟨R, 2, none⟩ (.int .i64 j.long)).setCell ⟨R, 3, none⟩ (.int .i64 j.due)).setCell ⟨R, 4, none⟩ (.int .i64 j.wt)).setCell ⟨R, 5, none⟩ (.int .i64 j.rank)).setCell ⟨R, 6, none⟩ (.int .i64 j.at_)).heap[k]? = w.heap[k]? :=
  ((((((Below.heap_setCell _ _ _ _ hk).trans (Below.heap_setCell _ _ _ _ hk)).trans (Below.heap_setCell _ _ _ _ hk)).trans (Below.heap_setCell _ _ _ _ hk)).trans (Below.heap_setCell _ _ _ _ hk)).trans (Below.heap_setCell _ _ _ _ hk)).trans (Below.heap_setCell _ _ _ _ hk)
theorem set7_size (w : World) (R : Nat) (j : Jb) : (((((((w.setCell ⟨R, 0, none⟩ (.int .i64 j.id)).setCell ⟨R, 1, none⟩ (.int .i64 j.cores)).setCell ⟨R, 2, none⟩ (.int .i64 j.long)).setCell ⟨R, 3, none⟩ (.int .i64 j.due)).setCell ⟨R, 4, none⟩ (.int .i64 j.wt)).setCell ⟨R, 5, none⟩ (.int .i64 j.rank)).setCell ⟨R, 6, none⟩ (.int .i64 j.at_)).heap.size = w.heap.size := by simp [World.setCell]

/-- what holds while the two are drawn: both result blocks hold small jobs; the cursor; the first one's own block -/
structure HeldD (w : World) (cb T5 : Nat) (j : Jb) (a : Option Addr) (n cap : Nat) (zs : List Int) (W : World) : Prop where
  r0 : SmallAt w.heap.size W
  r1 : SmallAt (w.heap.size + 1) W
  cur : CurAt W cb a n cap zs
  low : 0 < n → ∀ b off, a = some ⟨b, off, none⟩ → b < w.heap.size
  bel : Below w.heap.size w W
  ne : w.heap.size + 1 < cb ∧ cb ≠ T5 ∧ w.heap.size + 1 < T5
  box : W.heap[T5]? = some (.cells #[.int .i64 j.id, .int .i64 j.cores, .int .i64 j.long, .int .i64 j.due, .int .i64 j.wt, .int .i64 j.rank, .int .i64 j.at_] 31 (0, 0))

theorem CurAt.setLow {w w' : World} {cb R : Nat} {a : Option Addr} {n cap : Nat} {zs : List Int} (h : CurAt w cb a n cap zs) (hk : ∀ k, k ≠ R → w'.heap[k]? = w.heap[k]?) (hz : w'.heap.size = w.heap.size) (hR : cb ≠ R) (hb : 0 < n → ∀ b off, a = some ⟨b, off, none⟩ → b ≠ R) : CurAt w' cb a n cap zs := by
  obtain ⟨h1, h2, h3, i, z, h4, h5⟩ := h
  refine ⟨h1, ⟨h2.le, h2.mx, h2.bd, fun hn => ?_⟩, h3, i, z, h4, by rw [hk cb hR]; exact h5⟩
  obtain ⟨b, off, e, g1, g2⟩ := h2.at_ hn
  exact ⟨b, off, e, by omega, fun i hi => (World.cell?_of_block (w := w) (a := ⟨b, off + i, none⟩) (hk b (hb hn b off e))).trans (g2 i hi)⟩

theorem HeldD.but {w W W' : World} {cb T5 : Nat} {j : Jb} {a : Option Addr} {n cap : Nat} {zs : List Int} (h : HeldD w cb T5 j a n cap zs W) (c : CurAt W' cb a n cap zs) (b : But cb W W') : HeldD w cb T5 j a n cap zs W' := by
  have hl5 := lt_of_block h.box
  obtain ⟨e1, e2, e3⟩ := h.ne
  have hc := h.cur.lt
  exact ⟨h.r0.keep (b.block _ (by omega) (by omega)), h.r1.keep (b.block _ (by omega) (by omega)), c, h.low, h.bel.trans (b.below (by omega) (by omega)), h.ne, (b.block _ hl5 (Ne.symm e2)).trans h.box⟩
theorem HeldD.drew {w W : World} {cb T5 : Nat} {j : Jb} {a : Option Addr} {n cap : Nat} {zs : List Int} (h : HeldD w cb T5 j a n cap zs W) : HeldD w cb T5 j a n cap zs W.drew := ⟨h.r0, h.r1, h.cur.but (Below.refl _ _).drew h.cur.lt, h.low, h.bel.drew, h.ne, h.box⟩
theorem set7_below (w : World) (R b : Nat) (j : Jb) (hb : b ≤ R) : Below b w (((((((w.setCell ⟨R, 0, none⟩ (.int .i64 j.id)).setCell ⟨R, 1, none⟩ (.int .i64 j.cores)).setCell ⟨R, 2, none⟩ (.int .i64 j.long)).setCell ⟨R, 3, none⟩ (.int .i64 j.due)).setCell ⟨R, 4, none⟩ (.int .i64 j.wt)).setCell ⟨R, 5, none⟩ (.int .i64 j.rank)).setCell ⟨R, 6, none⟩ (.int .i64 j.at_)) :=
  (((((((Below.refl b w).setCell (p := ⟨R, 0, none⟩) hb _).setCell (p := ⟨R, 1, none⟩) hb _).setCell (p := ⟨R, 2, none⟩) hb _).setCell (p := ⟨R, 3, none⟩) hb _).setCell (p := ⟨R, 4, none⟩) hb _).setCell (p := ⟨R, 5, none⟩) hb _).setCell (p := ⟨R, 6, none⟩) hb _
theorem HeldD.set {w W W' : World} {cb T5 R : Nat} {j : Jb} {a : Option Addr} {n cap : Nat} {zs : List Int} (h : HeldD w cb T5 j a n cap zs W) (ho : ∀ k, k ≠ R → W'.heap[k]? = W.heap[k]?) (hz : W'.heap.size = W.heap.size) (hb : Below w.heap.size W W') (hR : R = w.heap.size ∨ R = w.heap.size + 1) (hs : SmallAt R W') : HeldD w cb T5 j a n cap zs W' := by
  obtain ⟨e1, e2, e3⟩ := h.ne
  have hc := h.cur.setLow ho hz (by omega) (fun hn b off e => by have := h.low hn b off e; omega)
  have hbx := (ho T5 (by omega)).trans h.box
  have hbe := h.bel.trans hb
  rcases hR with rfl | rfl
  · exact ⟨hs, h.r1.keep (ho _ (by omega)), hc, h.low, hbe, h.ne, hbx⟩
  · exact ⟨h.r0.keep (ho _ (by omega)), hs, hc, h.low, hbe, h.ne, hbx⟩
theorem HeldD.store0 {w W : World} {cb T5 : Nat} {j x : Jb} {a : Option Addr} {n cap : Nat} {zs : List Int} (h : HeldD w cb T5 j a n cap zs W) (hx : jsmall x) : HeldD w cb T5 j a n cap zs (((((((W.setCell ⟨w.heap.size, 0, none⟩ (.int .i64 x.id)).setCell ⟨w.heap.size, 1, none⟩ (.int .i64 x.cores)).setCell ⟨w.heap.size, 2, none⟩ (.int .i64 x.long)).setCell ⟨w.heap.size, 3, none⟩ (.int .i64 x.due)).setCell ⟨w.heap.size, 4, none⟩ (.int .i64 x.wt)).setCell ⟨w.heap.size, 5, none⟩ (.int .i64 x.rank)).setCell ⟨w.heap.size, 6, none⟩ (.int .i64 x.at_)) :=
  h.set (set7_other W w.heap.size x) (set7_size W w.heap.size x) (set7_below W w.heap.size w.heap.size x (Nat.le_refl _)) (Or.inl rfl) (h.r0.store hx)
theorem HeldD.store1 {w W : World} {cb T5 : Nat} {j x : Jb} {a : Option Addr} {n cap : Nat} {zs : List Int} (h : HeldD w cb T5 j a n cap zs W) (hx : jsmall x) : HeldD w cb T5 j a n cap zs (((((((W.setCell ⟨w.heap.size + 1, 0, none⟩ (.int .i64 x.id)).setCell ⟨w.heap.size + 1, 1, none⟩ (.int .i64 x.cores)).setCell ⟨w.heap.size + 1, 2, none⟩ (.int .i64 x.long)).setCell ⟨w.heap.size + 1, 3, none⟩ (.int .i64 x.due)).setCell ⟨w.heap.size + 1, 4, none⟩ (.int .i64 x.wt)).setCell ⟨w.heap.size + 1, 5, none⟩ (.int .i64 x.rank)).setCell ⟨w.heap.size + 1, 6, none⟩ (.int .i64 x.at_)) :=
  h.set (set7_other W (w.heap.size + 1) x) (set7_size W (w.heap.size + 1) x) (set7_below W (w.heap.size + 1) w.heap.size x (by omega)) (Or.inr rfl) (h.r1.store hx)

theorem blk7 {w : World} {B : Nat} {j : Jb} (h : w.heap[B]? = some (.cells #[.int .i64 j.id, .int .i64 j.cores, .int .i64 j.long, .int .i64 j.due, .int .i64 j.wt, .int .i64 j.rank, .int .i64 j.at_] 31 (0, 0))) : (w.cell? ⟨B, 0, none⟩ = some (.int .i64 j.id) ∧ w.cell? ⟨B, 1, none⟩ = some (.int .i64 j.cores) ∧ w.cell? ⟨B, 2, none⟩ = some (.int .i64 j.long) ∧ w.cell? ⟨B, 3, none⟩ = some (.int .i64 j.due) ∧ w.cell? ⟨B, 4, none⟩ = some (.int .i64 j.wt) ∧ w.cell? ⟨B, 5, none⟩ = some (.int .i64 j.rank) ∧ w.cell? ⟨B, 6, none⟩ = some (.int .i64 j.at_)) ∧ (w.frozen? ⟨B, 0, none⟩ = false ∧ w.frozen? ⟨B, 1, none⟩ = false ∧ w.frozen? ⟨B, 2, none⟩ = false ∧ w.frozen? ⟨B, 3, none⟩ = false ∧ w.frozen? ⟨B, 4, none⟩ = false ∧ w.frozen? ⟨B, 5, none⟩ = false ∧ w.frozen? ⟨B, 6, none⟩ = false) := by
  simp [World.cell?, World.frozen?, h]

end Go.Proofs.Ytnbeaeekfahijaa
