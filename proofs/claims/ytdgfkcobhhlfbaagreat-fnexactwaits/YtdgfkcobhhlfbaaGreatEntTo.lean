/- Copies of entries, of the call's own. -/
import Derived.Test.YtdgfkcobhhlfbaaGreatEntIn
import Derived.Laws.Rows
import Derived.Laws.ResultCell
namespace Go.Proofs.YtdgfkcobhhlfbaaGreat
open Go.RowKit

theorem sizedEnt : (Tryz.prog.info? 64).map (·.size) = some 11 := by kernel_rfl

set_option maxRecDepth 8000 in
set_option maxHeartbeats 4000000 in
theorem toEntry_any (e : En) (v : Option Addr) (m : Nat) (w : World) (h : PartS w v e.ps.length m e.ps) (hn : e.ps.length ≤ 1048576) :
    Calls Tryz.prog 38 #[enV e v m] w fun en w' => ∃ g, en = .returned (enV e (some ⟨g, 0, none⟩) e.ps.length) ∧ w.heap.size ≤ g ∧ PartB w' g e.ps.length e.ps.length e.ps ∧ Below w.heap.size w w' := by
  unfold enV
  obtain ⟨W0, hW0⟩ : ∃ W0, W0 = ((w.alloc (.cells #[.int .i64 e.job.id, .int .i64 e.job.cores, .int .i64 e.job.long, .int .i64 e.job.due, .int .i64 e.job.wt, .int .i64 e.job.rank, .int .i64 e.job.at_, .int .i64 e.ph, .int .i64 e.st, .int .i64 e.ep, .slice v e.ps.length m] 58)).alloc (.cells #[.int .i64 0, .int .i64 0, .int .i64 0, .int .i64 0, .int .i64 0, .int .i64 0, .int .i64 0, .int .i64 0, .int .i64 0, .int .i64 0, .slice none 0 0] 64)).alloc (.cells #[.int .i64 0, .int .i64 0, .int .i64 0, .int .i64 0, .int .i64 0, .int .i64 0, .int .i64 0, .int .i64 0, .int .i64 0, .int .i64 0, .slice none 0 0] 64) := ⟨_, rfl⟩
  have B0 : Below w.heap.size w W0 := by rw [hW0]; exact (box_below0.alloc (by simp) _).alloc (by simp; omega) _
  have s0 : W0.heap.size = w.heap.size + 3 := by rw [hW0]; simp
  have x0 : W0.heap[w.heap.size]? = some (.cells #[.int .i64 e.job.id, .int .i64 e.job.cores, .int .i64 e.job.long, .int .i64 e.job.due, .int .i64 e.job.wt, .int .i64 e.job.rank, .int .i64 e.job.at_, .int .i64 e.ph, .int .i64 e.st, .int .i64 e.ep, .slice v e.ps.length m] 58 (0, 0)) := by rw [hW0]; exact (Below.heap_alloc _ _ _ (by simp; omega)).trans ((Below.heap_alloc _ _ _ (by simp)).trans (heap_alloc_new _ _))
  have r0 : W0.heap[w.heap.size + 1]? = some (.cells #[.int .i64 0, .int .i64 0, .int .i64 0, .int .i64 0, .int .i64 0, .int .i64 0, .int .i64 0, .int .i64 0, .int .i64 0, .int .i64 0, .slice none 0 0] 64 (0, 0)) := by rw [hW0]; exact (Below.heap_alloc _ _ _ (by simp)).trans (new_box _ _ _ (by simp))
  have o0 : W0.heap[w.heap.size + 1 + 1]? = some (.cells #[.int .i64 0, .int .i64 0, .int .i64 0, .int .i64 0, .int .i64 0, .int .i64 0, .int .i64 0, .int .i64 0, .int .i64 0, .int .i64 0, .slice none 0 0] 64 (0, 0)) := by rw [hW0]; exact new_box _ _ _ (by simp)
  have HP : Hid (∀ W, Below w.heap.size w W → PartS W v e.ps.length m e.ps) := fun W hW => h.below hW
  clear h
  go_enter Tryz.func38, Tryz.ntmps38
  go_upto_region 2 with fail
  rw [← hW0]
  clear hW0
  generalize hXe : w.heap.size = X at B0 s0 x0 r0 o0 HP ⊢
  have HXe : Hid (w.heap.size = X) := hXe
  clear hXe
  obtain ⟨a0, a1, a2, a3, a4, a5, a6, a7, a8, a9, a10, fa0, fa1, fa2, fa3, fa4, fa5, fa6, fa7, fa8, fa9, fa10⟩ := box11 x0
  go_wp2_with fail
  refine (toJob_any _ _ _ _ _ _ _ _).mono ?_
  rintro en w1 ⟨rfl, hb1⟩
  have x1 := (hb1.block X (by omega)).trans x0
  have r1 := (hb1.block (X + 1) (by omega)).trans r0
  have o1 := (hb1.block (X + 1 + 1) (by omega)).trans o0
  have s1 := hb1.size
  have B1 : Below X w w1 := B0.trans (hb1.mono (by omega))
  clear a0 a1 a2 a3 a4 a5 a6 a7 a8 a9 a10 fa0 fa1 fa2 fa3 fa4 fa5 fa6 fa7 fa8 fa9 fa10 x0 r0 o0 hb1 B0
  obtain ⟨a0, a1, a2, a3, a4, a5, a6, a7, a8, a9, a10, fa0, fa1, fa2, fa3, fa4, fa5, fa6, fa7, fa8, fa9, fa10⟩ := box11 x1
  obtain ⟨b0, b1, b2, b3, b4, b5, b6, b7, b8, b9, b10, fb0, fb1, fb2, fb3, fb4, fb5, fb6, fb7, fb8, fb9, fb10⟩ := box11 o1
  have o2 := put_9 (put_8 (put_7 (put7 o1 (.int .i64 e.job.id) (.int .i64 e.job.cores) (.int .i64 e.job.long) (.int .i64 e.job.due) (.int .i64 e.job.wt) (.int .i64 e.job.rank) (.int .i64 e.job.at_)) (.int .i64 e.ph)) (.int .i64 e.st)) (.int .i64 e.ep)
  have B2 := put_9_below (put_8_below (put_7_below (put7_below B1 (show X ≤ X + 1 + 1 by omega) (.int .i64 e.job.id) (.int .i64 e.job.cores) (.int .i64 e.job.long) (.int .i64 e.job.due) (.int .i64 e.job.wt) (.int .i64 e.job.rank) (.int .i64 e.job.at_)) (show X ≤ X + 1 + 1 by omega) (.int .i64 e.ph)) (show X ≤ X + 1 + 1 by omega) (.int .i64 e.st)) (show X ≤ X + 1 + 1 by omega) (.int .i64 e.ep)
  have k2 : ∀ r, r ≠ X + 1 + 1 → _ := fun r hr => (put_9_keep hr (.int .i64 e.ep)).trans ((put_8_keep hr (.int .i64 e.st)).trans ((put_7_keep hr (.int .i64 e.ph)).trans (put7_keep (W := w1) hr (.int .i64 e.job.id) (.int .i64 e.job.cores) (.int .i64 e.job.long) (.int .i64 e.job.due) (.int .i64 e.job.wt) (.int .i64 e.job.rank) (.int .i64 e.job.at_))))
  have Ho2 : Hid _ := o2
  have HB2 : Hid _ := B2
  have Hk2 : Hid _ := k2
  clear o2 B2 k2
  go_wp2_with fail
  generalize ((((((((((w1.setCell ⟨X + 1 + 1, 0, none⟩ (.int .i64 e.job.id)).setCell ⟨X + 1 + 1, 1, none⟩ (.int .i64 e.job.cores)).setCell ⟨X + 1 + 1, 2, none⟩ (.int .i64 e.job.long)).setCell ⟨X + 1 + 1, 3, none⟩ (.int .i64 e.job.due)).setCell ⟨X + 1 + 1, 4, none⟩ (.int .i64 e.job.wt)).setCell ⟨X + 1 + 1, 5, none⟩ (.int .i64 e.job.rank)).setCell ⟨X + 1 + 1, 6, none⟩ (.int .i64 e.job.at_)).setCell ⟨X + 1 + 1, 7, none⟩ (.int .i64 e.ph)).setCell ⟨X + 1 + 1, 8, none⟩ (.int .i64 e.st)).setCell ⟨X + 1 + 1, 9, none⟩ (.int .i64 e.ep)) = W2 at Ho2 HB2 Hk2 ⊢
  clear a0 a1 a2 a3 a4 a5 a6 a7 a8 a9 a10 fa0 fa1 fa2 fa3 fa4 fa5 fa6 fa7 fa8 fa9 fa10 b0 b1 b2 b3 b4 b5 b6 b7 b8 b9 b10 fb0 fb1 fb2 fb3 fb4 fb5 fb6 fb7 fb8 fb9 fb10
  have r2 := (Hk2.out (X + 1) (by omega)).trans r1
  have s2 := lt_of_block Ho2.out
  refine (toPartS_any v e.ps.length m e.ps _ (HP.out _ HB2.out) hn).mono ?_
  rintro en w6 ⟨g, rfl, hg, hPB, hb6⟩
  have o6 := (hb6.block (X + 1 + 1) s2).trans Ho2.out
  have r6 := (hb6.block (X + 1) (by omega)).trans r2
  have B6 : Below X w w6 := HB2.out.trans (hb6.mono (by omega))
  obtain ⟨a0, a1, a2, a3, a4, a5, a6, a7, a8, a9, a10, fa0, fa1, fa2, fa3, fa4, fa5, fa6, fa7, fa8, fa9, fa10⟩ := box11 o6
  obtain ⟨b0, b1, b2, b3, b4, b5, b6, b7, b8, b9, b10, fb0, fb1, fb2, fb3, fb4, fb5, fb6, fb7, fb8, fb9, fb10⟩ := box11 r6
  have hne1 : g ≠ X + 1 + 1 := by omega
  have hne2 : g ≠ X + 1 := by omega
  have HE : Hid _ := put11 ((put_10_keep (W := w6) (show X + 1 ≠ X + 1 + 1 by omega) (.slice (some ⟨g, 0, none⟩) e.ps.length e.ps.length)).trans r6) (.int .i64 e.job.id) (.int .i64 e.job.cores) (.int .i64 e.job.long) (.int .i64 e.job.due) (.int .i64 e.job.wt) (.int .i64 e.job.rank) (.int .i64 e.job.at_) (.int .i64 e.ph) (.int .i64 e.st) (.int .i64 e.ep) (.slice (some ⟨g, 0, none⟩) e.ps.length e.ps.length)
  have HB : Hid _ := put11_below (put_10_below B6 (show X ≤ X + 1 + 1 by omega) (.slice (some ⟨g, 0, none⟩) e.ps.length e.ps.length)) (show X ≤ X + 1 by omega) (.int .i64 e.job.id) (.int .i64 e.job.cores) (.int .i64 e.job.long) (.int .i64 e.job.due) (.int .i64 e.job.wt) (.int .i64 e.job.rank) (.int .i64 e.job.at_) (.int .i64 e.ph) (.int .i64 e.st) (.int .i64 e.ep) (.slice (some ⟨g, 0, none⟩) e.ps.length e.ps.length)
  have HG : Hid _ := (put11_keep hne2 (.int .i64 e.job.id) (.int .i64 e.job.cores) (.int .i64 e.job.long) (.int .i64 e.job.due) (.int .i64 e.job.wt) (.int .i64 e.job.rank) (.int .i64 e.job.at_) (.int .i64 e.ph) (.int .i64 e.st) (.int .i64 e.ep) (.slice (some ⟨g, 0, none⟩) e.ps.length e.ps.length)).trans (put_10_keep (W := w6) hne1 (.slice (some ⟨g, 0, none⟩) e.ps.length e.ps.length))
  have Hg : Hid (X ≤ g) := by unfold Hid; omega
  have HPB : Hid (PartB w6 g e.ps.length e.ps.length e.ps) := hPB
  clear o6 r6 r2 hPB hb6 B6 hg hne1 hne2 x1 r1 o1 s1 B1 s2 Ho2 HB2 Hk2 HP
  go_wp2_with fail
  refine bodyPost_ret (results_cell_row rfl _ _ (X + 1) _ _ _ _ rfl HE.out Tryz.underlying64 rfl sizedEnt) rfl ?_
  rw [HXe.out]
  refine ⟨g, rfl, Hg.out, ?_, HB.out⟩
  obtain ⟨cur, q1, q2⟩ := HPB.out
  exact ⟨cur, HG.out.trans q1, q2⟩

/-- a header: a block of the call's own or none, and its room -/
def hdr (x : Option Nat × Nat) (n : Nat) : Value := .slice (x.1.map fun g => ⟨g, 0, none⟩) n x.2
/-- parts of the call's own behind a header -/
def PtOwn (w : World) (base hi B : Nat) (x : Option Nat × Nat) (ps : List Pt) : Prop :=
  (x.1 = none ∧ x.2 = 0 ∧ ps = []) ∨ ∃ g, x.1 = some g ∧ base ≤ g ∧ g < hi ∧ g ≠ B ∧ PartB w g x.2 ps.length ps ∧ ps.length ≤ x.2 ∧ x.2 ≤ maxLen
/-- block B is a row of entries of the call's own, room for cap, the first k those of ls; each one's parts lie in a block of their own -/
structure EntO (w : World) (base hi B cap k : Nat) (ls : List En) (H : Nat → Option Nat × Nat) : Prop where
  lo : base ≤ B
  up : B < hi
  blk : ∃ cur : Array Value, w.heap[B]? = some (.cells cur 64 (0, 0)) ∧ cur.size = cap * 11 ∧ ∀ i, i < k → (∀ c, c < 10 → cur[i * 11 + c]? = some (.int .i64 (enc (eng ls i) c))) ∧ cur[i * 11 + 10]? = some (hdr (H i) (eng ls i).ps.length)
  kid : ∀ i, i < k → PtOwn w base hi B (H i) (eng ls i).ps
  apart : ∀ i j, i < k → j < k → i ≠ j → ∀ g, (H i).1 = some g → (H j).1 ≠ some g
theorem PtOwn.below {w w' : World} {base hi hi' B : Nat} {x : Option Nat × Nat} {ps : List Pt} (h : PtOwn w base hi B x ps) (hb : Below w.heap.size w w') (hh : hi ≤ hi') : PtOwn w' base hi' B x ps := by
  refine h.imp id ?_
  rintro ⟨g, h1, h2, h3, h4, h5, h6⟩
  exact ⟨g, h1, h2, by omega, h4, h5.below hb, h6⟩
theorem EntO.below {w w' : World} {base hi hi' B cap k : Nat} {ls : List En} {H : Nat → Option Nat × Nat} (h : EntO w base hi B cap k ls H) (hb : Below w.heap.size w w') (hh : hi ≤ hi') : EntO w' base hi' B cap k ls H := by
  obtain ⟨cur, h1, h2⟩ := h.blk
  exact ⟨h.lo, Nat.lt_of_lt_of_le h.up hh, ⟨cur, (hb.block B (lt_of_block h1)).trans h1, h2⟩, fun i hi => (h.kid i hi).below hb hh, h.apart⟩
theorem PartB.blk {w w' : World} {g c n : Nat} {ps : List Pt} (h : PartB w g c n ps) (hb : w'.heap[g]? = w.heap[g]?) : PartB w' g c n ps := by
  obtain ⟨cur, h1, h2⟩ := h
  exact ⟨cur, hb.trans h1, h2⟩
/-- the eleven stores of number k -/
theorem put11k_keep {W : World} {B k r : Nat} (hr : r ≠ B) (u0 u1 u2 u3 u4 u5 u6 u7 u8 u9 u10 : Value) : (((((((((((W.setCell ⟨B, k * 11, none⟩ u0).setCell ⟨B, k * 11 + 1, none⟩ u1).setCell ⟨B, k * 11 + 2, none⟩ u2).setCell ⟨B, k * 11 + 3, none⟩ u3).setCell ⟨B, k * 11 + 4, none⟩ u4).setCell ⟨B, k * 11 + 5, none⟩ u5).setCell ⟨B, k * 11 + 6, none⟩ u6).setCell ⟨B, k * 11 + 7, none⟩ u7).setCell ⟨B, k * 11 + 8, none⟩ u8).setCell ⟨B, k * 11 + 9, none⟩ u9).setCell ⟨B, k * 11 + 10, none⟩ u10).heap[r]? = W.heap[r]? := by
  have e0 : (W.setCell ⟨B, k * 11, none⟩ u0).heap[r]? = W.heap[r]? := Below.heap_setCell W ⟨B, k * 11, none⟩ u0 r hr
  have e1 : ((W.setCell ⟨B, k * 11, none⟩ u0).setCell ⟨B, k * 11 + 1, none⟩ u1).heap[r]? = (W.setCell ⟨B, k * 11, none⟩ u0).heap[r]? := Below.heap_setCell (W.setCell ⟨B, k * 11, none⟩ u0) ⟨B, k * 11 + 1, none⟩ u1 r hr
  have e2 : (((W.setCell ⟨B, k * 11, none⟩ u0).setCell ⟨B, k * 11 + 1, none⟩ u1).setCell ⟨B, k * 11 + 2, none⟩ u2).heap[r]? = ((W.setCell ⟨B, k * 11, none⟩ u0).setCell ⟨B, k * 11 + 1, none⟩ u1).heap[r]? := Below.heap_setCell ((W.setCell ⟨B, k * 11, none⟩ u0).setCell ⟨B, k * 11 + 1, none⟩ u1) ⟨B, k * 11 + 2, none⟩ u2 r hr
  have e3 : ((((W.setCell ⟨B, k * 11, none⟩ u0).setCell ⟨B, k * 11 + 1, none⟩ u1).setCell ⟨B, k * 11 + 2, none⟩ u2).setCell ⟨B, k * 11 + 3, none⟩ u3).heap[r]? = (((W.setCell ⟨B, k * 11, none⟩ u0).setCell ⟨B, k * 11 + 1, none⟩ u1).setCell ⟨B, k * 11 + 2, none⟩ u2).heap[r]? := Below.heap_setCell (((W.setCell ⟨B, k * 11, none⟩ u0).setCell ⟨B, k * 11 + 1, none⟩ u1).setCell ⟨B, k * 11 + 2, none⟩ u2) ⟨B, k * 11 + 3, none⟩ u3 r hr
  have e4 : (((((W.setCell ⟨B, k * 11, none⟩ u0).setCell ⟨B, k * 11 + 1, none⟩ u1).setCell ⟨B, k * 11 + 2, none⟩ u2).setCell ⟨B, k * 11 + 3, none⟩ u3).setCell ⟨B, k * 11 + 4, none⟩ u4).heap[r]? = ((((W.setCell ⟨B, k * 11, none⟩ u0).setCell ⟨B, k * 11 + 1, none⟩ u1).setCell ⟨B, k * 11 + 2, none⟩ u2).setCell ⟨B, k * 11 + 3, none⟩ u3).heap[r]? := Below.heap_setCell ((((W.setCell ⟨B, k * 11, none⟩ u0).setCell ⟨B, k * 11 + 1, none⟩ u1).setCell ⟨B, k * 11 + 2, none⟩ u2).setCell ⟨B, k * 11 + 3, none⟩ u3) ⟨B, k * 11 + 4, none⟩ u4 r hr
  have e5 : ((((((W.setCell ⟨B, k * 11, none⟩ u0).setCell ⟨B, k * 11 + 1, none⟩ u1).setCell ⟨B, k * 11 + 2, none⟩ u2).setCell ⟨B, k * 11 + 3, none⟩ u3).setCell ⟨B, k * 11 + 4, none⟩ u4).setCell ⟨B, k * 11 + 5, none⟩ u5).heap[r]? = (((((W.setCell ⟨B, k * 11, none⟩ u0).setCell ⟨B, k * 11 + 1, none⟩ u1).setCell ⟨B, k * 11 + 2, none⟩ u2).setCell ⟨B, k * 11 + 3, none⟩ u3).setCell ⟨B, k * 11 + 4, none⟩ u4).heap[r]? := Below.heap_setCell (((((W.setCell ⟨B, k * 11, none⟩ u0).setCell ⟨B, k * 11 + 1, none⟩ u1).setCell ⟨B, k * 11 + 2, none⟩ u2).setCell ⟨B, k * 11 + 3, none⟩ u3).setCell ⟨B, k * 11 + 4, none⟩ u4) ⟨B, k * 11 + 5, none⟩ u5 r hr
  have e6 : (((((((W.setCell ⟨B, k * 11, none⟩ u0).setCell ⟨B, k * 11 + 1, none⟩ u1).setCell ⟨B, k * 11 + 2, none⟩ u2).setCell ⟨B, k * 11 + 3, none⟩ u3).setCell ⟨B, k * 11 + 4, none⟩ u4).setCell ⟨B, k * 11 + 5, none⟩ u5).setCell ⟨B, k * 11 + 6, none⟩ u6).heap[r]? = ((((((W.setCell ⟨B, k * 11, none⟩ u0).setCell ⟨B, k * 11 + 1, none⟩ u1).setCell ⟨B, k * 11 + 2, none⟩ u2).setCell ⟨B, k * 11 + 3, none⟩ u3).setCell ⟨B, k * 11 + 4, none⟩ u4).setCell ⟨B, k * 11 + 5, none⟩ u5).heap[r]? := Below.heap_setCell ((((((W.setCell ⟨B, k * 11, none⟩ u0).setCell ⟨B, k * 11 + 1, none⟩ u1).setCell ⟨B, k * 11 + 2, none⟩ u2).setCell ⟨B, k * 11 + 3, none⟩ u3).setCell ⟨B, k * 11 + 4, none⟩ u4).setCell ⟨B, k * 11 + 5, none⟩ u5) ⟨B, k * 11 + 6, none⟩ u6 r hr
  have e7 : ((((((((W.setCell ⟨B, k * 11, none⟩ u0).setCell ⟨B, k * 11 + 1, none⟩ u1).setCell ⟨B, k * 11 + 2, none⟩ u2).setCell ⟨B, k * 11 + 3, none⟩ u3).setCell ⟨B, k * 11 + 4, none⟩ u4).setCell ⟨B, k * 11 + 5, none⟩ u5).setCell ⟨B, k * 11 + 6, none⟩ u6).setCell ⟨B, k * 11 + 7, none⟩ u7).heap[r]? = (((((((W.setCell ⟨B, k * 11, none⟩ u0).setCell ⟨B, k * 11 + 1, none⟩ u1).setCell ⟨B, k * 11 + 2, none⟩ u2).setCell ⟨B, k * 11 + 3, none⟩ u3).setCell ⟨B, k * 11 + 4, none⟩ u4).setCell ⟨B, k * 11 + 5, none⟩ u5).setCell ⟨B, k * 11 + 6, none⟩ u6).heap[r]? := Below.heap_setCell (((((((W.setCell ⟨B, k * 11, none⟩ u0).setCell ⟨B, k * 11 + 1, none⟩ u1).setCell ⟨B, k * 11 + 2, none⟩ u2).setCell ⟨B, k * 11 + 3, none⟩ u3).setCell ⟨B, k * 11 + 4, none⟩ u4).setCell ⟨B, k * 11 + 5, none⟩ u5).setCell ⟨B, k * 11 + 6, none⟩ u6) ⟨B, k * 11 + 7, none⟩ u7 r hr
  have e8 : (((((((((W.setCell ⟨B, k * 11, none⟩ u0).setCell ⟨B, k * 11 + 1, none⟩ u1).setCell ⟨B, k * 11 + 2, none⟩ u2).setCell ⟨B, k * 11 + 3, none⟩ u3).setCell ⟨B, k * 11 + 4, none⟩ u4).setCell ⟨B, k * 11 + 5, none⟩ u5).setCell ⟨B, k * 11 + 6, none⟩ u6).setCell ⟨B, k * 11 + 7, none⟩ u7).setCell ⟨B, k * 11 + 8, none⟩ u8).heap[r]? = ((((((((W.setCell ⟨B, k * 11, none⟩ u0).setCell ⟨B, k * 11 + 1, none⟩ u1).setCell ⟨B, k * 11 + 2, none⟩ u2).setCell ⟨B, k * 11 + 3, none⟩ u3).setCell ⟨B, k * 11 + 4, none⟩ u4).setCell ⟨B, k * 11 + 5, none⟩ u5).setCell ⟨B, k * 11 + 6, none⟩ u6).setCell ⟨B, k * 11 + 7, none⟩ u7).heap[r]? := Below.heap_setCell ((((((((W.setCell ⟨B, k * 11, none⟩ u0).setCell ⟨B, k * 11 + 1, none⟩ u1).setCell ⟨B, k * 11 + 2, none⟩ u2).setCell ⟨B, k * 11 + 3, none⟩ u3).setCell ⟨B, k * 11 + 4, none⟩ u4).setCell ⟨B, k * 11 + 5, none⟩ u5).setCell ⟨B, k * 11 + 6, none⟩ u6).setCell ⟨B, k * 11 + 7, none⟩ u7) ⟨B, k * 11 + 8, none⟩ u8 r hr
  have e9 : ((((((((((W.setCell ⟨B, k * 11, none⟩ u0).setCell ⟨B, k * 11 + 1, none⟩ u1).setCell ⟨B, k * 11 + 2, none⟩ u2).setCell ⟨B, k * 11 + 3, none⟩ u3).setCell ⟨B, k * 11 + 4, none⟩ u4).setCell ⟨B, k * 11 + 5, none⟩ u5).setCell ⟨B, k * 11 + 6, none⟩ u6).setCell ⟨B, k * 11 + 7, none⟩ u7).setCell ⟨B, k * 11 + 8, none⟩ u8).setCell ⟨B, k * 11 + 9, none⟩ u9).heap[r]? = (((((((((W.setCell ⟨B, k * 11, none⟩ u0).setCell ⟨B, k * 11 + 1, none⟩ u1).setCell ⟨B, k * 11 + 2, none⟩ u2).setCell ⟨B, k * 11 + 3, none⟩ u3).setCell ⟨B, k * 11 + 4, none⟩ u4).setCell ⟨B, k * 11 + 5, none⟩ u5).setCell ⟨B, k * 11 + 6, none⟩ u6).setCell ⟨B, k * 11 + 7, none⟩ u7).setCell ⟨B, k * 11 + 8, none⟩ u8).heap[r]? := Below.heap_setCell (((((((((W.setCell ⟨B, k * 11, none⟩ u0).setCell ⟨B, k * 11 + 1, none⟩ u1).setCell ⟨B, k * 11 + 2, none⟩ u2).setCell ⟨B, k * 11 + 3, none⟩ u3).setCell ⟨B, k * 11 + 4, none⟩ u4).setCell ⟨B, k * 11 + 5, none⟩ u5).setCell ⟨B, k * 11 + 6, none⟩ u6).setCell ⟨B, k * 11 + 7, none⟩ u7).setCell ⟨B, k * 11 + 8, none⟩ u8) ⟨B, k * 11 + 9, none⟩ u9 r hr
  have e10 : (((((((((((W.setCell ⟨B, k * 11, none⟩ u0).setCell ⟨B, k * 11 + 1, none⟩ u1).setCell ⟨B, k * 11 + 2, none⟩ u2).setCell ⟨B, k * 11 + 3, none⟩ u3).setCell ⟨B, k * 11 + 4, none⟩ u4).setCell ⟨B, k * 11 + 5, none⟩ u5).setCell ⟨B, k * 11 + 6, none⟩ u6).setCell ⟨B, k * 11 + 7, none⟩ u7).setCell ⟨B, k * 11 + 8, none⟩ u8).setCell ⟨B, k * 11 + 9, none⟩ u9).setCell ⟨B, k * 11 + 10, none⟩ u10).heap[r]? = ((((((((((W.setCell ⟨B, k * 11, none⟩ u0).setCell ⟨B, k * 11 + 1, none⟩ u1).setCell ⟨B, k * 11 + 2, none⟩ u2).setCell ⟨B, k * 11 + 3, none⟩ u3).setCell ⟨B, k * 11 + 4, none⟩ u4).setCell ⟨B, k * 11 + 5, none⟩ u5).setCell ⟨B, k * 11 + 6, none⟩ u6).setCell ⟨B, k * 11 + 7, none⟩ u7).setCell ⟨B, k * 11 + 8, none⟩ u8).setCell ⟨B, k * 11 + 9, none⟩ u9).heap[r]? := Below.heap_setCell ((((((((((W.setCell ⟨B, k * 11, none⟩ u0).setCell ⟨B, k * 11 + 1, none⟩ u1).setCell ⟨B, k * 11 + 2, none⟩ u2).setCell ⟨B, k * 11 + 3, none⟩ u3).setCell ⟨B, k * 11 + 4, none⟩ u4).setCell ⟨B, k * 11 + 5, none⟩ u5).setCell ⟨B, k * 11 + 6, none⟩ u6).setCell ⟨B, k * 11 + 7, none⟩ u7).setCell ⟨B, k * 11 + 8, none⟩ u8).setCell ⟨B, k * 11 + 9, none⟩ u9) ⟨B, k * 11 + 10, none⟩ u10 r hr
  exact ((((((((((e10).trans e9).trans e8).trans e7).trans e6).trans e5).trans e4).trans e3).trans e2).trans e1).trans e0
theorem put11k_below {L B k : Nat} {w W : World} (h : Below L w W) (hB : L ≤ B) (u0 u1 u2 u3 u4 u5 u6 u7 u8 u9 u10 : Value) : Below L w (((((((((((W.setCell ⟨B, k * 11, none⟩ u0).setCell ⟨B, k * 11 + 1, none⟩ u1).setCell ⟨B, k * 11 + 2, none⟩ u2).setCell ⟨B, k * 11 + 3, none⟩ u3).setCell ⟨B, k * 11 + 4, none⟩ u4).setCell ⟨B, k * 11 + 5, none⟩ u5).setCell ⟨B, k * 11 + 6, none⟩ u6).setCell ⟨B, k * 11 + 7, none⟩ u7).setCell ⟨B, k * 11 + 8, none⟩ u8).setCell ⟨B, k * 11 + 9, none⟩ u9).setCell ⟨B, k * 11 + 10, none⟩ u10) :=
  (((((((((((h.setCell (p := ⟨B, k * 11, none⟩) hB _).setCell (p := ⟨B, k * 11 + 1, none⟩) hB _).setCell (p := ⟨B, k * 11 + 2, none⟩) hB _).setCell (p := ⟨B, k * 11 + 3, none⟩) hB _).setCell (p := ⟨B, k * 11 + 4, none⟩) hB _).setCell (p := ⟨B, k * 11 + 5, none⟩) hB _).setCell (p := ⟨B, k * 11 + 6, none⟩) hB _).setCell (p := ⟨B, k * 11 + 7, none⟩) hB _).setCell (p := ⟨B, k * 11 + 8, none⟩) hB _).setCell (p := ⟨B, k * 11 + 9, none⟩) hB _).setCell (p := ⟨B, k * 11 + 10, none⟩) hB _)
theorem put11k {W : World} {B k : Nat} {cur : Array Value} {ty : TypeId} (h : W.heap[B]? = some (.cells cur ty (0, 0))) (u0 u1 u2 u3 u4 u5 u6 u7 u8 u9 u10 : Value) :
    (((((((((((W.setCell ⟨B, k * 11, none⟩ u0).setCell ⟨B, k * 11 + 1, none⟩ u1).setCell ⟨B, k * 11 + 2, none⟩ u2).setCell ⟨B, k * 11 + 3, none⟩ u3).setCell ⟨B, k * 11 + 4, none⟩ u4).setCell ⟨B, k * 11 + 5, none⟩ u5).setCell ⟨B, k * 11 + 6, none⟩ u6).setCell ⟨B, k * 11 + 7, none⟩ u7).setCell ⟨B, k * 11 + 8, none⟩ u8).setCell ⟨B, k * 11 + 9, none⟩ u9).setCell ⟨B, k * 11 + 10, none⟩ u10).heap[B]? = some (.cells ((((((((((((cur.setIfInBounds (k * 11) u0).setIfInBounds (k * 11 + 1) u1).setIfInBounds (k * 11 + 2) u2).setIfInBounds (k * 11 + 3) u3).setIfInBounds (k * 11 + 4) u4).setIfInBounds (k * 11 + 5) u5).setIfInBounds (k * 11 + 6) u6).setIfInBounds (k * 11 + 7) u7).setIfInBounds (k * 11 + 8) u8).setIfInBounds (k * 11 + 9) u9).setIfInBounds (k * 11 + 10) u10)) ty (0, 0)) := by
  have h0 : (W.setCell ⟨B, k * 11, none⟩ u0).heap[B]? = some (.cells (cur.setIfInBounds (k * 11) u0) ty (0, 0)) := blk_set (j := k * 11) h u0
  have h1 : ((W.setCell ⟨B, k * 11, none⟩ u0).setCell ⟨B, k * 11 + 1, none⟩ u1).heap[B]? = some (.cells ((cur.setIfInBounds (k * 11) u0).setIfInBounds (k * 11 + 1) u1) ty (0, 0)) := blk_set (j := k * 11 + 1) h0 u1
  have h2 : (((W.setCell ⟨B, k * 11, none⟩ u0).setCell ⟨B, k * 11 + 1, none⟩ u1).setCell ⟨B, k * 11 + 2, none⟩ u2).heap[B]? = some (.cells (((cur.setIfInBounds (k * 11) u0).setIfInBounds (k * 11 + 1) u1).setIfInBounds (k * 11 + 2) u2) ty (0, 0)) := blk_set (j := k * 11 + 2) h1 u2
  have h3 : ((((W.setCell ⟨B, k * 11, none⟩ u0).setCell ⟨B, k * 11 + 1, none⟩ u1).setCell ⟨B, k * 11 + 2, none⟩ u2).setCell ⟨B, k * 11 + 3, none⟩ u3).heap[B]? = some (.cells ((((cur.setIfInBounds (k * 11) u0).setIfInBounds (k * 11 + 1) u1).setIfInBounds (k * 11 + 2) u2).setIfInBounds (k * 11 + 3) u3) ty (0, 0)) := blk_set (j := k * 11 + 3) h2 u3
  have h4 : (((((W.setCell ⟨B, k * 11, none⟩ u0).setCell ⟨B, k * 11 + 1, none⟩ u1).setCell ⟨B, k * 11 + 2, none⟩ u2).setCell ⟨B, k * 11 + 3, none⟩ u3).setCell ⟨B, k * 11 + 4, none⟩ u4).heap[B]? = some (.cells (((((cur.setIfInBounds (k * 11) u0).setIfInBounds (k * 11 + 1) u1).setIfInBounds (k * 11 + 2) u2).setIfInBounds (k * 11 + 3) u3).setIfInBounds (k * 11 + 4) u4) ty (0, 0)) := blk_set (j := k * 11 + 4) h3 u4
  have h5 : ((((((W.setCell ⟨B, k * 11, none⟩ u0).setCell ⟨B, k * 11 + 1, none⟩ u1).setCell ⟨B, k * 11 + 2, none⟩ u2).setCell ⟨B, k * 11 + 3, none⟩ u3).setCell ⟨B, k * 11 + 4, none⟩ u4).setCell ⟨B, k * 11 + 5, none⟩ u5).heap[B]? = some (.cells ((((((cur.setIfInBounds (k * 11) u0).setIfInBounds (k * 11 + 1) u1).setIfInBounds (k * 11 + 2) u2).setIfInBounds (k * 11 + 3) u3).setIfInBounds (k * 11 + 4) u4).setIfInBounds (k * 11 + 5) u5) ty (0, 0)) := blk_set (j := k * 11 + 5) h4 u5
  have h6 : (((((((W.setCell ⟨B, k * 11, none⟩ u0).setCell ⟨B, k * 11 + 1, none⟩ u1).setCell ⟨B, k * 11 + 2, none⟩ u2).setCell ⟨B, k * 11 + 3, none⟩ u3).setCell ⟨B, k * 11 + 4, none⟩ u4).setCell ⟨B, k * 11 + 5, none⟩ u5).setCell ⟨B, k * 11 + 6, none⟩ u6).heap[B]? = some (.cells (((((((cur.setIfInBounds (k * 11) u0).setIfInBounds (k * 11 + 1) u1).setIfInBounds (k * 11 + 2) u2).setIfInBounds (k * 11 + 3) u3).setIfInBounds (k * 11 + 4) u4).setIfInBounds (k * 11 + 5) u5).setIfInBounds (k * 11 + 6) u6) ty (0, 0)) := blk_set (j := k * 11 + 6) h5 u6
  have h7 : ((((((((W.setCell ⟨B, k * 11, none⟩ u0).setCell ⟨B, k * 11 + 1, none⟩ u1).setCell ⟨B, k * 11 + 2, none⟩ u2).setCell ⟨B, k * 11 + 3, none⟩ u3).setCell ⟨B, k * 11 + 4, none⟩ u4).setCell ⟨B, k * 11 + 5, none⟩ u5).setCell ⟨B, k * 11 + 6, none⟩ u6).setCell ⟨B, k * 11 + 7, none⟩ u7).heap[B]? = some (.cells ((((((((cur.setIfInBounds (k * 11) u0).setIfInBounds (k * 11 + 1) u1).setIfInBounds (k * 11 + 2) u2).setIfInBounds (k * 11 + 3) u3).setIfInBounds (k * 11 + 4) u4).setIfInBounds (k * 11 + 5) u5).setIfInBounds (k * 11 + 6) u6).setIfInBounds (k * 11 + 7) u7) ty (0, 0)) := blk_set (j := k * 11 + 7) h6 u7
  have h8 : (((((((((W.setCell ⟨B, k * 11, none⟩ u0).setCell ⟨B, k * 11 + 1, none⟩ u1).setCell ⟨B, k * 11 + 2, none⟩ u2).setCell ⟨B, k * 11 + 3, none⟩ u3).setCell ⟨B, k * 11 + 4, none⟩ u4).setCell ⟨B, k * 11 + 5, none⟩ u5).setCell ⟨B, k * 11 + 6, none⟩ u6).setCell ⟨B, k * 11 + 7, none⟩ u7).setCell ⟨B, k * 11 + 8, none⟩ u8).heap[B]? = some (.cells (((((((((cur.setIfInBounds (k * 11) u0).setIfInBounds (k * 11 + 1) u1).setIfInBounds (k * 11 + 2) u2).setIfInBounds (k * 11 + 3) u3).setIfInBounds (k * 11 + 4) u4).setIfInBounds (k * 11 + 5) u5).setIfInBounds (k * 11 + 6) u6).setIfInBounds (k * 11 + 7) u7).setIfInBounds (k * 11 + 8) u8) ty (0, 0)) := blk_set (j := k * 11 + 8) h7 u8
  have h9 : ((((((((((W.setCell ⟨B, k * 11, none⟩ u0).setCell ⟨B, k * 11 + 1, none⟩ u1).setCell ⟨B, k * 11 + 2, none⟩ u2).setCell ⟨B, k * 11 + 3, none⟩ u3).setCell ⟨B, k * 11 + 4, none⟩ u4).setCell ⟨B, k * 11 + 5, none⟩ u5).setCell ⟨B, k * 11 + 6, none⟩ u6).setCell ⟨B, k * 11 + 7, none⟩ u7).setCell ⟨B, k * 11 + 8, none⟩ u8).setCell ⟨B, k * 11 + 9, none⟩ u9).heap[B]? = some (.cells ((((((((((cur.setIfInBounds (k * 11) u0).setIfInBounds (k * 11 + 1) u1).setIfInBounds (k * 11 + 2) u2).setIfInBounds (k * 11 + 3) u3).setIfInBounds (k * 11 + 4) u4).setIfInBounds (k * 11 + 5) u5).setIfInBounds (k * 11 + 6) u6).setIfInBounds (k * 11 + 7) u7).setIfInBounds (k * 11 + 8) u8).setIfInBounds (k * 11 + 9) u9) ty (0, 0)) := blk_set (j := k * 11 + 9) h8 u9
  have h10 : (((((((((((W.setCell ⟨B, k * 11, none⟩ u0).setCell ⟨B, k * 11 + 1, none⟩ u1).setCell ⟨B, k * 11 + 2, none⟩ u2).setCell ⟨B, k * 11 + 3, none⟩ u3).setCell ⟨B, k * 11 + 4, none⟩ u4).setCell ⟨B, k * 11 + 5, none⟩ u5).setCell ⟨B, k * 11 + 6, none⟩ u6).setCell ⟨B, k * 11 + 7, none⟩ u7).setCell ⟨B, k * 11 + 8, none⟩ u8).setCell ⟨B, k * 11 + 9, none⟩ u9).setCell ⟨B, k * 11 + 10, none⟩ u10).heap[B]? = some (.cells (((((((((((cur.setIfInBounds (k * 11) u0).setIfInBounds (k * 11 + 1) u1).setIfInBounds (k * 11 + 2) u2).setIfInBounds (k * 11 + 3) u3).setIfInBounds (k * 11 + 4) u4).setIfInBounds (k * 11 + 5) u5).setIfInBounds (k * 11 + 6) u6).setIfInBounds (k * 11 + 7) u7).setIfInBounds (k * 11 + 8) u8).setIfInBounds (k * 11 + 9) u9).setIfInBounds (k * 11 + 10) u10) ty (0, 0)) := blk_set (j := k * 11 + 10) h9 u10
  exact h10
theorem put11k_size {W : World} {B k : Nat} (u0 u1 u2 u3 u4 u5 u6 u7 u8 u9 u10 : Value) : (((((((((((W.setCell ⟨B, k * 11, none⟩ u0).setCell ⟨B, k * 11 + 1, none⟩ u1).setCell ⟨B, k * 11 + 2, none⟩ u2).setCell ⟨B, k * 11 + 3, none⟩ u3).setCell ⟨B, k * 11 + 4, none⟩ u4).setCell ⟨B, k * 11 + 5, none⟩ u5).setCell ⟨B, k * 11 + 6, none⟩ u6).setCell ⟨B, k * 11 + 7, none⟩ u7).setCell ⟨B, k * 11 + 8, none⟩ u8).setCell ⟨B, k * 11 + 9, none⟩ u9).setCell ⟨B, k * 11 + 10, none⟩ u10).heap.size = W.heap.size := by simp [World.setCell]

theorem enc_at (e : En) : enc e 0 = e.job.id ∧ enc e 1 = e.job.cores ∧ enc e 2 = e.job.long ∧ enc e 3 = e.job.due ∧ enc e 4 = e.job.wt ∧ enc e 5 = e.job.rank ∧ enc e 6 = e.job.at_ ∧ enc e 7 = e.ph ∧ enc e 8 = e.st ∧ enc e 9 = e.ep := ⟨rfl, rfl, rfl, rfl, rfl, rfl, rfl, rfl, rfl, rfl⟩
set_option maxHeartbeats 2000000 in
theorem EntO.step {w2 w3 : World} {base hi hi' B cap k : Nat} {ls : List En} {H : Nat → Option Nat × Nat} (h : EntO w2 base hi B cap k ls H) (hk : k < cap) {g c : Nat} (hg : hi ≤ g) (hg' : g < hi')
    (hP : PartB w2 g c (eng ls k).ps.length (eng ls k).ps) (hc : (eng ls k).ps.length ≤ c) (hm : c ≤ maxLen)
    (hB : ∀ (cur : Array Value) (ty : TypeId), w2.heap[B]? = some (.cells cur ty (0, 0)) → w3.heap[B]? = some (.cells (((((((((((cur.setIfInBounds (k * 11) (.int .i64 (eng ls k).job.id)).setIfInBounds (k * 11 + 1) (.int .i64 (eng ls k).job.cores)).setIfInBounds (k * 11 + 2) (.int .i64 (eng ls k).job.long)).setIfInBounds (k * 11 + 3) (.int .i64 (eng ls k).job.due)).setIfInBounds (k * 11 + 4) (.int .i64 (eng ls k).job.wt)).setIfInBounds (k * 11 + 5) (.int .i64 (eng ls k).job.rank)).setIfInBounds (k * 11 + 6) (.int .i64 (eng ls k).job.at_)).setIfInBounds (k * 11 + 7) (.int .i64 (eng ls k).ph)).setIfInBounds (k * 11 + 8) (.int .i64 (eng ls k).st)).setIfInBounds (k * 11 + 9) (.int .i64 (eng ls k).ep)).setIfInBounds (k * 11 + 10) (.slice (some ⟨g, 0, none⟩) (eng ls k).ps.length c)) ty (0, 0))) (hr : ∀ r, r ≠ B → w3.heap[r]? = w2.heap[r]?) :
    EntO w3 base hi' B cap (k + 1) ls (fun i => if i = k then (some g, c) else H i) := by
  obtain ⟨cur, h1, h2, h3⟩ := h.blk
  have hlo := h.lo
  have hup := h.up
  refine ⟨hlo, by omega, ⟨_, hB _ _ h1, by simpa using h2, fun i hi9 => ?_⟩, fun i hi9 => ?_, fun i j hi9 hj9 hij q hq => ?_⟩
  · by_cases e : i = k
    · have e' := e.symm
      subst e'
      have ea := enc_at (eng ls k)
      obtain ⟨a0, a1, a2, a3, a4, a5, a6, a7, a8, a9⟩ := ea
      constructor
      · intro d hd
        obtain rfl | rfl | rfl | rfl | rfl | rfl | rfl | rfl | rfl | rfl : d = 0 ∨ d = 1 ∨ d = 2 ∨ d = 3 ∨ d = 4 ∨ d = 5 ∨ d = 6 ∨ d = 7 ∨ d = 8 ∨ d = 9 := by omega
        all_goals (simp only [Array.getElem?_setIfInBounds, Array.size_setIfInBounds, h2, a0, a1, a2, a3, a4, a5, a6, a7, a8, a9]; simp; omega)
      · rw [if_pos rfl]
        simp only [Array.getElem?_setIfInBounds, Array.size_setIfInBounds, h2]
        simp [hdr]; omega
    · have hik : i < k := by omega
      obtain ⟨q1, q2⟩ := h3 i hik
      have hoff : ∀ d x : Nat, d < 11 → x < 11 → ¬ (k * 11 + x = i * 11 + d) := fun d x _ _ => by omega
      have hof0 : ∀ d : Nat, d < 11 → ¬ (k * 11 = i * 11 + d) := fun d _ => by omega
      constructor
      · intro d hd
        simp only [Array.getElem?_setIfInBounds]
        rw [if_neg (hoff d 10 (by omega) (by omega)), if_neg (hoff d 9 (by omega) (by omega)), if_neg (hoff d 8 (by omega) (by omega)), if_neg (hoff d 7 (by omega) (by omega)), if_neg (hoff d 6 (by omega) (by omega)), if_neg (hoff d 5 (by omega) (by omega)), if_neg (hoff d 4 (by omega) (by omega)), if_neg (hoff d 3 (by omega) (by omega)), if_neg (hoff d 2 (by omega) (by omega)), if_neg (hoff d 1 (by omega) (by omega)), if_neg (hof0 d (by omega))]
        exact q1 d hd
      · simp only [Array.getElem?_setIfInBounds]
        rw [if_neg (hoff 10 10 (by omega) (by omega)), if_neg (hoff 10 9 (by omega) (by omega)), if_neg (hoff 10 8 (by omega) (by omega)), if_neg (hoff 10 7 (by omega) (by omega)), if_neg (hoff 10 6 (by omega) (by omega)), if_neg (hoff 10 5 (by omega) (by omega)), if_neg (hoff 10 4 (by omega) (by omega)), if_neg (hoff 10 3 (by omega) (by omega)), if_neg (hoff 10 2 (by omega) (by omega)), if_neg (hoff 10 1 (by omega) (by omega)), if_neg (hof0 10 (by omega))]
        rw [if_neg e]; exact q2
  · show PtOwn _ _ _ _ (if i = k then (some g, c) else H i) _
    by_cases e : i = k
    · have e' := e.symm
      subst e'
      rw [if_pos rfl]
      exact Or.inr ⟨g, rfl, by omega, hg', by omega, hP.blk (hr g (by omega)), hc, hm⟩
    · rw [if_neg e]
      refine (h.kid i (by omega)).imp id ?_
      rintro ⟨q, q1, q2, q3, q4, q5, q6⟩
      exact ⟨q, q1, q2, by omega, q4, q5.blk (hr q q4), q6⟩
  · have hq' : (if i = k then (some g, c) else H i).1 = some q := hq
    show (if j = k then (some g, c) else H j).1 ≠ some q
    have low : ∀ x, x < k → ∀ y, (H x).1 = some y → y < hi := fun x hx y hy => by
      rcases h.kid x hx with ⟨q1, _⟩ | ⟨y', q1, q2, q3, _⟩
      · rw [q1] at hy; cases hy
      · rw [q1] at hy; cases hy; exact q3
    by_cases e : i = k
    · rw [if_pos e] at hq'
      have hq2 : g = q := Option.some.inj hq'
      rw [if_neg (by omega)]
      intro h9
      have := low j (by omega) q h9
      omega
    · rw [if_neg e] at hq'
      by_cases e2 : j = k
      · rw [if_pos e2]
        intro h9
        have h10 : g = q := Option.some.inj h9
        have := low i (by omega) q hq'
        omega
      · rw [if_neg e2]
        exact h.apart i j (by omega) (by omega) hij q hq'

theorem infoEnt : (Tryz.prog.info? 64).map (fun i => (i.zero, i.size, i.bytes)) = some (some (.agg #[.int .i64 0, .int .i64 0, .int .i64 0, .int .i64 0, .int .i64 0, .int .i64 0, .int .i64 0, .int .i64 0, .int .i64 0, .int .i64 0, .slice none 0 0]), 11, 104) := by kernel_rfl
theorem run_makeEnts (n : Nat) (hn : n ≤ 1048576) (wx : World) : (Instr.makeSlice 30 (.int .i64 (n : Int)) (.int .i64 (n : Int))).run Tryz.prog wx = .ok (.slice (some ⟨wx.heap.size, 0, none⟩) n n) (wx.alloc (.cells (madeCells (Value.agg #[.int .i64 0, .int .i64 0, .int .i64 0, .int .i64 0, .int .i64 0, .int .i64 0, .int .i64 0, .int .i64 0, .int .i64 0, .int .i64 0, .slice none 0 0]).cells (n * 11)) 64)) := by
  obtain ⟨i0, hi, hz0, hz1, hz2⟩ := info_parts infoEnt
  have := run_make (P := Tryz.prog) wx 30 64 i0 _ Tryz.underlying30 hi hz0 .i64 .i64 n n (by omega) (Int.le_refl _) (by rw [hz2]; omega) (by omega)
  rw [hz1] at this
  simpa only [Int.toNat_natCast] using this

set_option maxRecDepth 8000 in
set_option maxHeartbeats 4000000 in
theorem toEntryS_any (a : Option Addr) (n cap : Nat) (ls : List En) (w : World) (h : EntS w a n cap ls) (hn : n ≤ 1048576) (hp : ∀ i, i < n → (eng ls i).ps.length ≤ 1048576) :
    Calls Tryz.prog 18 #[.slice a n cap] w fun e w' => ∃ B H, e = .returned (.slice (some ⟨B, 0, none⟩) n n) ∧ EntO w' w.heap.size w'.heap.size B n n ls H ∧ Below w.heap.size w w' := by
  have hlen := h.len
  have hmk := run_makeEnts n hn w
  have hlen2 := h.len
  obtain ⟨W1, hW1⟩ : ∃ W1, W1 = w.alloc (.cells (madeCells (Value.agg #[.int .i64 0, .int .i64 0, .int .i64 0, .int .i64 0, .int .i64 0, .int .i64 0, .int .i64 0, .int .i64 0, .int .i64 0, .int .i64 0, .slice none 0 0]).cells (n * 11)) 64) := ⟨_, rfl⟩
  have B1 : Below w.heap.size w W1 := by rw [hW1]; exact box_below0
  have E1 : EntO W1 w.heap.size W1.heap.size w.heap.size n 0 ls (fun _ => (none, 0)) := ⟨Nat.le_refl _, by rw [hW1]; simp, ⟨_, by rw [hW1]; exact heap_alloc_new _ _, by simp [size_madeCells], fun i hi => by omega⟩, fun i hi => by omega, fun i j hi => by omega⟩
  rw [← hW1] at hmk
  clear hW1
  go_enter Tryz.func18, Tryz.ntmps18
  go_upto_region 2 with fail
  clear hmk
  go_wp2
  generalize hB : w.heap.size = B at E1 ⊢
  have HB : Hid (w.heap.size = B) := hB
  clear hB
  go_loopw [4] (fun i wr => ∃ (k : Nat) (H : Nat → Option Nat × Nat), k ≤ n ∧ i = .int .i64 k ∧ Hid (EntO wr B wr.heap.size B n k ls H) ∧ Below w.heap.size w wr) (fun i _ => n - (intOf i).toNat)
  case atStart => exact ⟨0, _, by omega, rfl, E1, B1⟩
  case round =>
    obtain ⟨k, H, hk, rfl, HE, hw⟩ := hrel
    rename World => wr
    clear E1 B1
    by_cases hlt : k < n
    · obtain ⟨b, off, rfl, hbw, hat⟩ := (h.below hw).at_ (by omega)
      obtain ⟨v, m, E⟩ := hat.row (i := k) (by omega)
      obtain ⟨c0, c1, c2, c3, c4, c5, c6, c7, c8, c9, c10, hps⟩ := E
      have hlt' : (k : Int) < (n : Int) := by omega
      have CE := toEntry_any (eng ls k) v m wr hps (hp k hlt)
      unfold enV at CE
      have hup := HE.out.up
      clear hat hps
      go_wp2_with (go_at_call 38; refine CE.mono ?_; rintro en w2 ⟨g, rfl, hg, hP, hb2⟩; have E2 := HE.out.below hb2 (Nat.le_refl _); obtain ⟨cur, hcur1, hcs, _⟩ := E2.blk; have g0 := cell_of_blk (k * 11) hcur1 (by omega); have f0 := free_of_blk (k * 11) hcur1; have g1 := cell_of_blk (k * 11 + 1) hcur1 (by omega); have f1 := free_of_blk (k * 11 + 1) hcur1; have g2 := cell_of_blk (k * 11 + 2) hcur1 (by omega); have f2 := free_of_blk (k * 11 + 2) hcur1; have g3 := cell_of_blk (k * 11 + 3) hcur1 (by omega); have f3 := free_of_blk (k * 11 + 3) hcur1; have g4 := cell_of_blk (k * 11 + 4) hcur1 (by omega); have f4 := free_of_blk (k * 11 + 4) hcur1; have g5 := cell_of_blk (k * 11 + 5) hcur1 (by omega); have f5 := free_of_blk (k * 11 + 5) hcur1; have g6 := cell_of_blk (k * 11 + 6) hcur1 (by omega); have f6 := free_of_blk (k * 11 + 6) hcur1; have g7 := cell_of_blk (k * 11 + 7) hcur1 (by omega); have f7 := free_of_blk (k * 11 + 7) hcur1; have g8 := cell_of_blk (k * 11 + 8) hcur1 (by omega); have f8 := free_of_blk (k * 11 + 8) hcur1; have g9 := cell_of_blk (k * 11 + 9) hcur1 (by omega); have f9 := free_of_blk (k * 11 + 9) hcur1; have g10 := cell_of_blk (k * 11 + 10) hcur1 (by omega); have f10 := free_of_blk (k * 11 + 10) hcur1)
      have E3 : Hid (EntO _ B _ B n (k + 1) ls _) := E2.step (hi' := w2.heap.size) hlt hg hP.lt hP (Nat.le_refl _) (by have := hp k hlt; unfold maxLen; omega) (fun cur ty hc => put11k hc (.int .i64 (eng ls k).job.id) (.int .i64 (eng ls k).job.cores) (.int .i64 (eng ls k).job.long) (.int .i64 (eng ls k).job.due) (.int .i64 (eng ls k).job.wt) (.int .i64 (eng ls k).job.rank) (.int .i64 (eng ls k).job.at_) (.int .i64 (eng ls k).ph) (.int .i64 (eng ls k).st) (.int .i64 (eng ls k).ep) (.slice (some ⟨g, 0, none⟩) (eng ls k).ps.length (eng ls k).ps.length)) (fun r hr => put11k_keep hr (.int .i64 (eng ls k).job.id) (.int .i64 (eng ls k).job.cores) (.int .i64 (eng ls k).job.long) (.int .i64 (eng ls k).job.due) (.int .i64 (eng ls k).job.wt) (.int .i64 (eng ls k).job.rank) (.int .i64 (eng ls k).job.at_) (.int .i64 (eng ls k).ph) (.int .i64 (eng ls k).st) (.int .i64 (eng ls k).ep) (.slice (some ⟨g, 0, none⟩) (eng ls k).ps.length (eng ls k).ps.length))
      have B3 : Below w.heap.size w _ := put11k_below (k := k) (hw.then hb2 hw.size) (Nat.le_of_eq HB.out) (.int .i64 (eng ls k).job.id) (.int .i64 (eng ls k).job.cores) (.int .i64 (eng ls k).job.long) (.int .i64 (eng ls k).job.due) (.int .i64 (eng ls k).job.wt) (.int .i64 (eng ls k).job.rank) (.int .i64 (eng ls k).job.at_) (.int .i64 (eng ls k).ph) (.int .i64 (eng ls k).st) (.int .i64 (eng ls k).ep) (.slice (some ⟨g, 0, none⟩) (eng ls k).ps.length (eng ls k).ps.length)
      exact ⟨⟨k + 1, _, by omega, by go_num, by rw [put11k_size]; exact E3, B3⟩, by simp [intOf]; omega⟩
    · obtain rfl : k = n := by omega
      have hnn : ¬ (k : Int) < (k : Int) := by omega
      go_wp2
      go_ret
      have hB9 := HB.out
      subst hB9
      first | exact ⟨_, H, rfl, HE.out, hw⟩ | exact ⟨_, rfl, ⟨H, HE.out⟩, hw⟩

end Go.Proofs.YtdgfkcobhhlfbaaGreat
