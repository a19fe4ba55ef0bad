/- Swap of the program's heap of machines. -/
import Derived.Test.YtmaojjjdepgaeaaHpAM
import Derived.BigRegion
namespace Go.Proofs.Ytmaojjjdepgaeaa
open Go.RowKit Go.Sort

theorem cell_over {w : World} {a b : Addr} {u v v' : Value} (ha : w.cell? a = some v') (hb : w.cell? b = some v) (h : a = b → u = v) : (w.setCell a u).cell? b = some v := by
  by_cases e : a = b
  · subst e; rw [World.cell?_setCell_same _ _ _ ha, h rfl]
  · exact (World.cell?_setCell_other _ _ _ _ e).trans hb
def setL (g : Nat) : World → Nat → List Value → World
  | w, _, [] => w
  | w, o, v :: r => setL g (w.setCell ⟨g, o, none⟩ v) (o + 1) r
theorem setL_cell {g b : Nat} {v : Value} : ∀ (l : List Value) (w : World) (o : Nat), (∀ c, c < l.length → ∃ u, w.cell? ⟨g, o + c, none⟩ = some u) → w.cell? ⟨g, b, none⟩ = some v → (∀ c u, l[c]? = some u → b = o + c → u = v) → (setL g w o l).cell? ⟨g, b, none⟩ = some v
  | [], _, _, _, hb, _ => hb
  | u :: r, w, o, hl, hb, he => by
    obtain ⟨u0, h0⟩ := hl 0 (by simp)
    have h0' : w.cell? ⟨g, o, none⟩ = some u0 := h0
    refine setL_cell r _ (o + 1) (fun c hc => ?_) (cell_over h0' hb (fun e => ?_)) (fun c u' hu e => he (c + 1) u' (by simpa using hu) (by omega))
    · obtain ⟨u1, h1⟩ := hl (c + 1) (by simp; omega)
      refine ⟨u1, (World.cell?_setCell_other _ _ _ _ (fun e => by injection e; omega)).trans ?_⟩
      rw [show o + 1 + c = o + (c + 1) by omega]; exact h1
    · injection e with _ e _
      exact he 0 u rfl (by omega)

set_option maxRecDepth 8000 in
set_option maxHeartbeats 8000000 in
theorem swap_any (P g n cap i j : Nat) (x y : (Int × Int)) (w : World) (hi : i < n) (hj : j < n) (p1 : w.cell? ⟨P, 1, none⟩ = some (.slice (some ⟨g, 0, none⟩) n cap))
    (hx : w.cell? ⟨g, i * 2, none⟩ = some (.int .i64 x.1) ∧ w.cell? ⟨g, i * 2 + 1, none⟩ = some (.int .i64 x.2))
    (hy : w.cell? ⟨g, j * 2, none⟩ = some (.int .i64 y.1) ∧ w.cell? ⟨g, j * 2 + 1, none⟩ = some (.int .i64 y.2))
    (fz : ∀ k, w.frozen? ⟨g, k, none⟩ = false) :
    Calls Try.prog 156 #[.pointer (some ⟨P, 0, none⟩), .int .i64 i, .int .i64 j] w fun e w' => e = .returned (.tuple #[]) ∧ ∃ q,
      w' = (((((w).setCell ⟨g, i * 2, none⟩ (.int .i64 y.1)).setCell ⟨g, i * 2 + 1, none⟩ (.int .i64 y.2)).setCell ⟨g, j * 2, none⟩ (.int .i64 x.1)).setCell ⟨g, j * 2 + 1, none⟩ (.int .i64 x.2)).drewN q := by
  have hi' : (i : Int) < (n : Int) := by omega
  have hj' : (j : Int) < (n : Int) := by omega
  obtain ⟨x0, x1⟩ := hx
  obtain ⟨y0, y1⟩ := hy
  have f0 := fz (i * 2)
  have g0 := fz (j * 2)
  have f1 := fz (i * 2 + 1)
  have g1 := fz (j * 2 + 1)
  clear fz
  have E : ∀ c, c < 2 → ∃ u, w.cell? ⟨g, i * 2 + c, none⟩ = some u := fun c hc => by
    obtain rfl | rfl : c = 0 ∨ c = 1 := by omega
    all_goals first | exact ⟨_, x0⟩ | exact ⟨_, x1⟩
  have Q : ∀ c v, c < 2 → w.cell? ⟨g, j * 2 + c, none⟩ = some v → ([.int .i64 y.1, .int .i64 y.2] : List Value)[c]? = some v → (((w).setCell ⟨g, i * 2, none⟩ (.int .i64 y.1)).setCell ⟨g, i * 2 + 1, none⟩ (.int .i64 y.2)).cell? ⟨g, j * 2 + c, none⟩ = some v := by
    intro c v hc hb hv
    refine setL_cell [.int .i64 y.1, .int .i64 y.2] w (i * 2) (fun c hc => E c hc) hb (fun d u hd e => ?_)
    have hdl : d < 2 := by
      have := (List.getElem?_eq_some_iff.1 hd).1
      simpa using this
    have hdc : d = c := by omega
    subst hdc
    rw [hd] at hv; injection hv
  have s0 := Q 0 _ (by omega) y0 rfl
  have s1 := Q 1 _ (by omega) y1 rfl
  clear E Q
  simp only [Nat.add_zero] at s0
  go_enter Try.func156, Try.ntmps156
  go_wp2_with fail
  go_region
  go_wp2
  go_end0
  exact ⟨rfl, 1, rfl⟩

set_option maxHeartbeats 1000000 in
/-- the heap, its row swapped -/
theorem swapH_any (base P bo bn g cap : Nat) (ys : List (Int × Int)) (i j : Nat) (w : World) (h : HpW w base P bo bn (some ⟨g, 0, none⟩) cap ys) (hi : i < ys.length) (hj : j < ys.length) :
    Calls Try.prog 156 #[.pointer (some ⟨P, 0, none⟩), .int .i64 i, .int .i64 j] w fun e w' => e = .returned (.tuple #[]) ∧ HpW w' base P bo bn (some ⟨g, 0, none⟩) cap (sw ys i j) ∧ Turn w w' P (some ⟨g, 0, none⟩) (some ⟨g, 0, none⟩) := by
  refine (swap_any P g ys.length cap i j (mg ys i) (mg ys j) w hi hj h.p1 (h.cell hi) (h.cell hj) h.free).mono ?_
  rintro e w' ⟨rfl, q, hq⟩
  have o0 := h.own.stored (i * 2) (.int .i64 (mg ys j).1)
  have o1 := o0.1.stored (i * 2 + 1) (.int .i64 (mg ys j).2)
  have o2 := o1.1.stored (j * 2) (.int .i64 (mg ys i).1)
  have o3 := o2.1.stored (j * 2 + 1) (.int .i64 (mg ys i).2)
  have gr := (((o0.2.trans o1.2).trans o2.2).trans o3.2)
  have oF := o3.1
  clear o0 o1 o2 o3
  generalize ((((w).setCell ⟨g, i * 2, none⟩ (.int .i64 (mg ys j).1)).setCell ⟨g, i * 2 + 1, none⟩ (.int .i64 (mg ys j).2)).setCell ⟨g, j * 2, none⟩ (.int .i64 (mg ys i).1)).setCell ⟨g, j * 2 + 1, none⟩ (.int .i64 (mg ys i).2) = W at oF gr hq
  subst hq
  have em : mcells (sw ys i j) = ((((mcells ys).set (i * 2) (.int .i64 (mg ys j).1)).set (i * 2 + 1) (.int .i64 (mg ys j).2)).set (j * 2) (.int .i64 (mg ys i).1)).set (j * 2 + 1) (.int .i64 (mg ys i).2) := by
    unfold sw
    rw [mcells_set _ _ _ (by simpa using hj), mcells_set _ _ _ hi]
  refine ⟨rfl, ⟨?_, ?_, h.ne, h.ge, h.lo, ?_, ?_⟩, Turn.ofRow ⟨gr.os, gr.tape, gr.output, gr.size, gr.block⟩⟩
  · rw [sw_len]; exact (gr.block P h.ltP (by simpa using h.ne g rfl)).trans h.box
  · rw [sw_len, em]; exact oF
  · exact (World.cell?_of_block (a := ⟨bo, 0, none⟩) (gr.block bo (by have := h.lo; have := h.ge; have := h.ltP; omega) (by have := h.lo; have := h.ltg; simp; omega))).trans h.o0
  · exact (World.cell?_of_block (a := ⟨bn, 0, none⟩) (gr.block bn (by have := h.lo; have := h.ge; have := h.ltP; omega) (by have := h.lo; have := h.ltg; simp; omega))).trans h.n0

end Go.Proofs.Ytmaojjjdepgaeaa
