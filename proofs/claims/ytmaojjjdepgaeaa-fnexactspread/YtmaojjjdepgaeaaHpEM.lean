/- Pop of the program's heap of machines. -/
import Derived.Test.YtmaojjjdepgaeaaHpAM
namespace Go.Proofs.Ytmaojjjdepgaeaa
open Go.RowKit Go.Sort

theorem mcells_take (ys : List (Int × Int)) (n : Nat) : (mcells ys).take (n * 2) = mcells (ys.take n) := by
  induction ys generalizing n with
  | nil => simp [mcells]
  | cons y r ih =>
    cases n with
    | zero => simp [mcells]
    | succ n => rw [mcells_cons, List.take_succ_cons, mcells_cons, show (n + 1) * 2 = (ml y).length + n * 2 by rw [ml_len]; omega, List.take_length_add_append, ih]

theorem pop_done {base P bo bn g cap n : Nat} {ys : List (Int × Int)} {w : World} (o : Obj) (h : HpW w base P bo bn (some ⟨g, 0, none⟩) cap ys) (hn : ys.length = n + 1) :
    HpW ((w.setCell ⟨P, 1, none⟩ (.slice (some ⟨g, 0, none⟩) n cap)).alloc o) base P bo bn (some ⟨g, 0, none⟩) cap (ys.take n) ∧ Turn w ((w.setCell ⟨P, 1, none⟩ (.slice (some ⟨g, 0, none⟩) n cap)).alloc o) P (some ⟨g, 0, none⟩) (some ⟨g, 0, none⟩) := by
  obtain ⟨hg0, hg1⟩ := h.ltg
  have hP1 := h.ltP
  have hne := h.ne g rfl
  have hPb := h.ge
  have hl : (ys.take n).length = n := by rw [List.length_take]; omega
  have hsz : (w.setCell ⟨P, 1, none⟩ (.slice (some ⟨g, 0, none⟩) n cap)).heap.size = w.heap.size := by simp [World.setCell]
  have ha : ∀ k, k < w.heap.size → ((w.setCell ⟨P, 1, none⟩ (.slice (some ⟨g, 0, none⟩) n cap)).alloc o).heap[k]? = (w.setCell ⟨P, 1, none⟩ (.slice (some ⟨g, 0, none⟩) n cap)).heap[k]? := fun k hk => Below.heap_alloc _ _ _ (by omega)
  have hb : ∀ k, k < w.heap.size → k ≠ P → ((w.setCell ⟨P, 1, none⟩ (.slice (some ⟨g, 0, none⟩) n cap)).alloc o).heap[k]? = w.heap[k]? := fun k hk hkP => (ha k hk).trans (Below.heap_setCell _ _ _ _ hkP)
  refine ⟨⟨?_, ?_, h.ne, h.ge, h.lo, (World.cell?_of_block (a := ⟨bo, 0, none⟩) (hb bo (by have := h.lo; omega) (by have := h.lo; omega))).trans h.o0, (World.cell?_of_block (a := ⟨bn, 0, none⟩) (hb bn (by have := h.lo; omega) (by have := h.lo; omega))).trans h.n0⟩, ⟨rfl, rfl, rfl, by simp, fun k hk h1 _ => hb k hk h1, Or.inl rfl⟩⟩
  · rw [ha P hP1, blk_set (j := 1) h.box, hl]; simp
  · rw [hl, ← mcells_take]
    have hm := mcells_len ys
    refine ⟨by rw [List.length_take]; omega, ?_⟩
    rcases h.own.2 with ⟨e, _⟩ | ⟨g', c', cur, e, h1, h2, h3, h4, h5, h6⟩
    · cases e
    · injection e with e1 _ e3
      injection e1 with e1
      injection e1 with e1 _ _
      subst e1 e3
      refine .inr ⟨g, cap, cur, rfl, h1, (hb g hg1 (Ne.symm hne)).trans h2, by omega, h4, h5, ?_⟩
      rw [← h6, List.take_take, show min (n * 2) (ys.length * 2) = n * 2 by omega]

set_option maxRecDepth 8000 in
set_option maxHeartbeats 4000000 in
theorem popM_any (base P bo bn g cap n : Nat) (ys : List (Int × Int)) (w : World) (h : HpW w base P bo bn (some ⟨g, 0, none⟩) cap ys) (hn : ys.length = n + 1) (hc : cap ≤ maxLen) (hnc : n + 1 ≤ cap) :
    Calls Try.prog 154 #[.pointer (some ⟨P, 0, none⟩)] w fun e w' => e = .returned (.iface 105 (.agg #[.int .i64 (mg ys n).1, .int .i64 (mg ys n).2])) ∧ HpW w' base P bo bn (some ⟨g, 0, none⟩) cap (ys.take n) ∧ Turn w w' P (some ⟨g, 0, none⟩) (some ⟨g, 0, none⟩) := by
  obtain ⟨hg0, hg1⟩ := h.ltg
  have hP1 := h.ltP
  have hne := h.ne g rfl
  have hPb := h.ge
  have X := h.cell (i := n) (by omega)
  have KP := h.p1
  have FP : w.frozen? ⟨P, 1, none⟩ = false := free_of_blk 1 h.box
  rw [hn] at KP
  have HH : Hid (HpW w base P bo bn (some ⟨g, 0, none⟩) cap ys) := h
  clear h
  unfold maxLen at hc
  obtain ⟨x, hx⟩ : ∃ x, mg ys n = x := ⟨_, rfl⟩
  rw [hx] at X ⊢
  obtain ⟨x0, x1⟩ := X
  have HN : Hid (ys.length = n + 1) := hn
  clear hn hx
  go_enter Try.func154, Try.ntmps154
  go_wp2
  go_ret
  exact ⟨rfl, by first | exact pop_done _ HH.out HN.out | exact pop_swap HH.out HN.out⟩

end Go.Proofs.Ytmaojjjdepgaeaa
