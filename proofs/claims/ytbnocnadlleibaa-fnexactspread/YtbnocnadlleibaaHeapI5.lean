/- Pop of the program's heap; what the library's up and down do. -/
import Derived.Test.YtbnocnadlleibaaHeapI4
namespace Go.Proofs.Ytbnocnadlleibaa
open Go.RowKit Go.Sort

theorem mcells_take (ys : List (Int × Int)) (n : Nat) : (mcells ys).take (n * 2) = mcells (ys.take n) := by
  induction ys generalizing n with
  | nil => simp [mcells]
  | cons y r ih =>
    cases n with
    | zero => simp [mcells]
    | succ n =>
      have e : ∀ r, mcells (y :: r) = .int .i64 y.1 :: .int .i64 y.2 :: mcells r := fun r => by simp [mcells, ml]
      rw [e, List.take_succ_cons, e, ← ih, show (n + 1) * 2 = n * 2 + 1 + 1 by omega, List.take_succ_cons, List.take_succ_cons]

theorem pop_done {base P g cap n : Nat} {ys : List (Int × Int)} {w : World} (o : Obj) (h : HeapW w base P g cap ys) (hn : ys.length = n + 1) :
    HeapW ((w.setCell ⟨P, 0, none⟩ (.slice (some ⟨g, 0, none⟩) n cap)).alloc o) base P g cap (ys.take n) ∧ Turn w ((w.setCell ⟨P, 0, none⟩ (.slice (some ⟨g, 0, none⟩) n cap)).alloc o) P g g := by
  obtain ⟨hg0, hg1, hP1⟩ := h.lt
  have hl : (ys.take n).length = n := by rw [List.length_take]; omega
  have hsz : (w.setCell ⟨P, 0, none⟩ (.slice (some ⟨g, 0, none⟩) n cap)).heap.size = w.heap.size := by simp [World.setCell]
  have ha : ∀ k, k < w.heap.size → ((w.setCell ⟨P, 0, none⟩ (.slice (some ⟨g, 0, none⟩) n cap)).alloc o).heap[k]? = (w.setCell ⟨P, 0, none⟩ (.slice (some ⟨g, 0, none⟩) n cap)).heap[k]? := fun k hk => Below.heap_alloc _ _ _ (by omega)
  have hb : ∀ k, k < w.heap.size → k ≠ P → ((w.setCell ⟨P, 0, none⟩ (.slice (some ⟨g, 0, none⟩) n cap)).alloc o).heap[k]? = w.heap[k]? := fun k hk hkP => (ha k hk).trans (Below.heap_setCell _ _ _ _ hkP)
  refine ⟨⟨?_, ?_, h.ne, h.ge⟩, ⟨rfl, rfl, rfl, by simp, fun k hk h1 _ => hb k hk h1, Or.inl rfl⟩⟩
  · rw [ha P hP1, blk_set (j := 0) h.box, hl]; simp
  · rw [hl, ← mcells_take]
    have hm := mcells_len ys
    refine ⟨by rw [List.length_take]; omega, ?_⟩
    rcases h.own.2 with ⟨e, _⟩ | ⟨g', c', cur, e, h1, h2, h3, h4, h5, h6⟩
    · cases e
    · injection e with e1 _ e3
      injection e1 with e1
      injection e1 with e1 _ _
      subst e1 e3
      refine .inr ⟨g, cap, cur, rfl, h1, (hb g hg1 (Ne.symm h.ne)).trans h2, by omega, h4, h5, ?_⟩
      rw [← h6, List.take_take, show min (n * 2) (ys.length * 2) = n * 2 by omega]

set_option maxRecDepth 8000 in
set_option maxHeartbeats 4000000 in
theorem popM_any (base P g cap n : Nat) (ys : List (Int × Int)) (w : World) (h : HeapW w base P g cap ys) (hn : ys.length = n + 1) (hc : cap ≤ maxLen) (hnc : n + 1 ≤ cap) :
    Calls Try.prog 120 #[.pointer (some ⟨P, 0, none⟩)] w fun e w' => e = .returned (.iface 78 (.agg #[.int .i64 (mg ys n).1, .int .i64 (mg ys n).2])) ∧ HeapW w' base P g cap (ys.take n) ∧ Turn w w' P g g := by
  obtain ⟨hg0, hg1, hP1⟩ := h.lt
  have hne := h.ne
  have hPb := h.ge
  obtain ⟨x0, x1⟩ := h.cell (i := n) (by omega)
  have KP := cell_of_one h.box
  have FP := free_of_one h.box
  rw [hn] at KP
  have HH : Hid (HeapW w base P g cap ys) := h
  clear h
  unfold maxLen at hc
  obtain ⟨x, hx⟩ : ∃ x, mg ys n = x := ⟨_, rfl⟩
  rw [hx] at x0 x1 ⊢
  go_enter Try.func120, Try.ntmps120
  go_wp2
  go_ret
  exact ⟨rfl, pop_done _ HH.out hn⟩

end Go.Proofs.Ytbnocnadlleibaa
