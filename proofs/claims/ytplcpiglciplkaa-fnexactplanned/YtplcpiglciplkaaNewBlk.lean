/- A block that was laid is there behind what only lays more. -/
import Derived.Test.YtplcpiglciplkaaLevC
namespace Go.Proofs.Ytplcpiglciplkaa
open Go.RowKit

theorem newblk {W w' : World} {o : Obj} (h : Below (W.alloc o).heap.size (W.alloc o) w') : w'.heap[W.heap.size]? = some o :=
  (h.block W.heap.size (by simp)).trans (heap_alloc_new _ _)
theorem newblkd {W w' : World} {o : Obj} (h : Below (W.alloc o).drew.heap.size (W.alloc o).drew w') : w'.heap[W.heap.size]? = some o :=
  (h.block W.heap.size (by show W.heap.size < (W.alloc o).heap.size; simp)).trans (heap_alloc_new _ _)
theorem Bxs.add {W : World} {b : Nat} {v0 v1 : Value} {T : TypeId} {L : List (Nat × Value × Value × TypeId)} (h : Bxs W L) (hb : W.heap[b]? = some (.cells #[v0, v1] T (0, 0))) : Bxs W ((b, v0, v1, T) :: L) := by
  intro x hx
  rcases List.mem_cons.1 hx with rfl | hx
  · exact hb
  · exact h x hx

/-- two cells of a block stored -/
theorem set2 {W : World} {b : Nat} {u0 u1 : Value} {T : TypeId} (h : W.heap[b]? = some (.cells #[u0, u1] T (0, 0))) (v0 v1 : Value) :
    ((W.setCell ⟨b, 0, none⟩ v0).setCell ⟨b, 1, none⟩ v1).heap[b]? = some (.cells #[v0, v1] T (0, 0)) ∧ ∀ k, k ≠ b → ((W.setCell ⟨b, 0, none⟩ v0).setCell ⟨b, 1, none⟩ v1).heap[k]? = W.heap[k]? := by
  have := blk_set (j := 1) (blk_set (j := 0) h v0) v1
  simp only [List.setIfInBounds_toArray, List.set_cons_zero, List.set_cons_succ] at this
  exact ⟨this, fun k hk => (Below.heap_setCell _ _ _ _ hk).trans (Below.heap_setCell _ _ _ _ hk)⟩

theorem markNilL_any (k0 : Int) (w : World) :
    Calls Try.prog 75 #[.slice none 0 0, .int .i64 k0] w fun e w' => e = .returned (.int .i64 k0) ∧ w' = w := by
  go_enter Try.func75, Try.ntmps75
  go_wp2
  refine wp_loop_rounds 1 ?_
  rw [rounds_succ]
  go_wp2
  go_ret
  exact ⟨rfl, rfl⟩

theorem heldNilL_any (k0 : Int) (w : World) :
    Calls Try.prog 76 #[.slice none 0 0, .int .i64 k0] w fun e w' => e = .returned (.int .i64 k0) ∧ w' = w := by
  go_enter Try.func76, Try.ntmps76
  go_wp2
  refine wp_loop_rounds 1 ?_
  rw [rounds_succ]
  go_wp2
  go_ret
  exact ⟨rfl, rfl⟩

theorem markNilP_any (t k0 : Int) (w : World) (_h0 : 0 ≤ k0) :
    Calls Try.prog 38 #[.agg #[.int .i64 t, .slice none 0 0], .int .i64 k0] w fun e w' => e = .returned (.int .i64 k0) ∧ Below w.heap.size w w' := by
  go_enter Try.func38, Try.ntmps38
  go_wp2_with fail
  refine (markNilL_any k0 _).mono ?_
  rintro e w1 ⟨rfl, rfl⟩
  go_wp2
  go_ret
  exact ⟨rfl, box_below⟩

theorem heldNilP_any (t k0 : Int) (w : World) (h0 : 0 ≤ k0) :
    Calls Try.prog 43 #[.agg #[.int .i64 t, .slice none 0 0], .int .i64 k0] w fun e w' => e = .returned (.int .i64 k0) ∧ Below w.heap.size w w' := by
  go_enter Try.func43, Try.ntmps43
  go_wp2_with fail
  refine (heldNilL_any k0 _).mono ?_
  rintro e w1 ⟨rfl, rfl⟩
  go_wp2
  go_ret
  exact ⟨rfl, box_below⟩

end Go.Proofs.Ytplcpiglciplkaa
