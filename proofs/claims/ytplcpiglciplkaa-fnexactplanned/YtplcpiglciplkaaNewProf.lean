/- NewProfile, of the model and of the program. -/
import Derived.Test.YtplcpiglciplkaaProfOk2
namespace Go.Proofs.Ytplcpiglciplkaa
open Go.RowKit

theorem po_new {t : Int} (h : inB t 0 1000 = true) : PO t [(0, t)] := by
  have := inB_t h
  refine ⟨this.1, this.2, by simp, by simp, rfl, fun i hi => ?_, fun i hi => by simp at hi⟩
  have e : i = 0 := by simpa using hi
  rw [e]
  exact ⟨by show (0 : Int) < 1000000000; decide, by show 0 ≤ t; omega, by show t ≤ t; omega⟩
theorem poB_new (t : Int) : poB t [(0, t)] = inB t 0 1000 := by
  by_cases c : inB t 0 1000 = true
  · rw [c]; exact poB_mk (po_new c)
  · rw [show inB t 0 1000 = false from by simpa using c]
    exact poB_no fun p => c (inB_mk ⟨p.t0, p.t1⟩)

theorem one_row {w : World} {B : Nat} {t : Int} (h : w.heap[B]? = some (.cells #[.int .i64 0, .int .i64 t] 82 (0, 0))) : LevB w B 1 1 [(0, t)] :=
  ⟨_, h, rfl, fun i hi => by obtain rfl : i = 0 := by omega
                             exact ⟨rfl, rfl⟩⟩

theorem specNew_yes (t : Int) (w : World) (h : inB t 0 1000 = true) :
    Calls Try.prog 97 #[.int .i64 t] w fun e w' => ∃ B, e = .returned (.tuple #[.agg #[.int .i64 t, .slice (some ⟨B, 0, none⟩) 1 1], .bool true]) ∧ w.heap.size ≤ B ∧ LevB w' B 1 1 [(0, t)] ∧ Below w.heap.size w w' := by
  go_enter Try.func97, Try.ntmps97
  go_wp2_with (go_at_call 62; refine (l1In_any _ _ _ _).mono ?_; rintro e w' ⟨rfl, hq⟩; have hq' := hq.symm; clear hq; subst hq')
  refine bodyPost_ret (v := .tuple #[.agg #[.int .i64 t, .slice (some ⟨w.heap.size + 1, 0, none⟩) 1 1], .bool true]) (by simp [results, Try.results97, go_sem]) rfl ⟨w.heap.size + 1, rfl, by omega, one_row ?_, ((Below.refl _ _).alloc (by simp) _).alloc (by simp) _⟩
  have := heap_alloc_new (w.alloc (.cells #[.int .i64 t, .slice (some ⟨w.heap.size + 1, 0, none⟩) 1 1] 26)) (.cells #[.int .i64 0, .int .i64 t] 82)
  simpa using this

theorem specNew_no (t : Int) (w : World) (h : inB t 0 1000 = false) :
    Calls Try.prog 97 #[.int .i64 t] w fun e w' => e = .returned (.tuple #[.agg #[.int .i64 0, .slice none 0 0], .bool false]) ∧ Below w.heap.size w w' := by
  go_enter Try.func97, Try.ntmps97
  go_wp2_with (go_at_call 62; refine (l1In_any _ _ _ _).mono ?_; rintro e w' ⟨rfl, hq⟩; have hq' := hq.symm; clear hq; subst hq')
  exact bodyPost_ret (v := .tuple #[.agg #[.int .i64 0, .slice none 0 0], .bool false]) (by simp [results, Try.results97, go_sem]) rfl ⟨rfl, (Below.refl _ _).alloc (by simp) _⟩

theorem one_wf {t : Int} (h : -9223372036854775808 ≤ t ∧ t ≤ 9223372036854775807) : ∀ i, i < 1 → (-9223372036854775808 ≤ fr [((0 : Int), t)] i ∧ fr [((0 : Int), t)] i ≤ 9223372036854775807) ∧ (-9223372036854775808 ≤ fe [((0 : Int), t)] i ∧ fe [((0 : Int), t)] i ≤ 9223372036854775807) := by
  intro i hi
  obtain rfl : i = 0 := by omega
  exact ⟨by show (-9223372036854775808 : Int) ≤ 0 ∧ (0 : Int) ≤ 9223372036854775807; omega, h⟩

/-- the profile as the program lays it ahead of the test -/
theorem laid_new (t : Int) (w : World) :
    LevB (((w.alloc (.cells #[.int .i64 0, .slice none 0 0] 26)).alloc (.cells #[.int .i64 0, .int .i64 t] 82)).alloc (.cells #[.int .i64 t, .slice (some ⟨w.heap.size + 1, 0, none⟩) 1 1] 26)) (w.heap.size + 1) 1 1 [(0, t)] := by
  refine LevB.below (w := (w.alloc (.cells #[.int .i64 0, .slice none 0 0] 26)).alloc (.cells #[.int .i64 0, .int .i64 t] 82)) (one_row ?_) box_below
  have := heap_alloc_new (w.alloc (.cells #[.int .i64 0, .slice none 0 0] 26)) (.cells #[.int .i64 0, .int .i64 t] 82)
  simpa using this

/-! a nil list bears no marks -/
theorem markNilS_any (k0 : Int) (w : World) : Calls Try.prog 75 #[.slice none 0 0, .int .i64 k0] w fun e w' => e = .returned (.int .i64 k0) ∧ w' = w := by
  go_enter Try.func75, Try.ntmps75
  go_wp2
  refine wp_loop_rounds 1 ?_
  rw [rounds_succ]
  go_wp2
  go_ret
  exact ⟨rfl, rfl⟩

theorem heldNilS_any (k0 : Int) (w : World) : Calls Try.prog 76 #[.slice none 0 0, .int .i64 k0] w fun e w' => e = .returned (.int .i64 k0) ∧ w' = w := by
  go_enter Try.func76, Try.ntmps76
  go_wp2
  refine wp_loop_rounds 1 ?_
  rw [rounds_succ]
  go_wp2
  go_ret
  exact ⟨rfl, rfl⟩

theorem markNil_any (t k0 : Int) (w : World) :
    Calls Try.prog 38 #[.agg #[.int .i64 t, .slice none 0 0], .int .i64 k0] w fun e w' => e = .returned (.int .i64 k0) ∧ Below w.heap.size w w' := by
  go_enter Try.func38, Try.ntmps38
  go_wp2_with fail
  refine (markNilS_any k0 _).mono ?_
  rintro e w1 ⟨rfl, rfl⟩
  go_wp2
  go_ret
  exact ⟨rfl, box_below⟩

theorem heldNil_any (t k0 : Int) (w : World) (h0 : 0 ≤ k0) :
    Calls Try.prog 43 #[.agg #[.int .i64 t, .slice none 0 0], .int .i64 k0] w fun e w' => e = .returned (.int .i64 k0) ∧ Below w.heap.size w w' := by
  go_enter Try.func43, Try.ntmps43
  go_wp2_with fail
  refine (heldNilS_any k0 _).mono ?_
  rintro e w1 ⟨rfl, rfl⟩
  go_wp2
  go_ret
  exact ⟨rfl, box_below⟩

end Go.Proofs.Ytplcpiglciplkaa
