/- NewProfile, of the model and of the program. -/
import Derived.Test.YtecfacpcmcpeoaaProfOk2
namespace Go.Proofs.Ytecfacpcmcpeoaa
open Go.RowKit

theorem po_new {t : Int} (h : inB t 0 1000 = true) : PO t [(0, t)] := by
  have := inB_t h
  refine ⟨this.1, this.2, by simp, by simp, rfl, fun i hi => ?_, fun i hi => by simp at hi⟩
  have e : i = 0 := by simpa using hi
  rw [e]
  exact ⟨by show (0 : Int) < 1000000000; decide, by show 0 ≤ t; omega, by show t ≤ t; omega⟩
theorem poB_new (t : Int) : poB t [(0, t)] = inB t 0 1000 := by
  by_cases c : inB t 0 1000 = true
  · rw [c]; exact poB_mk (po_new c)
  · rw [show inB t 0 1000 = false from by simpa using c]
    exact poB_no fun p => c (inB_mk ⟨p.t0, p.t1⟩)

theorem one_row {w : World} {B : Nat} {t : Int} (h : w.heap[B]? = some (.cells #[.int .i64 0, .int .i64 t] 69 (0, 0))) : LevB w B 1 1 [(0, t)] :=
  ⟨_, h, rfl, fun i hi => by obtain rfl : i = 0 := by omega
                             exact ⟨rfl, rfl⟩⟩

theorem specNew_yes (t : Int) (w : World) (h : inB t 0 1000 = true) :
    Calls Try.prog 39 #[.int .i64 t] w fun e w' => ∃ B, e = .returned (.tuple #[.agg #[.int .i64 t, .slice (some ⟨B, 0, none⟩) 1 1], .bool true]) ∧ w.heap.size ≤ B ∧ LevB w' B 1 1 [(0, t)] ∧ Below w.heap.size w w' := by
  go_enter Try.func39, Try.ntmps39
  go_wp2_with (go_at_call 55; refine (l1In_any _ _ _ _).mono ?_; rintro e w' ⟨rfl, hq⟩; have hq' := hq.symm; clear hq; subst hq')
  refine bodyPost_ret (v := .tuple #[.agg #[.int .i64 t, .slice (some ⟨w.heap.size + 1, 0, none⟩) 1 1], .bool true]) (by simp [results, Try.results39, go_sem]) rfl ⟨w.heap.size + 1, rfl, by omega, one_row ?_, ((Below.refl _ _).alloc (by simp) _).alloc (by simp) _⟩
  have := heap_alloc_new (w.alloc (.cells #[.int .i64 t, .slice (some ⟨w.heap.size + 1, 0, none⟩) 1 1] 26)) (.cells #[.int .i64 0, .int .i64 t] 69)
  simpa using this

theorem specNew_no (t : Int) (w : World) (h : inB t 0 1000 = false) :
    Calls Try.prog 39 #[.int .i64 t] w fun e w' => e = .returned (.tuple #[.agg #[.int .i64 0, .slice none 0 0], .bool false]) ∧ Below w.heap.size w w' := by
  go_enter Try.func39, Try.ntmps39
  go_wp2_with (go_at_call 55; refine (l1In_any _ _ _ _).mono ?_; rintro e w' ⟨rfl, hq⟩; have hq' := hq.symm; clear hq; subst hq')
  exact bodyPost_ret (v := .tuple #[.agg #[.int .i64 0, .slice none 0 0], .bool false]) (by simp [results, Try.results39, go_sem]) rfl ⟨rfl, (Below.refl _ _).alloc (by simp) _⟩

theorem one_wf {t : Int} (h : -9223372036854775808 ≤ t ∧ t ≤ 9223372036854775807) : ∀ i, i < 1 → (-9223372036854775808 ≤ fr [((0 : Int), t)] i ∧ fr [((0 : Int), t)] i ≤ 9223372036854775807) ∧ (-9223372036854775808 ≤ fe [((0 : Int), t)] i ∧ fe [((0 : Int), t)] i ≤ 9223372036854775807) := by
  intro i hi
  obtain rfl : i = 0 := by omega
  exact ⟨by show (-9223372036854775808 : Int) ≤ 0 ∧ (0 : Int) ≤ 9223372036854775807; omega, h⟩

/-- the profile as the program lays it ahead of the test -/
theorem laid_new (t : Int) (w : World) :
    LevB (((w.alloc (.cells #[.int .i64 0, .slice none 0 0] 26)).alloc (.cells #[.int .i64 0, .int .i64 t] 69)).alloc (.cells #[.int .i64 t, .slice (some ⟨w.heap.size + 1, 0, none⟩) 1 1] 26)) (w.heap.size + 1) 1 1 [(0, t)] := by
  refine LevB.below (w := (w.alloc (.cells #[.int .i64 0, .slice none 0 0] 26)).alloc (.cells #[.int .i64 0, .int .i64 t] 69)) (one_row ?_) box_below
  have := heap_alloc_new (w.alloc (.cells #[.int .i64 0, .slice none 0 0] 26)) (.cells #[.int .i64 0, .int .i64 t] 69)
  simpa using this

theorem implNew_yes (t : Int) (w : World) (h : inB t 0 1000 = true) :
    Calls Try.prog 40 #[.int .i64 t] w fun e w' => ∃ B, e = .returned (.tuple #[.agg #[.int .i64 t, .slice (some ⟨B, 0, none⟩) 1 1], .bool true]) ∧ w.heap.size ≤ B ∧ LevB w' B 1 1 [(0, t)] ∧ Below w.heap.size w w' := by
  have wt := inB_t h
  have ht : -9223372036854775808 ≤ t ∧ t ≤ 9223372036854775807 := by omega
  have w0 : Below w.heap.size w (((w.alloc (.cells #[.int .i64 0, .slice none 0 0] 26)).alloc (.cells #[.int .i64 0, .int .i64 t] 69)).alloc (.cells #[.int .i64 t, .slice (some ⟨w.heap.size + 1, 0, none⟩) 1 1] 26)) := (((Below.refl _ _).alloc (by simp) _).alloc (by simp) _).alloc (by simp; omega) _
  have C : poB t [(0, t)] = true := by rw [poB_new]; exact h
  go_enter Try.func40, Try.ntmps40
  go_wp2_with fail
  refine (implProfileOk_any t _ 1 1 [(0, t)] _ ((laid_new t w).toS rfl (by omega) (one_wf ht))).mono ?_
  rw [C]
  rintro e w1 ⟨rfl, hb⟩
  have hL := (laid_new t w).below hb
  have c0 : w1.cell? ⟨w.heap.size, 0, none⟩ = some (.int .i64 0) := (hb.cell (p := ⟨w.heap.size, 0, none⟩) (by simp; omega)).trans (by simp [go_sem])
  have c1 : w1.cell? ⟨w.heap.size, 1, none⟩ = some (.slice none 0 0) := (hb.cell (p := ⟨w.heap.size, 1, none⟩) (by simp; omega)).trans (by simp [go_sem])
  have c2 : w1.cell? ⟨w.heap.size + 1 + 1, 0, none⟩ = some (.int .i64 t) := (hb.cell (p := ⟨w.heap.size + 1 + 1, 0, none⟩) (by simp)).trans (by simp [go_sem])
  have c3 : w1.cell? ⟨w.heap.size + 1 + 1, 1, none⟩ = some (.slice (some ⟨w.heap.size + 1, 0, none⟩) 1 1) := (hb.cell (p := ⟨w.heap.size + 1 + 1, 1, none⟩) (by simp)).trans (by simp [go_sem])
  have f0 : w1.frozen? ⟨w.heap.size, 0, none⟩ = false := (hb.frozen (p := ⟨w.heap.size, 0, none⟩) (by simp; omega)).trans (by simp [go_sem])
  have f1 : w1.frozen? ⟨w.heap.size, 1, none⟩ = false := (hb.frozen (p := ⟨w.heap.size, 1, none⟩) (by simp; omega)).trans (by simp [go_sem])
  clear C
  go_wp2
  refine bodyPost_ret (v := .tuple #[.agg #[.int .i64 t, .slice (some ⟨w.heap.size + 1, 0, none⟩) 1 1], .bool true]) (by simp [results, Try.results40, go_sem, c0, c1]) rfl ⟨w.heap.size + 1, rfl, by omega, ?_, ?_⟩
  · exact (hL.other (by simp) _).other (by simp) _
  · exact ((w0.then hb (by simp; omega)).setCell (by simp) _).setCell (by simp) _

theorem implNew_no (t : Int) (w : World) (h : inB t 0 1000 = false) (ht : -9223372036854775808 ≤ t ∧ t ≤ 9223372036854775807) :
    Calls Try.prog 40 #[.int .i64 t] w fun e w' => e = .returned (.tuple #[.agg #[.int .i64 0, .slice none 0 0], .bool false]) ∧ Below w.heap.size w w' := by
  have w0 : Below w.heap.size w (((w.alloc (.cells #[.int .i64 0, .slice none 0 0] 26)).alloc (.cells #[.int .i64 0, .int .i64 t] 69)).alloc (.cells #[.int .i64 t, .slice (some ⟨w.heap.size + 1, 0, none⟩) 1 1] 26)) := (((Below.refl _ _).alloc (by simp) _).alloc (by simp) _).alloc (by simp; omega) _
  have C : poB t [(0, t)] = false := by rw [poB_new]; exact h
  go_enter Try.func40, Try.ntmps40
  go_wp2_with fail
  refine (implProfileOk_any t _ 1 1 [(0, t)] _ ((laid_new t w).toS rfl (by omega) (one_wf ht))).mono ?_
  rw [C]
  rintro e w1 ⟨rfl, hb⟩
  have c0 : w1.cell? ⟨w.heap.size, 0, none⟩ = some (.int .i64 0) := (hb.cell (p := ⟨w.heap.size, 0, none⟩) (by simp; omega)).trans (by simp [go_sem])
  have c1 : w1.cell? ⟨w.heap.size, 1, none⟩ = some (.slice none 0 0) := (hb.cell (p := ⟨w.heap.size, 1, none⟩) (by simp; omega)).trans (by simp [go_sem])
  have c2 : w1.cell? ⟨w.heap.size + 1 + 1, 0, none⟩ = some (.int .i64 t) := (hb.cell (p := ⟨w.heap.size + 1 + 1, 0, none⟩) (by simp)).trans (by simp [go_sem])
  have c3 : w1.cell? ⟨w.heap.size + 1 + 1, 1, none⟩ = some (.slice (some ⟨w.heap.size + 1, 0, none⟩) 1 1) := (hb.cell (p := ⟨w.heap.size + 1 + 1, 1, none⟩) (by simp)).trans (by simp [go_sem])
  have f0 : w1.frozen? ⟨w.heap.size, 0, none⟩ = false := (hb.frozen (p := ⟨w.heap.size, 0, none⟩) (by simp; omega)).trans (by simp [go_sem])
  have f1 : w1.frozen? ⟨w.heap.size, 1, none⟩ = false := (hb.frozen (p := ⟨w.heap.size, 1, none⟩) (by simp; omega)).trans (by simp [go_sem])
  clear C
  go_wp2
  refine bodyPost_ret (v := .tuple #[.agg #[.int .i64 0, .slice none 0 0], .bool false]) (by simp [results, Try.results40, go_sem, c0, c1]) rfl ⟨rfl, ?_⟩
  exact ((w0.then hb (by simp; omega)).setCell (by simp) _).setCell (by simp) _

/-! a nil list bears no marks -/
theorem markNilS_any (k0 : Int) (w : World) : Calls Try.prog 72 #[.slice none 0 0, .int .i64 k0] w fun e w' => e = .returned (.int .i64 k0) ∧ w' = w := by
  go_enter Try.func72, Try.ntmps72
  go_wp2
  refine wp_loop_rounds 1 ?_
  rw [rounds_succ]
  go_wp2
  go_ret
  exact ⟨rfl, rfl⟩

theorem heldNilS_any (k0 : Int) (w : World) : Calls Try.prog 73 #[.slice none 0 0, .int .i64 k0] w fun e w' => e = .returned (.int .i64 k0) ∧ w' = w := by
  go_enter Try.func73, Try.ntmps73
  go_wp2
  refine wp_loop_rounds 1 ?_
  rw [rounds_succ]
  go_wp2
  go_ret
  exact ⟨rfl, rfl⟩

theorem markNil_any (t k0 : Int) (w : World) :
    Calls Try.prog 41 #[.agg #[.int .i64 t, .slice none 0 0], .int .i64 k0] w fun e w' => e = .returned (.int .i64 k0) ∧ Below w.heap.size w w' := by
  go_enter Try.func41, Try.ntmps41
  go_wp2_with fail
  refine (markNilS_any k0 _).mono ?_
  rintro e w1 ⟨rfl, rfl⟩
  go_wp2
  go_ret
  exact ⟨rfl, box_below⟩

theorem heldNil_any (t k0 : Int) (w : World) (h0 : 0 ≤ k0) :
    Calls Try.prog 42 #[.agg #[.int .i64 t, .slice none 0 0], .int .i64 k0] w fun e w' => e = .returned (.int .i64 k0) ∧ Below w.heap.size w w' := by
  go_enter Try.func42, Try.ntmps42
  go_wp2_with fail
  refine (heldNilS_any k0 _).mono ?_
  rintro e w1 ⟨rfl, rfl⟩
  go_wp2
  go_ret
  exact ⟨rfl, box_below⟩

theorem LevS.nil_ (w : World) : LevS w .none 0 0 [] := ⟨rfl, Nat.le_refl _, Nat.zero_le _, fun _ => rfl, fun i hi => by omega, fun hi => by omega⟩

end Go.Proofs.Ytecfacpcmcpeoaa
