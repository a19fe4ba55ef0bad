/- PlanOk of the model. -/
import Derived.Test.YtcmpenlgkccgkaaPlanL
namespace Go.Proofs.Ytcmpenlgkccgkaa
open Go.RowKit Go.Sort

set_option maxRecDepth 8000 in
set_option maxHeartbeats 2000000 in
theorem specPlanOk_any (T : Int) (a b a2 : Option Addr) (n cap nb capb n2 cap2 : Nat) (ls : List Lev) (js : List Jb) (ss : List Int) (w : World) (h : LevS w a n cap ls) (hjs : JobS w b nb capb js) (hss : IntS w a2 n2 cap2 ss) :
    Calls Try.prog 23 #[.agg #[.int .i64 T, .slice a n cap], .slice b nb capb, .slice a2 n2 cap2] w fun e w' => e = .returned (.bool (lfF T ls js ss).isSome) ∧ Below w.heap.size w w' := by
  obtain ⟨w0, hw0⟩ : ∃ w0, w0 = w.alloc (.cells #[.int .i64 T, .slice a n cap] 38) := ⟨_, rfl⟩
  have B0 : Below w.heap.size w w0 := by rw [hw0]; exact box_below
  have HW0 : Hid (w0 = w.alloc (.cells #[.int .i64 T, .slice a n cap] 38)) := hw0
  clear hw0
  obtain ⟨r, hr⟩ : ∃ r, r = lfF T ls js ss := ⟨_, rfl⟩
  have HR : Hid (r = lfF T ls js ss) := hr
  rw [← hr]
  clear hr
  go_enter Try.func23, Try.ntmps23
  go_wp2_with fail
  rw [← HW0.out]
  refine (specLeft_any T a b a2 n cap nb capb n2 cap2 ls js ss _ (h.below B0) (hjs.below B0) (hss.below B0)).mono ?_
  rintro e w1 ⟨T', v, n', c', bb, rfl, hb1, ha⟩
  have B1 : Below w.heap.size w w1 := B0.then hb1 B0.size
  have HE : Hid (bb = r.isSome) := by
    unfold Hid
    rw [HR.out]
    rcases hf : lfF T ls js ss with _ | l
    · rw [hf] at ha; exact ha.1
    · rw [hf] at ha; exact ha.1
  clear ha
  go_wp2
  go_ret
  exact ⟨by rw [← HE.out]; rfl, B1.alloc B1.size _⟩

end Go.Proofs.Ytcmpenlgkccgkaa
