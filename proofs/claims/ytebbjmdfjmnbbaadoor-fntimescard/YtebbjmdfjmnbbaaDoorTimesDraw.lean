/- The draws of times, and what the law of times leans on. -/
import Derived.Test.YtebbjmdfjmnbbaaDoorDraw
import Derived.Test.YtebbjmdfjmnbbaaDoorTimeFaces
import Derived.Test.YtebbjmdfjmnbbaaDoorShowTime
namespace Go.Proofs.YtebbjmdfjmnbbaaDoor
open Go.RowKit

/-- an int64 -/
def I64 (x : Int) : Prop := -9223372036854775808 ≤ x ∧ x ≤ 9223372036854775807

theorem drawTimeOk_any (a : Option Addr) (n cap : Nat) (zs : List Int) (w : World) (h : IsBytes w a n cap zs) (hn : n ≤ 4096) :
    Calls Tryd.prog 26 #[.slice a n cap] w fun e w' => ∃ x : Int, e = .returned (.int .i64 x) ∧ I64 x ∧ Below w.heap.size w w' := by
  go_enter Tryd.func26, Tryd.ntmps26
  go_wp2_with fail
  refine (l1New_any a n cap zs _ h hn).mono ?_
  rintro e w1 ⟨cb, rfl, hcb, h1, hb1⟩
  go_wp2_with fail
  refine (l1DrawTime_any cb a n cap zs _ h1).mono ?_
  rintro e w2 ⟨x, rfl, bx, h2, hb2⟩
  go_wp2
  go_ret
  exact ⟨x, rfl, bx, hb1.trans (hb2.below hcb hb1.size)⟩

theorem drawShowTime_any (a : Option Addr) (n cap : Nat) (zs : List Int) (w : World) (h : IsBytes w a n cap zs) (hn : n ≤ 4096) :
    Calls Tryd.prog 10 #[.slice a n cap] w fun e w' => ∃ x : Int, e = .returned (.int .i64 x) ∧ I64 x ∧ Below w.heap.size w w' := by
  go_enter Tryd.func10, Tryd.ntmps10
  go_wp2_with fail
  refine (drawTimeOk_any a n cap zs _ h hn).mono ?_
  rintro e w1 ⟨x, rfl, bx, hb1⟩
  go_wp2
  go_ret
  exact ⟨x, rfl, bx, hb1⟩

theorem drawLater_any (a : Option Addr) (n cap : Nat) (zs : List Int) (w : World) (h : IsBytes w a n cap zs) (hn : n ≤ 4096) :
    Calls Tryd.prog 5 #[.slice a n cap] w fun e w' => ∃ x y : Int, e = .returned (.tuple #[.int .i64 x, .int .i64 y]) ∧ I64 x ∧ I64 y ∧ Below w.heap.size w w' := by
  go_enter Tryd.func5, Tryd.ntmps5
  go_wp2_with fail
  refine (l1New_any a n cap zs _ h hn).mono ?_
  rintro e w1 ⟨cb, rfl, hcb, h1, hb1⟩
  go_wp2_with fail
  refine (l1DrawTime_any cb a n cap zs _ h1).mono ?_
  rintro e w2 ⟨x, rfl, bx, h2, hb2⟩
  go_wp2_with fail
  refine (l1DrawTime_any cb a n cap zs _ h2).mono ?_
  rintro e w3 ⟨y, rfl, by_, h3, hb3⟩
  go_wp2
  go_ret2
  exact ⟨x, y, rfl, bx, by_, hb1.trans ((hb2.trans hb3).below hcb hb1.size)⟩

theorem drawOverlap_any (a : Option Addr) (n cap : Nat) (zs : List Int) (w : World) (h : IsBytes w a n cap zs) (hn : n ≤ 4096) :
    Calls Tryd.prog 8 #[.slice a n cap] w fun e w' => ∃ x y z v : Int, e = .returned (.tuple #[.int .i64 x, .int .i64 y, .int .i64 z, .int .i64 v]) ∧ I64 x ∧ I64 y ∧ I64 z ∧ I64 v ∧ Below w.heap.size w w' := by
  go_enter Tryd.func8, Tryd.ntmps8
  go_wp2_with fail
  refine (l1New_any a n cap zs _ h hn).mono ?_
  rintro e w1 ⟨cb, rfl, hcb, h1, hb1⟩
  go_wp2_with fail
  refine (l1DrawTime_any cb a n cap zs _ h1).mono ?_
  rintro e w2 ⟨x, rfl, bx, h2, hb2⟩
  go_wp2_with fail
  refine (l1DrawTime_any cb a n cap zs _ h2).mono ?_
  rintro e w3 ⟨y, rfl, by_, h3, hb3⟩
  go_wp2_with fail
  refine (l1DrawTime_any cb a n cap zs _ h3).mono ?_
  rintro e w4 ⟨z, rfl, bz, h4, hb4⟩
  go_wp2_with fail
  refine (l1DrawTime_any cb a n cap zs _ h4).mono ?_
  rintro e w5 ⟨v, rfl, bv, h5, hb5⟩
  go_wp2
  refine bodyPost_ret (v := .tuple #[.int .i64 x, .int .i64 y, .int .i64 z, .int .i64 v]) (by simp [results, Tryd.results8, go_sem]) rfl ⟨x, y, z, v, rfl, bx, by_, bz, bv, hb1.trans ((((hb2.trans hb3).trans hb4).trans hb5).below hcb hb1.size)⟩

theorem over_sym (x y z v : Int) : overI z v x y = overI x y z v := by
  by_cases h : okB x = true ∧ okB y = true ∧ okB z = true ∧ okB v = true
  · rw [overI_yes h.2.2.1 h.2.2.2 h.1 h.2.1, overI_yes h.1 h.2.1 h.2.2.1 h.2.2.2, Int.max_comm, Int.min_comm]
  · rw [overI_not h, overI_not (fun g => h ⟨g.2.2.1, g.2.2.2, g.1, g.2.1⟩)]

theorem over_le (x y z v : Int) (h : 0 < overI x y z v) : overI x y z v ≤ faceI untilI x y ∧ overI x y z v ≤ faceI untilI z v := by
  by_cases k : okB x = true ∧ okB y = true ∧ okB z = true ∧ okB v = true
  · obtain ⟨k1, k2, k3, k4⟩ := k
    rw [overI_yes k1 k2 k3 k4] at h ⊢
    rw [face_tt k1 k2, face_tt k3 k4]
    have := okB_t k1; have := okB_t k2; have := okB_t k3; have := okB_t k4
    unfold untilI at h ⊢
    refine ⟨?_, ?_⟩ <;> (repeat' split) <;> (repeat' split at h) <;> omega
  · rw [overI_not k] at h; omega

theorem show_empty (t : Int) : (showT t = []) ↔ okB t = false := by
  unfold showT
  by_cases c : okB t = true
  · rw [if_pos c]
    split
    · simp [neverBytes, c]
    · rw [Lib.decDigits.eq_def]
      split <;> simp [c]
  · rw [if_neg c]; simpa using c

theorem later_comm (a b : Int) : faceI laterI b a = faceI laterI a b := by
  unfold faceI laterI
  by_cases h1 : okB a = true <;> by_cases h2 : okB b = true <;> simp only [h1, h2, if_true] <;> (try rw [Int.add_comm b a]) <;> simp_all

theorem later_ok {a b : Int} (ha : okB a = true) (hb : okB b = true) : okB (laterI a b) = true := by
  have := okB_t ha; have := okB_t hb
  unfold okB inB laterI; split <;> simp <;> omega

theorem later_assoc {a b c : Int} (ha : okB a = true) (hb : okB b = true) (hc : okB c = true) : laterI (laterI a b) c = laterI a (laterI b c) := by
  have := okB_t ha; have := okB_t hb; have := okB_t hc
  unfold laterI; repeat' split
  all_goals omega

end Go.Proofs.YtebbjmdfjmnbbaaDoor
