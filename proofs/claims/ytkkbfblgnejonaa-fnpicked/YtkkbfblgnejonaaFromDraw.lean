/- A number drawn between two. -/
import Derived.Test.YtkkbfblgnejonaaDraw
namespace Go.Proofs.Ytkkbfblgnejonaa
open Go.RowKit

theorem l1FromN_any (cb : Nat) (a : Option Addr) (n cap : Nat) (zs : List Int) (lo hi : Int) (w : World) (h : CurAt w cb a n cap zs) (h0 : -100 ≤ lo) (h1 : lo ≤ hi) (h2 : hi ≤ 100) :
    Calls Try.prog 62 #[.pointer (some ⟨cb, 0, none⟩), .int .i64 lo, .int .i64 hi] w fun e w' => ∃ x : Int, e = .returned (.int .i64 x) ∧ lo ≤ x ∧ x ≤ hi ∧ CurAt w' cb a n cap zs ∧ But cb w w' := by
  go_enter Try.func62, Try.ntmps62
  go_wp2_with fail
  refine (l1Below_any cb a n cap zs (hi - lo + 1) _ h (by omega) (by omega)).mono ?_
  rintro e w1 ⟨x, rfl, x0, x1, c1, b1⟩
  go_wp2
  go_ret
  exact ⟨lo + x, rfl, by omega, by omega, c1, b1⟩

end Go.Proofs.Ytkkbfblgnejonaa
