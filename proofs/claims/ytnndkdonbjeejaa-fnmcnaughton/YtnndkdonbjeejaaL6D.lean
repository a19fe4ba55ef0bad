/- Draws of chapter 6. -/
import Derived.Test.YtnndkdonbjeejaaWorlds
import Derived.Test.YtnndkdonbjeejaaJobDraw3
namespace Go.Proofs.Ytnndkdonbjeejaa
open Go.RowKit Go.Sort

theorem l1From6_any (cb : Nat) (a : Option Addr) (n cap : Nat) (zs : List Int) (lo hi : Int) (w : World) (h : CurAt w cb a n cap zs) (h0 : -100 ≤ lo) (h1 : lo ≤ hi) (h2 : hi ≤ 100) :
    Calls Try.prog 58 #[.pointer (some ⟨cb, 0, none⟩), .int .i64 lo, .int .i64 hi] w fun e w' => ∃ x : Int, e = .returned (.int .i64 x) ∧ lo ≤ x ∧ x ≤ hi ∧ CurAt w' cb a n cap zs ∧ But cb w w' := by
  go_enter Try.func58, Try.ntmps58
  go_wp2_with fail
  refine (l1Below_any cb a n cap zs (hi - lo + 1) _ h (by omega) (by omega)).mono ?_
  rintro e w1 ⟨x, rfl, x0, x1, c1, b1⟩
  go_wp2
  go_ret
  exact ⟨lo + x, rfl, by omega, by omega, c1, b1⟩

/-- the odd numbers of machines -/
def oddM : Array Value := #[.int .i64 (-1), .int .i64 0, .int .i64 4, .int .i64 5, .int .i64 10, .int .i64 11]
theorem oddM_at : ∀ k, k < 6 → ∃ v : Int, oddM[k]? = some (.int .i64 v) ∧ -1 ≤ v ∧ v ≤ 11
  | 0, _ => ⟨_, rfl, by omega⟩
  | 1, _ => ⟨_, rfl, by omega⟩
  | 2, _ => ⟨_, rfl, by omega⟩
  | 3, _ => ⟨_, rfl, by omega⟩
  | 4, _ => ⟨_, rfl, by omega⟩
  | 5, _ => ⟨_, rfl, by omega⟩
  | k + 6, h => by omega

set_option maxHeartbeats 1000000 in
theorem drawMachines_any (cb : Nat) (a : Option Addr) (n cap : Nat) (zs : List Int) (w : World) (h : CurAt w cb a n cap zs) :
    Calls Try.prog 53 #[.pointer (some ⟨cb, 0, none⟩)] w fun e w' => ∃ x : Int, e = .returned (.int .i64 x) ∧ -1 ≤ x ∧ x ≤ 11 ∧ CurAt w' cb a n cap zs ∧ But cb w w' := by
  go_enter Try.func53, Try.ntmps53
  go_wp2_with fail
  refine (l1Once_any cb a n cap zs 10 _ h (by omega) (by omega)).mono ?_
  rintro e w1 ⟨b, rfl, h1, hb1⟩
  cases b with
  | true =>
    go_wp2_with fail
    refine (l1Below_any cb a n cap zs 6 _ (h1.but ((Below.refl _ _).alloc (Nat.le_refl _) _) h1.lt) (by omega) (by omega)).mono ?_
    rintro e w2 ⟨x, rfl, x0, x1, h2, hb2⟩
    obtain ⟨k, rfl⟩ := Int.eq_ofNat_of_zero_le x0
    obtain ⟨v, hv, v0, v1⟩ := oddM_at k (by omega)
    have q0 := row_at (L := oddM) hb2 h1.lt hv
    have k7 : k < 6 := by omega
    clear hv
    go_wp2
    go_ret
    exact ⟨v, rfl, v0, v1, h2, (hb1.alloc _).trans hb2⟩
  | false =>
    go_wp2_with fail
    refine (l1Below_any cb a n cap zs 3 _ h1 (by omega) (by omega)).mono ?_
    rintro e w2 ⟨x, rfl, x0, x1, h2, hb2⟩
    go_wp2
    go_ret
    exact ⟨1 + x, rfl, by omega, by omega, h2, hb1.trans hb2⟩

end Go.Proofs.Ytnndkdonbjeejaa
