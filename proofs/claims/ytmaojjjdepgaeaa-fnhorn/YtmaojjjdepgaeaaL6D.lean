/- Draws of chapter 6. -/
import Derived.Test.YtmaojjjdepgaeaaWorlds
import Derived.Test.YtmaojjjdepgaeaaJobDraw3
namespace Go.Proofs.Ytmaojjjdepgaeaa
open Go.RowKit Go.Sort

theorem l1From6_any (cb : Nat) (a : Option Addr) (n cap : Nat) (zs : List Int) (lo hi : Int) (w : World) (h : CurAt w cb a n cap zs) (h0 : -100 ≤ lo) (h1 : lo ≤ hi) (h2 : hi ≤ 100) :
    Calls Try.prog 61 #[.pointer (some ⟨cb, 0, none⟩), .int .i64 lo, .int .i64 hi] w fun e w' => ∃ x : Int, e = .returned (.int .i64 x) ∧ lo ≤ x ∧ x ≤ hi ∧ CurAt w' cb a n cap zs ∧ But cb w w' := by
  go_enter Try.func61, Try.ntmps61
  go_wp2_with fail
  refine (l1Below_any cb a n cap zs (hi - lo + 1) _ h (by omega) (by omega)).mono ?_
  rintro e w1 ⟨x, rfl, x0, x1, c1, b1⟩
  go_wp2
  go_ret
  exact ⟨lo + x, rfl, by omega, by omega, c1, b1⟩

/-- the odd numbers of machines -/
def oddM : Array Value := #[.int .i64 (-1), .int .i64 0, .int .i64 4, .int .i64 5, .int .i64 10, .int .i64 11]
theorem oddM_at : ∀ k, k < 6 → ∃ v : Int, oddM[k]? = some (.int .i64 v) ∧ -1 ≤ v ∧ v ≤ 11
  | 0, _ => ⟨_, rfl, by omega⟩
  | 1, _ => ⟨_, rfl, by omega⟩
  | 2, _ => ⟨_, rfl, by omega⟩
  | 3, _ => ⟨_, rfl, by omega⟩
  | 4, _ => ⟨_, rfl, by omega⟩
  | 5, _ => ⟨_, rfl, by omega⟩
  | k + 6, h => by omega

set_option maxHeartbeats 1000000 in
theorem drawMachines_any (cb : Nat) (a : Option Addr) (n cap : Nat) (zs : List Int) (w : World) (h : CurAt w cb a n cap zs) :
    Calls Try.prog 51 #[.pointer (some ⟨cb, 0, none⟩)] w fun e w' => ∃ x : Int, e = .returned (.int .i64 x) ∧ -1 ≤ x ∧ x ≤ 11 ∧ CurAt w' cb a n cap zs ∧ But cb w w' := by
  go_enter Try.func51, Try.ntmps51
  go_wp2_with fail
  refine (l1Once_any cb a n cap zs 10 _ h (by omega) (by omega)).mono ?_
  rintro e w1 ⟨b, rfl, h1, hb1⟩
  cases b with
  | true =>
    go_wp2_with fail
    refine (l1Below_any cb a n cap zs 6 _ (h1.but ((Below.refl _ _).alloc (Nat.le_refl _) _) h1.lt) (by omega) (by omega)).mono ?_
    rintro e w2 ⟨x, rfl, x0, x1, h2, hb2⟩
    obtain ⟨k, rfl⟩ := Int.eq_ofNat_of_zero_le x0
    obtain ⟨v, hv, v0, v1⟩ := oddM_at k (by omega)
    have q0 := row_at (L := oddM) hb2 h1.lt hv
    have k7 : k < 6 := by omega
    clear hv
    go_wp2
    go_ret
    exact ⟨v, rfl, v0, v1, h2, (hb1.alloc _).trans hb2⟩
  | false =>
    go_wp2_with fail
    refine (l1Below_any cb a n cap zs 3 _ h1 (by omega) (by omega)).mono ?_
    rintro e w2 ⟨x, rfl, x0, x1, h2, hb2⟩
    go_wp2
    go_ret
    exact ⟨1 + x, rfl, by omega, by omega, h2, hb1.trans hb2⟩

set_option maxHeartbeats 2000000 in
theorem drawOptimum_any (a : Option Addr) (n cap : Nat) (zs : List Int) (w : World) (h : IsBytes w a n cap zs) (hn : n ≤ 4096) :
    Calls Try.prog 13 #[.slice a n cap] w fun e w' => ∃ g c ys m, e = .returned (.tuple #[.slice (some ⟨g, 0, none⟩) ys.length c, .int .i64 m]) ∧ -1 ≤ m ∧ m ≤ 11 ∧ OwnJ w' w.heap.size g c ys ∧ ys.length ≤ 40 ∧ allSmall ys ∧ Below w.heap.size w w' := by
  go_enter Try.func13, Try.ntmps13
  go_wp2_with fail
  refine (l1New_any a n cap zs _ h hn).mono ?_
  rintro e w1 ⟨cb, rfl, hcb, c1, U1⟩
  have z1 := U1.size
  go_wp2_with fail
  refine (drawMachines_any cb a n cap zs _ c1).mono ?_
  rintro e w2 ⟨m, rfl, m0, m1, c2, b2⟩
  have z2 := b2.size
  go_wp2_with fail
  refine (l3DrawAny_any cb a n cap zs 6 _ c2 (by omega) (by omega)).mono ?_
  rintro e w3 ⟨g, c, ys, rfl, O3, hy, hA, c3, b3⟩
  have B3 := b2.trans b3
  have z3 := b3.size
  have hcb2 := c2.lt
  go_wp2_with fail
  refine (l1Once_any cb a n cap zs 20 _ c3 (by omega) (by omega)).mono ?_
  rintro e w4 ⟨b, rfl, c4, b4⟩
  have B4 := B3.trans b4
  have z4 := b4.size
  cases b with
  | false =>
    have O4 := O3.blk (w' := w4) (b4.block g O3.lt (by have := O3.base; omega))
    go_wp2
    go_ret2
    exact ⟨g, c, ys, m, rfl, m0, m1, O4.low (by omega), hy, hA, U1.trans (B4.below hcb (by omega))⟩
  | true =>
    go_wp2_with fail
    refine (l3Draw_any cb a n cap zs 9 _ c4 (by omega) (by omega)).mono ?_
    rintro e w5 ⟨g5, c5', ys5, rfl, O5, hy5, hA5, c5, b5⟩
    have B5 := B4.trans b5
    go_wp2
    go_ret2
    exact ⟨g5, c5', ys5, m, rfl, m0, m1, O5.low (by omega), hy5, hA5, U1.trans (B5.below hcb (by omega))⟩

end Go.Proofs.Ytmaojjjdepgaeaa
