/- The library's up. -/
import Derived.Test.YtbnocnadlleibaaHeapI5
import Derived.Shelf.Abstract
namespace Go.Proofs.Ytbnocnadlleibaa
open Go.RowKit Go.Sort Go.Shelf

theorem lessH_any (base P g cap : Nat) (ys : List (Int × Int)) (i j : Nat) (w : World) (h : HeapW w base P g cap ys) (hi : i < ys.length) (hj : j < ys.length) :
    Calls Try.prog 119 #[.slice (some ⟨g, 0, none⟩) ys.length cap, .int .i64 i, .int .i64 j] w fun e w' => e = .returned (.bool (mltB (mg ys i) (mg ys j))) ∧ Below w.heap.size w w' := by
  obtain ⟨x0, x1⟩ := h.cell hi
  obtain ⟨y0, y1⟩ := h.cell hj
  exact less_any g ys.length cap i j _ _ w hi hj x0 x1 y0 y1

set_option maxRecDepth 8000 in
set_option maxHeartbeats 4000000 in
theorem up_any (base P g cap j0 : Nat) (ys0 : List (Int × Int)) (w : World) (h0 : HeapW w base P g cap ys0) (hn : ys0.length ≤ 1048576) (hj0 : j0 < ys0.length) (hu : UpI ys0 ys0.length j0) :
    Calls Try.prog 71 #[.iface 54 (.pointer (some ⟨P, 0, none⟩)), .int .i64 j0] w fun e w' => e = .returned (.tuple #[]) ∧ ∃ ys, HeapW w' base P g cap ys ∧ ys.Perm ys0 ∧ IsHp ys ys.length ∧ Turn w w' P g g := by
  have eLess := fun args w => enters_of Try.func119 (by kernel_rfl) rfl args w
  have eSwap := fun args w => enters_of Try.func122 (by kernel_rfl) rfl args w
  go_enter Try.func71, Try.ntmps71
  go_wp2
  go_loopw [1, 4] (fun s i wr => ∃ (j : Nat) (ys : List (Int × Int)), s = .int .i64 j ∧ j < ys0.length ∧ Hid (HeapW wr base P g cap ys) ∧ Hid (ys.Perm ys0) ∧ Hid (UpI ys ys0.length j) ∧ Hid (Turn w wr P g g)) (fun s _ _ => (intOf s).toNat)
  case atStart => exact ⟨j0, ys0, rfl, hj0, h0, List.Perm.refl _, hu, Turn.refl _ _ _⟩
  case round =>
    obtain ⟨j, ys, rfl, hj, HH, HP, HU, HT⟩ := hrel
    by_cases hz : j = 0
    · subst hz
      go_wp2
      go_end0
      exact ⟨rfl, ys, HH.out, HP.out, by rw [HP.out.length_eq]; exact HU.out.stop (Or.inl rfl), HT.out⟩
    · have hl : ys.length = ys0.length := HP.out.length_eq
      obtain ⟨p, hp⟩ : ∃ p : Nat, p = (j - 1) / 2 := ⟨_, rfl⟩
      have hq : ((j : Int) - 1).tdiv 2 = (p : Int) := by rw [Int.tdiv_eq_ediv_of_nonneg (by omega)]; omega
      have hpj : p < j := by omega
      have HPE : Hid (p = (j - 1) / 2) := hp
      clear hp
      have hne : ((p : Int) == (j : Int)) = false := by simp; omega
      have KP := cell_of_one HH.out.box
      have mL := mLess KP
      have nL := nLess P wr
      have CL := lessH_any base P g cap ys j p wr HH.out (by omega) (by omega)
      clear KP
      rw [hl] at mL CL
      have HL : Hid (ys.length = ys0.length) := hl
      clear hl
      cases hb : mltB (mg ys j) (mg ys p) with
      | true =>
        rw [hb] at CL
        have HU2 : Hid (UpI (sw ys p j) ys0.length p) := HU.out.step (by have := HL.out; omega) hj (by omega) HPE.out (mltB_iff.1 hb)
        go_wp2_with (first
          | (go_at_call 119; refine CL.mono ?_; rintro e w1 ⟨rfl, hb1⟩
             have H1 := HH.out.below hb1
             have KP1 := cell_of_one H1.box
             have mS := mSwap KP1
             have nS := nSwap P w1
             have CS := swapH_any base P g cap ys p j w1 H1 (by have := HL.out; omega) (by have := HL.out; omega)
             rw [HL.out] at mS CS
             have HT1 : Hid (Turn w w1 P g g) := HT.out.trans (Turn.of hb1)
             clear KP1 H1 CL mL nL)
          | (go_at_call 122; refine CS.mono ?_; rintro e w2 ⟨rfl, H2, T2⟩))
        have HT2 : Hid (Turn w w2 P g g) := HT1.out.trans T2
        have HH2 : Hid _ := H2
        have HP2 : Hid ((sw ys p j).Perm ys0) := (sw_perm (by have := HL.out; omega) (by have := HL.out; omega)).trans HP.out
        clear H2 T2
        go_roundw
        case rel => exact ⟨p, sw ys p j, rfl, by omega, HH2, HP2, HU2, HT2⟩
        case measure => simp [intOf]; omega
      | false =>
        rw [hb] at CL
        have HS : Hid (IsHp ys ys0.length) := HU.out.stop (Or.inr (fun h => by have := mltB_iff.2 h; rw [← HPE.out, hb] at this; cases this))
        go_wp2_with (first
          | (go_at_call 119; refine CL.mono ?_; rintro e w1 ⟨rfl, hb1⟩))
        go_end0
        exact ⟨rfl, ys, HH.out.below hb1, HP.out, by rw [HL.out]; exact HS.out, HT.out.trans (Turn.of hb1)⟩

end Go.Proofs.Ytbnocnadlleibaa
