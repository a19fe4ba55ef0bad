/- The library's up over the program's heap of machines. -/
import Derived.Test.YtmaojjjdepgaeaaHpBM
import Derived.Test.YtmaojjjdepgaeaaHpCM
import Derived.Shelf.Abstract
namespace Go.Proofs.Ytmaojjjdepgaeaa
open Go.RowKit Go.Sort Go.Shelf

set_option maxRecDepth 8000 in
set_option maxHeartbeats 4000000 in
theorem up_any (base P bo bn g cap j0 : Nat) (ys0 : List (Int × Int)) (w : World) (h0 : HpW w base P bo bn (some ⟨g, 0, none⟩) cap ys0) (hn : ys0.length ≤ 1048576) (hj0 : j0 < ys0.length) (hu : UpI ys0 ys0.length j0) :
    Calls Try.prog 105 #[.iface 67 (.pointer (some ⟨P, 0, none⟩)), .int .i64 j0] w fun e w' => e = .returned (.tuple #[]) ∧ ∃ ys, HpW w' base P bo bn (some ⟨g, 0, none⟩) cap ys ∧ ys.Perm ys0 ∧ IsHp ys ys.length ∧ Turn w w' P (some ⟨g, 0, none⟩) (some ⟨g, 0, none⟩) := by
  have eLess := fun args w => enters_of Try.func153 (by kernel_rfl) rfl args w
  have eSwap := fun args w => enters_of Try.func156 (by kernel_rfl) rfl args w
  have mL := mLess P
  have nL := nLess P
  have mS := mSwap P
  have nS := nSwap P
  go_enter Try.func105, Try.ntmps105
  go_wp2
  go_loopw [1, 4] (fun s i wr => ∃ (j : Nat) (ys : List (Int × Int)), s = .int .i64 j ∧ j < ys0.length ∧ Hid (HpW wr base P bo bn (some ⟨g, 0, none⟩) cap ys) ∧ Hid (ys.Perm ys0) ∧ Hid (UpI ys ys0.length j) ∧ Hid (Turn w wr P (some ⟨g, 0, none⟩) (some ⟨g, 0, none⟩))) (fun s _ _ => (intOf s).toNat)
  case atStart => exact ⟨j0, ys0, rfl, hj0, h0, List.Perm.refl _, hu, Turn.refl _ _ _⟩
  case round =>
    obtain ⟨j, ys, rfl, hj, HH, HP, HU, HT⟩ := hrel
    by_cases hz : j = 0
    · subst hz
      go_wp2
      go_end0
      exact ⟨rfl, ys, HH.out, HP.out, by rw [HP.out.length_eq]; exact HU.out.stop (Or.inl rfl), HT.out⟩
    · have HL : Hid (ys.length = ys0.length) := HP.out.length_eq
      obtain ⟨p, hp⟩ : ∃ p : Nat, p = (j - 1) / 2 := ⟨_, rfl⟩
      have hq : ((j : Int) - 1).tdiv 2 = (p : Int) := by rw [Int.tdiv_eq_ediv_of_nonneg (by omega)]; omega
      have hpj : p < j := by omega
      have HPE : Hid (p = (j - 1) / 2) := hp
      clear hp
      have hne : ((p : Int) == (j : Int)) = false := by simp; omega
      have CL := lessH_any base P bo bn g cap ys j p wr HH.out (by have := HL.out; omega) (by have := HL.out; omega)
      cases hb : mltB (mg ys j) (mg ys p) with
      | true =>
        rw [hb] at CL
        have HU2 : Hid (UpI (sw ys p j) ys0.length p) := HU.out.step (by have := HL.out; omega) hj (by omega) HPE.out (mltB_iff.1 hb)
        go_wp2_with (first
          | (go_at_call 153; refine CL.mono ?_; rintro e w1 ⟨rfl, hb1⟩
             have H1 := HH.out.below hb1
             have CS := swapH_any base P bo bn g cap ys p j w1 H1 (by have := HL.out; omega) (by have := HL.out; omega)
             have HT1 : Hid (Turn w w1 P (some ⟨g, 0, none⟩) (some ⟨g, 0, none⟩)) := HT.out.trans (Turn.of hb1)
             clear H1 CL)
          | (go_at_call 156; refine CS.mono ?_; rintro e w2 ⟨rfl, H2, T2⟩))
        have HT2 : Hid (Turn w w2 P (some ⟨g, 0, none⟩) (some ⟨g, 0, none⟩)) := HT1.out.trans T2
        have HH2 : Hid _ := H2
        have HP2 : Hid ((sw ys p j).Perm ys0) := (sw_perm (by have := HL.out; omega) (by have := HL.out; omega)).trans HP.out
        clear H2 T2
        go_roundw
        case rel => exact ⟨p, sw ys p j, rfl, by omega, HH2, HP2, HU2, HT2⟩
        case measure => simp [intOf]; omega
      | false =>
        rw [hb] at CL
        have HS : Hid (IsHp ys ys0.length) := HU.out.stop (Or.inr (fun h => by have := mltB_iff.2 h; rw [← HPE.out, hb] at this; cases this))
        go_wp2_with (first
          | (go_at_call 153; refine CL.mono ?_; rintro e w1 ⟨rfl, hb1⟩))
        go_end0
        exact ⟨rfl, ys, HH.out.below hb1, HP.out, by rw [HL.out]; exact HS.out, HT.out.trans (Turn.of hb1)⟩

end Go.Proofs.Ytmaojjjdepgaeaa
