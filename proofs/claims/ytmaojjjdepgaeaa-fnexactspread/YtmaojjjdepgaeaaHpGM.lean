/- The library's down over the program's heap of machines. -/
import Derived.Test.YtmaojjjdepgaeaaHpFM
namespace Go.Proofs.Ytmaojjjdepgaeaa
open Go.RowKit Go.Sort Go.Shelf

set_option maxRecDepth 8000 in
set_option maxHeartbeats 8000000 in
theorem down_any (base P bo bn g cap n : Nat) (ys0 : List (Int × Int)) (w : World) (h0 : HpW w base P bo bn (some ⟨g, 0, none⟩) cap ys0) (hn : ys0.length ≤ 1048576) (hn0 : n ≤ ys0.length) (hd : DnI ys0 n 0) :
    Calls Try.prog 113 #[.iface 67 (.pointer (some ⟨P, 0, none⟩)), .int .i64 0, .int .i64 n] w fun e w' => ∃ b ys, e = .returned (.bool b) ∧ HpW w' base P bo bn (some ⟨g, 0, none⟩) cap ys ∧ ys.Perm ys0 ∧ IsHp ys n ∧ (∀ k, n ≤ k → mg ys k = mg ys0 k) ∧ Turn w w' P (some ⟨g, 0, none⟩) (some ⟨g, 0, none⟩) := by
  have eLess := fun args w => enters_of Try.func153 (by kernel_rfl) rfl args w
  have eSwap := fun args w => enters_of Try.func156 (by kernel_rfl) rfl args w
  have mL := mLess P
  have nL := nLess P
  have mS := mSwap P
  have nS := nSwap P
  go_enter Try.func113, Try.ntmps113
  go_wp2
  go_loopw [7, 8, 9, 10] (fun s _ _ _ wr => ∃ (i : Nat) (ys : List (Int × Int)), s = .int .i64 i ∧ (i < n ∨ i = 0) ∧ Hid (HpW wr base P bo bn (some ⟨g, 0, none⟩) cap ys) ∧ Hid (ys.Perm ys0) ∧ Hid (DnI ys n i) ∧ Hid (∀ k, n ≤ k → mg ys k = mg ys0 k) ∧ Hid (Turn w wr P (some ⟨g, 0, none⟩) (some ⟨g, 0, none⟩))) (fun s _ _ _ _ => n - (intOf s).toNat)
  case atStart => exact ⟨0, ys0, rfl, Or.inr rfl, h0, List.Perm.refl _, hd, fun _ _ => rfl, Turn.refl _ _ _⟩
  case round =>
    obtain ⟨i, ys, rfl, hi, HH, HP, HD, HK, HT⟩ := hrel
    have HL : Hid (ys.length = ys0.length) := HP.out.length_eq
    by_cases c1 : 2 * i + 1 < n
    · have c1' : ¬ ((n : Int) ≤ 2 * (i : Int) + 1) := by omega
      have c1'' : ¬ (2 * (i : Int) + 1 < 0) := by omega
      by_cases c2 : 2 * i + 2 < n
      · have c2' : 2 * (i : Int) + 1 + 1 < (n : Int) := by omega
        have C2 : Calls Try.prog 153 #[.pointer (some ⟨P, 0, none⟩), .int .i64 (2 * (i : Int) + 1 + 1), .int .i64 (2 * (i : Int) + 1)] wr fun e w' => e = .returned (.bool (mltB (mg ys (2 * i + 2)) (mg ys (2 * i + 1)))) ∧ Below wr.heap.size wr w' := by
          have := lessH_any base P bo bn g cap ys (2 * i + 2) (2 * i + 1) wr HH.out (by have := HL.out; omega) (by have := HL.out; omega)
          rw [show 2 * i + 2 = 2 * i + 1 + 1 by omega] at this
          push_cast at this; exact this
        cases hb2 : mltB (mg ys (2 * i + 2)) (mg ys (2 * i + 1)) with
        | true =>
          rw [hb2] at C2
          go_wp2_with (go_at_call 153; refine C2.mono ?_; rintro e w1 ⟨rfl, hb1⟩; have Hw : Hid _ := HH.out.below hb1; have Tw : Hid (Turn w w1 P (some ⟨g, 0, none⟩) (some ⟨g, 0, none⟩)) := HT.out.trans (Turn.of hb1); clear C2)
          have HKid : Hid (Kid ys n i (2 * i + 1 + 1)) := Kid.right c2 (mltB_iff.1 hb2)
          have CL : Calls Try.prog 153 #[.pointer (some ⟨P, 0, none⟩), .int .i64 (2 * (i : Int) + 1 + 1), .int .i64 i] w1 fun e w' => e = .returned (.bool (mltB (mg ys (2 * i + 1 + 1)) (mg ys i))) ∧ Below w1.heap.size w1 w' := by
            have := lessH_any base P bo bn g cap ys (2 * i + 1 + 1) i w1 Hw.out (by have := HL.out; omega) (by have := HL.out; omega)
            push_cast at this; exact this
          cases hb : mltB (mg ys (2 * i + 1 + 1)) (mg ys i) with
          | true =>
            rw [hb] at CL
            have HD2 : Hid (DnI (sw ys i (2 * i + 1 + 1)) n (2 * i + 1 + 1)) := HD.out.step (by have := HL.out; omega) HKid.out (mltB_iff.1 hb)
            have HK2 : Hid (∀ k, n ≤ k → mg (sw ys i (2 * i + 1 + 1)) k = mg ys0 k) := fun k hk => (sw_o (by omega) (by omega)).trans (HK.out k hk)
            have HP2 : Hid ((sw ys i (2 * i + 1 + 1)).Perm ys0) := (sw_perm (by have := HL.out; omega) (by have := HL.out; omega)).trans HP.out
            go_wp2_with (first
              | (go_at_call 153; refine CL.mono ?_; rintro e w3 ⟨rfl, hb3⟩
                 have H3 := Hw.out.below hb3
                 have CS := swapH_any base P bo bn g cap ys i (2 * i + 1 + 1) w3 H3 (by have := HL.out; omega) (by have := HL.out; omega)
                 push_cast at CS
                 have HT3 : Hid (Turn w w3 P (some ⟨g, 0, none⟩) (some ⟨g, 0, none⟩)) := Tw.out.trans (Turn.of hb3)
                 clear H3 CL)
              | (go_at_call 156; refine CS.mono ?_; rintro e w4 ⟨rfl, H4, T4⟩))
            have HT4 : Hid (Turn w w4 P (some ⟨g, 0, none⟩) (some ⟨g, 0, none⟩)) := HT3.out.trans T4
            have HH4 : Hid _ := H4
            clear H4 T4
            go_roundw
            case rel => exact ⟨2 * i + 1 + 1, sw ys i (2 * i + 1 + 1), by go_num, by omega, HH4, HP2, HD2, HK2, HT4⟩
            case measure => simp [intOf]; omega
          | false =>
            rw [hb] at CL
            have HS : Hid (IsHp ys n) := HD.out.stop HKid.out (fun h => by have := mltB_iff.2 h; rw [hb] at this; cases this)
            go_wp2_with (first
              | (go_at_call 153; refine CL.mono ?_; rintro e w3 ⟨rfl, hb3⟩))
            go_ret
            exact ⟨_, ys, rfl, Hw.out.below hb3, HP.out, HS.out, HK.out, Tw.out.trans (Turn.of hb3)⟩
        | false =>
          rw [hb2] at C2
          go_wp2_with (go_at_call 153; refine C2.mono ?_; rintro e w1 ⟨rfl, hb1⟩; have Hw : Hid _ := HH.out.below hb1; have Tw : Hid (Turn w w1 P (some ⟨g, 0, none⟩) (some ⟨g, 0, none⟩)) := HT.out.trans (Turn.of hb1); clear C2)
          have HKid : Hid (Kid ys n i (2 * i + 1)) := Kid.left c2 (fun h => by have := mltB_iff.2 h; rw [hb2] at this; cases this)
          have CL : Calls Try.prog 153 #[.pointer (some ⟨P, 0, none⟩), .int .i64 (2 * (i : Int) + 1), .int .i64 i] w1 fun e w' => e = .returned (.bool (mltB (mg ys (2 * i + 1)) (mg ys i))) ∧ Below w1.heap.size w1 w' := by
            have := lessH_any base P bo bn g cap ys (2 * i + 1) i w1 Hw.out (by have := HL.out; omega) (by have := HL.out; omega)
            push_cast at this; exact this
          cases hb : mltB (mg ys (2 * i + 1)) (mg ys i) with
          | true =>
            rw [hb] at CL
            have HD2 : Hid (DnI (sw ys i (2 * i + 1)) n (2 * i + 1)) := HD.out.step (by have := HL.out; omega) HKid.out (mltB_iff.1 hb)
            have HK2 : Hid (∀ k, n ≤ k → mg (sw ys i (2 * i + 1)) k = mg ys0 k) := fun k hk => (sw_o (by omega) (by omega)).trans (HK.out k hk)
            have HP2 : Hid ((sw ys i (2 * i + 1)).Perm ys0) := (sw_perm (by have := HL.out; omega) (by have := HL.out; omega)).trans HP.out
            go_wp2_with (first
              | (go_at_call 153; refine CL.mono ?_; rintro e w3 ⟨rfl, hb3⟩
                 have H3 := Hw.out.below hb3
                 have CS := swapH_any base P bo bn g cap ys i (2 * i + 1) w3 H3 (by have := HL.out; omega) (by have := HL.out; omega)
                 push_cast at CS
                 have HT3 : Hid (Turn w w3 P (some ⟨g, 0, none⟩) (some ⟨g, 0, none⟩)) := Tw.out.trans (Turn.of hb3)
                 clear H3 CL)
              | (go_at_call 156; refine CS.mono ?_; rintro e w4 ⟨rfl, H4, T4⟩))
            have HT4 : Hid (Turn w w4 P (some ⟨g, 0, none⟩) (some ⟨g, 0, none⟩)) := HT3.out.trans T4
            have HH4 : Hid _ := H4
            clear H4 T4
            go_roundw
            case rel => exact ⟨2 * i + 1, sw ys i (2 * i + 1), by go_num, by omega, HH4, HP2, HD2, HK2, HT4⟩
            case measure => simp [intOf]; omega
          | false =>
            rw [hb] at CL
            have HS : Hid (IsHp ys n) := HD.out.stop HKid.out (fun h => by have := mltB_iff.2 h; rw [hb] at this; cases this)
            go_wp2_with (first
              | (go_at_call 153; refine CL.mono ?_; rintro e w3 ⟨rfl, hb3⟩))
            go_ret
            exact ⟨_, ys, rfl, Hw.out.below hb3, HP.out, HS.out, HK.out, Tw.out.trans (Turn.of hb3)⟩
      · have c2' : ¬ (2 * (i : Int) + 1 + 1 < (n : Int)) := by omega
        have Hw : Hid _ := HH.out
        have Tw : Hid _ := HT.out
        have HKid : Hid (Kid ys n i (2 * i + 1)) := Kid.one c1 c2
        have CL : Calls Try.prog 153 #[.pointer (some ⟨P, 0, none⟩), .int .i64 (2 * (i : Int) + 1), .int .i64 i] wr fun e w' => e = .returned (.bool (mltB (mg ys (2 * i + 1)) (mg ys i))) ∧ Below wr.heap.size wr w' := by
          have := lessH_any base P bo bn g cap ys (2 * i + 1) i wr Hw.out (by have := HL.out; omega) (by have := HL.out; omega)
          push_cast at this; exact this
        cases hb : mltB (mg ys (2 * i + 1)) (mg ys i) with
        | true =>
          rw [hb] at CL
          have HD2 : Hid (DnI (sw ys i (2 * i + 1)) n (2 * i + 1)) := HD.out.step (by have := HL.out; omega) HKid.out (mltB_iff.1 hb)
          have HK2 : Hid (∀ k, n ≤ k → mg (sw ys i (2 * i + 1)) k = mg ys0 k) := fun k hk => (sw_o (by omega) (by omega)).trans (HK.out k hk)
          have HP2 : Hid ((sw ys i (2 * i + 1)).Perm ys0) := (sw_perm (by have := HL.out; omega) (by have := HL.out; omega)).trans HP.out
          go_wp2_with (first
            | (go_at_call 153; refine CL.mono ?_; rintro e w3 ⟨rfl, hb3⟩
               have H3 := Hw.out.below hb3
               have CS := swapH_any base P bo bn g cap ys i (2 * i + 1) w3 H3 (by have := HL.out; omega) (by have := HL.out; omega)
               push_cast at CS
               have HT3 : Hid (Turn w w3 P (some ⟨g, 0, none⟩) (some ⟨g, 0, none⟩)) := Tw.out.trans (Turn.of hb3)
               clear H3 CL)
            | (go_at_call 156; refine CS.mono ?_; rintro e w4 ⟨rfl, H4, T4⟩))
          have HT4 : Hid (Turn w w4 P (some ⟨g, 0, none⟩) (some ⟨g, 0, none⟩)) := HT3.out.trans T4
          have HH4 : Hid _ := H4
          clear H4 T4
          go_roundw
          case rel => exact ⟨2 * i + 1, sw ys i (2 * i + 1), by go_num, by omega, HH4, HP2, HD2, HK2, HT4⟩
          case measure => simp [intOf]; omega
        | false =>
          rw [hb] at CL
          have HS : Hid (IsHp ys n) := HD.out.stop HKid.out (fun h => by have := mltB_iff.2 h; rw [hb] at this; cases this)
          go_wp2_with (first
            | (go_at_call 153; refine CL.mono ?_; rintro e w3 ⟨rfl, hb3⟩))
          go_ret
          exact ⟨_, ys, rfl, Hw.out.below hb3, HP.out, HS.out, HK.out, Tw.out.trans (Turn.of hb3)⟩
    · have c1' : (n : Int) ≤ 2 * (i : Int) + 1 := by omega
      have HS : Hid (IsHp ys n) := HD.out.leaf c1
      go_wp2
      go_ret
      exact ⟨_, ys, rfl, HH.out, HP.out, HS.out, HK.out, HT.out⟩

end Go.Proofs.Ytmaojjjdepgaeaa
