/- The library's Push and Pop over the program's heap of machines. -/
import Derived.Test.YtmaojjjdepgaeaaHpGM
import Derived.Test.YtmaojjjdepgaeaaHpDM
import Derived.Test.YtmaojjjdepgaeaaHpEM
namespace Go.Proofs.Ytmaojjjdepgaeaa
open Go.RowKit Go.Sort Go.Shelf

set_option maxRecDepth 8000 in
set_option maxHeartbeats 4000000 in
theorem heapPush_any (base P bo bn cap : Nat) (a : Option Addr) (ys : List (Int × Int)) (x : (Int × Int)) (w : World) (h : HpW w base P bo bn a cap ys) (hb : base ≤ w.heap.size) (hn : ys.length < 1048576) (hh : IsHp ys ys.length) :
    Calls Try.prog 79 #[.iface 67 (.pointer (some ⟨P, 0, none⟩)), .iface 105 (.agg #[.int .i64 x.1, .int .i64 x.2])] w fun e w' => e = .returned (.tuple #[]) ∧ ∃ g' cap' zs, HpW w' base P bo bn (some ⟨g', 0, none⟩) cap' zs ∧ zs.Perm (x :: ys) ∧ IsHp zs zs.length ∧ Turn w w' P a (some ⟨g', 0, none⟩) := by
  have ePush := fun args w => enters_of Try.func155 (by kernel_rfl) rfl args w
  have eLen := fun args w => enters_of Try.func152 (by kernel_rfl) rfl args w
  have mP := mPush P
  have nP := nPush P
  have mL := mLen P
  have nL := nLen P
  have CP := pushM_any base P bo bn cap a ys x w h hb (by omega)
  have HU : Hid (UpI (ys ++ [x]) (ys.length + 1) ys.length) := hh.push
  have HL : Hid ((ys ++ [x]).length = ys.length + 1) := by unfold Hid; simp
  clear h hh
  go_enter Try.func79, Try.ntmps79
  go_wp2_with (first
    | (go_at_call 155; refine CP.mono ?_; rintro e w1 ⟨rfl, g1, c1, H1, T1⟩
       have HH1 : Hid _ := H1
       have HT1 : Hid _ := T1
       have CLn := lenH_any base P bo bn c1 _ _ _ H1
       rw [HL.out] at CLn
       clear H1 T1 CP)
    | (go_at_call 152; refine CLn.mono ?_; rintro e w2 ⟨rfl, rfl⟩)
    | (go_at_call 105; refine (up_any base P bo bn g1 c1 ys.length (ys ++ [x]) _ HH1.out (by rw [HL.out]; omega) (by rw [HL.out]; omega) (by rw [HL.out]; exact HU.out)).mono ?_; rintro e w3 ⟨rfl, zs, H3, hp, hs, T3⟩))
  go_end0
  exact ⟨rfl, g1, c1, zs, H3, hp.trans (List.perm_append_singleton _ _), hs, HT1.out.trans T3⟩

set_option maxRecDepth 8000 in
set_option maxHeartbeats 4000000 in
theorem heapPop_any (base P bo bn g cap n : Nat) (ys : List (Int × Int)) (w : World) (h : HpW w base P bo bn (some ⟨g, 0, none⟩) cap ys) (hn : ys.length = n + 1) (hn1 : n < 1048576) (hh : IsHp ys ys.length) :
    Calls Try.prog 96 #[.iface 67 (.pointer (some ⟨P, 0, none⟩))] w fun e w' => e = .returned (.iface 105 (.agg #[.int .i64 (mg ys 0).1, .int .i64 (mg ys 0).2])) ∧ ∃ zs, HpW w' base P bo bn (some ⟨g, 0, none⟩) cap zs ∧ (mg ys 0 :: zs).Perm ys ∧ IsHp zs zs.length ∧ Turn w w' P (some ⟨g, 0, none⟩) (some ⟨g, 0, none⟩) := by
  have ePop := fun args w => enters_of Try.func154 (by kernel_rfl) rfl args w
  have eLen := fun args w => enters_of Try.func152 (by kernel_rfl) rfl args w
  have eSwap := fun args w => enters_of Try.func156 (by kernel_rfl) rfl args w
  have mP := mPop P
  have nP := nPop P
  have mL := mLen P
  have nL := nLen P
  have mS := mSwap P
  have nS := nSwap P
  obtain ⟨hc0, hc1⟩ := h.caps (by omega)
  have CLn := lenH_any base P bo bn cap _ _ _ h
  rw [hn] at CLn
  have CS := swapH_any base P bo bn g cap ys 0 n w h (by omega) (by omega)
  have HD : Hid (DnI (sw ys 0 n) n 0) := IsHp.pop (by rw [← hn]; exact hh)
  have HL : Hid (ys.length = n + 1) := hn
  have hl2 : (sw ys 0 n).length = n + 1 := by rw [sw_len]; exact hn
  have HL2 : Hid _ := hl2
  have HX : Hid (mg (sw ys 0 n) n = mg ys 0) := sw_j (by omega)
  have HPs : Hid ((sw ys 0 n).Perm ys) := sw_perm (by omega) (by omega)
  have HC : Hid (n + 1 ≤ cap) := by unfold Hid; omega
  clear hl2 h hh
  rw [hn] at hc0
  clear hn
  obtain ⟨x, hx⟩ : ∃ x, mg ys 0 = x := ⟨_, rfl⟩
  rw [hx] at HX ⊢
  have HX0 : Hid (mg ys 0 = x) := hx
  clear hx
  go_enter Try.func96, Try.ntmps96
  go_wp2_with (first
    | (go_at_call 152; refine CLn.mono ?_; rintro e w2 ⟨rfl, rfl⟩)
    | (go_at_call 156; refine CS.mono ?_; rintro e w1 ⟨rfl, H1, T1⟩
       have HH1 : Hid _ := H1
       have HT1 : Hid _ := T1
       clear H1 T1 CS CLn)
    | (go_at_call 113; refine (down_any base P bo bn g cap n (sw ys 0 n) _ HH1.out (by rw [HL2.out]; omega) (by rw [HL2.out]; omega) HD.out).mono ?_; rintro e w3 ⟨b, zs, rfl, H3, hp, hs, hk, T3⟩
       have HH3 : Hid _ := H3
       have HT3 : Hid _ := T3
       have HP3 : Hid _ := hp
       have HS3 : Hid _ := hs
       have HX3 : Hid (mg zs n = x) := (hk n (Nat.le_refl _)).trans HX.out
       clear H3 T3 hp hs hk)
    | (go_at_call 154; refine (popM_any base P bo bn g cap n zs _ HH3.out (HP3.out.length_eq.trans HL2.out) hc1 HC.out).mono ?_; rw [HX3.out]; rintro e w4 ⟨rfl, H4, T4⟩))
  go_ret
  have hzl : (zs.take n).length = n := by rw [List.length_take, HP3.out.length_eq, HL2.out]; omega
  refine ⟨rfl, zs.take n, H4, ?_, by rw [hzl]; exact IsHp.take HS3.out, (HT1.out.trans HT3.out).trans T4⟩
  have := pop_perm (ys := ys) HL.out (HP3.out.trans HPs.out)
  rwa [HX3.out] at this

end Go.Proofs.Ytmaojjjdepgaeaa
