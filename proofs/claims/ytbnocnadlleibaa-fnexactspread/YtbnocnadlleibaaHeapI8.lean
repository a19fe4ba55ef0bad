/- The library's Push and Pop over the program's heap. -/
import Derived.Test.YtbnocnadlleibaaHeapI7
namespace Go.Proofs.Ytbnocnadlleibaa
open Go.RowKit Go.Sort Go.Shelf

theorem HeapW.caps {w : World} {base P g cap : Nat} {ys : List (Int × Int)} (h : HeapW w base P g cap ys) : ys.length ≤ cap ∧ cap ≤ maxLen := by
  rcases h.own.2 with ⟨e, _⟩ | ⟨g', c', cur, e, h1, h2, h3, h4, _⟩
  · cases e
  · injection e with e1 _ e3
    subst e3
    exact ⟨h3, h4⟩

set_option maxRecDepth 8000 in
set_option maxHeartbeats 4000000 in
theorem heapPush_any (base P g cap : Nat) (ys : List (Int × Int)) (x : Int × Int) (w : World) (h : HeapW w base P g cap ys) (hb : base ≤ w.heap.size) (hn : ys.length < 1048576) (hh : IsHp ys ys.length) :
    Calls Try.prog 61 #[.iface 54 (.pointer (some ⟨P, 0, none⟩)), .iface 78 (.agg #[.int .i64 x.1, .int .i64 x.2])] w fun e w' => e = .returned (.tuple #[]) ∧ ∃ g' cap' zs, HeapW w' base P g' cap' zs ∧ zs.Perm (x :: ys) ∧ IsHp zs zs.length ∧ Turn w w' P g g' := by
  have ePush := fun args w => enters_of Try.func121 (by kernel_rfl) rfl args w
  have eLen := fun args w => enters_of Try.func118 (by kernel_rfl) rfl args w
  have mP := mPush P
  have nP := nPush P
  have nL := nLen P
  have CP := pushM_any base P g cap ys x w h hb (by omega)
  have HU : Hid (UpI (ys ++ [x]) (ys.length + 1) ys.length) := hh.push
  have hl : (ys ++ [x]).length = ys.length + 1 := by simp
  have HL : Hid _ := hl
  clear hl
  go_enter Try.func61, Try.ntmps61
  go_wp2_with (first
    | (go_at_call 121; refine CP.mono ?_; rintro e w1 ⟨rfl, g1, c1, H1, T1⟩
       have KP1 := cell_of_one H1.box
       have mL := mLen KP1
       rw [HL.out] at mL
       have HH1 : Hid _ := H1
       have HT1 : Hid _ := T1
       clear KP1 H1 T1 CP)
    | (go_at_call 118; refine (mLen_any _ _ _ _).mono ?_; rintro e w2 ⟨rfl, rfl⟩)
    | (go_at_call 71; refine (up_any base P g1 c1 ys.length (ys ++ [x]) _ HH1.out (by rw [HL.out]; omega) (by rw [HL.out]; omega) (by rw [HL.out]; exact HU.out)).mono ?_; rintro e w3 ⟨rfl, zs, H3, hp, hs, T3⟩))
  go_end0
  exact ⟨rfl, g1, c1, zs, H3, hp.trans (List.perm_append_singleton _ _), hs, HT1.out.trans T3⟩

set_option maxRecDepth 8000 in
set_option maxHeartbeats 4000000 in
theorem heapPop_any (base P g cap n : Nat) (ys : List (Int × Int)) (w : World) (h : HeapW w base P g cap ys) (hn : ys.length = n + 1) (hn1 : n < 1048576) (hh : IsHp ys ys.length) :
    Calls Try.prog 62 #[.iface 54 (.pointer (some ⟨P, 0, none⟩))] w fun e w' => e = .returned (.iface 78 (.agg #[.int .i64 (mg ys 0).1, .int .i64 (mg ys 0).2])) ∧ ∃ zs, HeapW w' base P g cap zs ∧ (mg ys 0 :: zs).Perm ys ∧ IsHp zs zs.length ∧ Turn w w' P g g := by
  have ePop := fun args w => enters_of Try.func120 (by kernel_rfl) rfl args w
  have eLen := fun args w => enters_of Try.func118 (by kernel_rfl) rfl args w
  have eSwap := fun args w => enters_of Try.func122 (by kernel_rfl) rfl args w
  have mP := mPop P
  have nP := nPop P
  have nL := nLen P
  have nS := nSwap P
  obtain ⟨hc0, hc1⟩ := h.caps
  have KP := cell_of_one h.box
  rw [hn] at KP
  have mL := mLen KP
  have mS := mSwap KP
  have CS := swapH_any base P g cap ys 0 n w h (by omega) (by omega)
  rw [hn] at CS
  have HD : Hid (DnI (sw ys 0 n) n 0) := IsHp.pop (by rw [← hn]; exact hh)
  have HL : Hid (ys.length = n + 1) := hn
  have hl2 : (sw ys 0 n).length = n + 1 := by rw [sw_len]; exact hn
  have HL2 : Hid _ := hl2
  have HX : Hid (mg (sw ys 0 n) n = mg ys 0) := sw_j (by omega)
  have HPs : Hid ((sw ys 0 n).Perm ys) := sw_perm (by omega) (by omega)
  have HC : Hid (n + 1 ≤ cap) := by unfold Hid; omega
  clear hl2 KP h
  rw [hn] at hc0
  clear hn
  obtain ⟨x, hx⟩ : ∃ x, mg ys 0 = x := ⟨_, rfl⟩
  rw [hx] at HX ⊢
  go_enter Try.func62, Try.ntmps62
  go_wp2_with (first
    | (go_at_call 118; refine (mLen_any _ _ _ _).mono ?_; rintro e w2 ⟨rfl, rfl⟩)
    | (go_at_call 122; refine CS.mono ?_; rintro e w1 ⟨rfl, H1, T1⟩
       have HH1 : Hid _ := H1
       have HT1 : Hid _ := T1
       clear H1 T1 CS mL mS)
    | (go_at_call 72; refine (down_any base P g cap n (sw ys 0 n) _ HH1.out (by rw [HL2.out]; omega) (by rw [HL2.out]; omega) HD.out).mono ?_; rintro e w3 ⟨b, zs, rfl, H3, hp, hs, hk, T3⟩
       have HH3 : Hid _ := H3
       have HT3 : Hid _ := T3
       have HP3 : Hid _ := hp
       have HS3 : Hid _ := hs
       have HX3 : Hid (mg zs n = x) := (hk n (Nat.le_refl _)).trans HX.out
       clear H3 T3 hp hs hk)
    | (go_at_call 120; refine (popM_any base P g cap n zs _ HH3.out (HP3.out.length_eq.trans HL2.out) hc1 HC.out).mono ?_; rw [HX3.out]; rintro e w4 ⟨rfl, H4, T4⟩))
  go_ret
  have hzl : (zs.take n).length = n := by rw [List.length_take, HP3.out.length_eq, HL2.out]; omega
  refine ⟨rfl, zs.take n, H4, ?_, by rw [hzl]; exact IsHp.take HS3.out, (HT1.out.trans HT3.out).trans T4⟩
  have := pop_perm (ys := ys) HL.out (HP3.out.trans HPs.out)
  rwa [HX3.out] at this

end Go.Proofs.Ytbnocnadlleibaa
