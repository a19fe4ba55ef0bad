/- The program's give and idle, over its heap of machines. -/
import Derived.Test.YtmaojjjdepgaeaaHpHM
import Derived.Test.YtmaojjjdepgaeaaJobsOkI
import Derived.Test.YtmaojjjdepgaeaaIntRow
namespace Go.Proofs.Ytmaojjjdepgaeaa
open Go.RowKit Go.Sort Go.Shelf

set_option maxRecDepth 8000 in
set_option maxHeartbeats 4000000 in
theorem give_any (base P bo bn g cap n : Nat) (long : Int) (ys : List (Int × Int)) (w : World) (h : HpW w base P bo bn (some ⟨g, 0, none⟩) cap ys) (hb : base ≤ w.heap.size) (hn : ys.length = n + 1) (hn1 : n < 1000) (hh : IsHp ys ys.length)
    (h0 : 0 ≤ (mg ys 0).2) (h1 : (mg ys 0).2 ≤ 1000000000) (l0 : 0 ≤ long) (l1 : long ≤ 10000) :
    Calls Try.prog 58 #[.pointer (some ⟨P, 0, none⟩), .int .i64 long] w fun e w' => e = .returned (.int .i64 (mg ys 0).1) ∧ ∃ g' cap' zs r, HpW w' base P bo bn (some ⟨g', 0, none⟩) cap' zs ∧ (mg ys 0 :: r).Perm ys ∧ zs.Perm (((mg ys 0).1, (mg ys 0).2 + long) :: r) ∧ IsHp zs zs.length ∧ Turn w w' P (some ⟨g, 0, none⟩) (some ⟨g', 0, none⟩) := by
  have as1 := asM
  have CP := heapPop_any base P bo bn g cap n ys w h hn (by omega) hh
  have HN : Hid (ys.length = n + 1) := hn
  have HB : Hid (base ≤ w.heap.size) := hb
  clear hn hb
  have hPl := h.ltP
  have hne := h.ne g rfl
  have hgl := h.ltg
  clear h
  obtain ⟨⟨x1, x2⟩, hx⟩ : ∃ x, mg ys 0 = x := ⟨_, rfl⟩
  rw [hx] at CP h0 h1 ⊢
  simp only at CP h0 h1 ⊢
  go_enter Try.func58, Try.ntmps58
  go_wp2_with (first
    | (go_at_call 96; refine CP.mono ?_; rintro e w1 ⟨rfl, r, H1, hp, hs, T1⟩
       have HH1 : Hid _ := H1
       have HT1 : Hid _ := T1
       have HP1 : Hid _ := hp
       have HS1 : Hid _ := hs
       have hz1 := H1.ltP
       have hz2 := H1.ltg
       have bx : Below w1.heap.size w1 (w1.alloc (.cells #[.int .i64 x1, .int .i64 (x2 + long)] 105)) := (Below.refl _ _).alloc (Nat.le_refl _) _
       have hl : r.length = n := by have := hp.length_eq; rw [HN.out, List.length_cons] at this; omega
       have CQ := heapPush_any base P bo bn cap _ r (x1, x2 + long) _ (H1.below bx) (by have := T1.size; have := bx.size; have := HB.out; omega) (by omega) hs
       have bF := heap_alloc_new w1 (.cells #[.int .i64 x1, .int .i64 (x2 + long)] 105)
       have HBX : Hid _ := bx
       have HBF : Hid _ := bF
       have HL : Hid _ := hl
       clear H1 T1 hp hs CP bx bF hl)
    | (go_at_call 79; refine CQ.mono ?_; rintro e w2 ⟨rfl, g2, c2, zs, H2, hp2, hs2, T2⟩
       have hF := (T2.block w1.heap.size (by simp) (by omega) (fun g' e => by injection e with e; injection e with e _ _; omega)).trans HBF.out
       have cF : w2.cell? ⟨w1.heap.size, 0, none⟩ = some (.int .i64 x1) := by simp [World.cell?, hF]
       have HH2 : Hid _ := H2
       have HT2 : Hid _ := T2
       have HP2 : Hid _ := hp2
       have HS2 : Hid _ := hs2
       clear H2 T2 hp2 hs2 CQ hF))
  go_ret
  exact ⟨rfl, g2, c2, zs, r, HH2.out, HP1.out, HP2.out, HS2.out, (HT1.out.trans (Turn.of HBX.out)).trans HT2.out⟩

theorem thenM_make (g g' : Nat) (w : World) :
    Calls Try.prog 94 #[.func (.func g) #[] #[], .func (.func g') #[] #[]] w fun e w' => e = .returned (.func (.func 112) #[] #[.pointer (some ⟨w.heap.size, 0, none⟩), .pointer (some ⟨w.heap.size + 1, 0, none⟩)]) ∧ w' = (w.alloc (.cells #[.func (.func g) #[] #[]] 102)).alloc (.cells #[.func (.func g') #[] #[]] 102) := by
  go_enter Try.func94, Try.ntmps94
  go_wp2
  go_ret
  exact ⟨by simp, rfl⟩

def idleW (w : World) : World := ((w.alloc (.cells #[.func (.func 93) #[] #[]] 102)).alloc (.cells #[.func (.func 95) #[] #[]] 102)).alloc (.cells #[.func (.func 112) #[] #[.pointer (some ⟨w.heap.size, 0, none⟩), .pointer (some ⟨w.heap.size + 1, 0, none⟩)], .slice none 0 0] 108)
theorem idle_start (w : World) : HpW (idleW w) (w.heap.size + 2) (w.heap.size + 2) w.heap.size (w.heap.size + 1) none 0 [] := by
  have e2 : ((w.alloc (.cells #[.func (.func 93) #[] #[]] 102)).alloc (.cells #[.func (.func 95) #[] #[]] 102)).heap.size = w.heap.size + 2 := by simp
  refine ⟨?_, ⟨rfl, Or.inl ⟨rfl, rfl⟩⟩, (fun g e => by cases e), Nat.le_refl _, ⟨by omega, by omega⟩, ?_, ?_⟩
  · have := heap_alloc_new ((w.alloc (.cells #[.func (.func 93) #[] #[]] 102)).alloc (.cells #[.func (.func 95) #[] #[]] 102)) (.cells #[.func (.func 112) #[] #[.pointer (some ⟨w.heap.size, 0, none⟩), .pointer (some ⟨w.heap.size + 1, 0, none⟩)], .slice none 0 0] 108)
    rw [e2] at this
    exact this
  · exact (World.cell?_alloc_lt _ _ _ (by show w.heap.size < _; rw [e2]; omega)).trans (by simp)
  · exact (World.cell?_alloc_lt _ _ _ (by show w.heap.size + 1 < _; rw [e2]; omega)).trans (by simp)
theorem idle_below (w : World) : Below w.heap.size w (idleW w) := ((box_below0 (w := w)).alloc (by simp) _).alloc (by simp; omega) _

set_option maxRecDepth 8000 in
set_option maxHeartbeats 2000000 in
theorem idle_any (m : Nat) (w : World) (hm : m ≤ 10) (hm1 : 1 ≤ m) :
    Calls Try.prog 57 #[.int .i64 m] w fun e w' => ∃ P bo bn g cap ys, e = .returned (.pointer (some ⟨P, 0, none⟩)) ∧ HpW w' (w.heap.size + 2) P bo bn (some ⟨g, 0, none⟩) cap ys ∧ IsHp ys ys.length ∧ Macs ys (List.replicate m 0) ∧ Below w.heap.size w w' := by
  have hst := idle_start w
  have HST : Hid _ := hst
  have HBX : Hid _ := idle_below w
  clear hst
  go_enter Try.func57, Try.ntmps57
  go_wp2_with (go_at_call 94; refine (thenM_make _ _ _).mono ?_; rintro e w1 ⟨rfl, rfl⟩)
  have e0 : ((w.alloc (.cells #[.func (.func 93) #[] #[]] 102)).alloc (.cells #[.func (.func 95) #[] #[]] 102)).alloc (.cells #[.func (.func 112) #[] #[.pointer (some ⟨w.heap.size, 0, none⟩), .pointer (some ⟨w.heap.size + 1, 0, none⟩)], .slice none 0 0] 108) = idleW w := rfl
  rw [e0]
  clear e0
  generalize idleW w = wi at HST HBX ⊢
  go_loopw [4, 9] (fun _ s wr => ∃ (k : Nat) (a : Option Addr) (cap : Nat) (ys : List (Int × Int)), k ≤ m ∧ s = .int .i64 k ∧ Hid (HpW wr (w.heap.size + 2) (w.heap.size + 2) w.heap.size (w.heap.size + 1) a cap ys) ∧ Hid (IsHp ys ys.length) ∧ Hid (Macs ys (List.replicate k 0)) ∧ Hid (Below w.heap.size w wr)) (fun _ s _ => m - (intOf s).toNat)
  case atStart => exact ⟨0, none, 0, [], by omega, rfl, HST.out, (fun c _ h => absurd h (by simp)), Macs.nil, HBX.out⟩
  case round =>
    obtain ⟨k, a, cap, ys, hk, rfl, HH, HS, HM, HB⟩ := hrel
    by_cases hlt : k < m
    · have hlt' : (k : Int) < (m : Int) := by omega
      have hl : ys.length = k := by have := HM.out.len; simpa using this
      have hlp := HH.out.ltP
      have CQ := heapPush_any (w.heap.size + 2) (w.heap.size + 2) w.heap.size (w.heap.size + 1) cap a ys ((k : Int), 0) wr HH.out (by omega) (by omega) HS.out
      have HL : Hid _ := hl
      clear hl
      go_wp2_with (go_at_call 79; refine CQ.mono ?_; rintro e w2 ⟨rfl, g2, c2, zs, H2, hp2, hs2, T2⟩)
      have HB2 : Hid (Below w.heap.size w w2) := HB.out.trans ((HH.out.turnB T2).mono (by omega))
      have HM2 : Hid (Macs zs (List.replicate (k + 1) 0)) := HM.out.more hp2
      have HH2 : Hid _ := H2
      have HS2 : Hid _ := hs2
      clear H2 hp2 hs2 T2 CQ
      go_roundw
      case rel => exact ⟨k + 1, _, c2, zs, by omega, by go_num, HH2, HS2, HM2, HB2⟩
      case measure => simp [intOf]; omega
    · have e : k = m := by omega
      subst e
      go_wp2
      go_ret
      have hl : ys.length = k := by have := HM.out.len; simpa using this
      rcases HH.out.form with e | ⟨g, rfl⟩
      · exfalso
        subst e
        have := HH.out.own.2
        rcases this with ⟨_, h0⟩ | ⟨_, _, _, h0, _⟩
        · omega
        · cases h0
      · exact ⟨_, _, _, g, cap, ys, rfl, HH.out, HS.out, HM.out, HB.out⟩

end Go.Proofs.Ytmaojjjdepgaeaa
