/- The program's give, idle and Spread. -/
import Derived.Test.YtbnocnadlleibaaHeapI8
import Derived.Test.YtbnocnadlleibaaJobsOkI
import Derived.Test.YtbnocnadlleibaaIntRow
namespace Go.Proofs.Ytbnocnadlleibaa
open Go.RowKit Go.Sort Go.Shelf

set_option maxRecDepth 8000 in
set_option maxHeartbeats 4000000 in
theorem give_any (base P g cap n : Nat) (long : Int) (ys : List (Int × Int)) (w : World) (h : HeapW w base P g cap ys) (hb : base ≤ w.heap.size) (hn : ys.length = n + 1) (hn1 : n < 1000) (hh : IsHp ys ys.length)
    (h0 : 0 ≤ (mg ys 0).2) (h1 : (mg ys 0).2 ≤ 1000000000) (l0 : 0 ≤ long) (l1 : long ≤ 10000) :
    Calls Try.prog 43 #[.pointer (some ⟨P, 0, none⟩), .int .i64 long] w fun e w' => e = .returned (.int .i64 (mg ys 0).1) ∧ ∃ g' cap' zs r, HeapW w' base P g' cap' zs ∧ (mg ys 0 :: r).Perm ys ∧ zs.Perm (((mg ys 0).1, (mg ys 0).2 + long) :: r) ∧ IsHp zs zs.length ∧ Turn w w' P g g' := by
  have as1 := asM
  have CP := heapPop_any base P g cap n ys w h hn (by omega) hh
  have HN : Hid (ys.length = n + 1) := hn
  have HB : Hid (base ≤ w.heap.size) := hb
  clear hn hb h
  obtain ⟨⟨x1, x2⟩, hx⟩ : ∃ x, mg ys 0 = x := ⟨_, rfl⟩
  rw [hx] at CP h0 h1 ⊢
  simp only at CP h0 h1 ⊢
  go_enter Try.func43, Try.ntmps43
  go_wp2_with (first
    | (go_at_call 62; refine CP.mono ?_; rintro e w1 ⟨rfl, r, H1, hp, hs, T1⟩
       have HH1 : Hid _ := H1
       have HT1 : Hid _ := T1
       have HP1 : Hid _ := hp
       have HS1 : Hid _ := hs
       have hz1 := H1.lt
       have bx : Below w1.heap.size w1 (w1.alloc (.cells #[.int .i64 x1, .int .i64 (x2 + long)] 78)) := (Below.refl _ _).alloc (Nat.le_refl _) _
       have hl : r.length = n := by have := hp.length_eq; rw [HN.out, List.length_cons] at this; omega
       have CQ := heapPush_any base P g cap r (x1, x2 + long) _ (H1.below bx) (by have := T1.size; have := bx.size; have := HB.out; omega) (by omega) hs
       have bF := heap_alloc_new w1 (.cells #[.int .i64 x1, .int .i64 (x2 + long)] 78)
       have HBX : Hid _ := bx
       have HBF : Hid _ := bF
       have HL : Hid _ := hl
       clear H1 T1 hp hs CP bx bF hl)
    | (go_at_call 61; refine CQ.mono ?_; rintro e w2 ⟨rfl, g2, c2, zs, H2, hp2, hs2, T2⟩
       have hF := (T2.block w1.heap.size (by simp) (by omega) (by omega)).trans HBF.out
       have cF : w2.cell? ⟨w1.heap.size, 0, none⟩ = some (.int .i64 x1) := by simp [World.cell?, hF]
       have HH2 : Hid _ := H2
       have HT2 : Hid _ := T2
       have HP2 : Hid _ := hp2
       have HS2 : Hid _ := hs2
       clear H2 T2 hp2 hs2 CQ hF))
  go_ret
  exact ⟨rfl, g2, c2, zs, r, HH2.out, HP1.out, HP2.out, HS2.out, (HT1.out.trans (Turn.of HBX.out)).trans HT2.out⟩

theorem idle_start (w : World) : HeapW ((w.alloc (.cells #[] 78)).alloc (.cells #[.slice (some ⟨w.heap.size, 0, none⟩) 0 0] 75)) w.heap.size (w.heap.size + 1) w.heap.size 0 [] := by
  have own0 : (w.alloc (.cells #[] 78)).ownsRow w.heap.size 78 2 (.slice (some ⟨w.heap.size, 0, none⟩) 0 0) 0 [] := World.ownsRow_made w #[] 0 (Nat.le_refl _) (Nat.zero_le _) rfl
  refine ⟨?_, own0.alloc _, by omega, by omega⟩
  have := heap_alloc_new (w.alloc (.cells #[] 78)) (.cells #[.slice (some ⟨w.heap.size, 0, none⟩) 0 0] 75)
  rwa [show (w.alloc (.cells #[] 78)).heap.size = w.heap.size + 1 by simp] at this

set_option maxRecDepth 8000 in
set_option maxHeartbeats 2000000 in
theorem idle_any (m : Nat) (w : World) (hm : m ≤ 10) :
    Calls Try.prog 42 #[.int .i64 m] w fun e w' => ∃ P g cap ys, e = .returned (.pointer (some ⟨P, 0, none⟩)) ∧ HeapW w' w.heap.size P g cap ys ∧ IsHp ys ys.length ∧ Macs ys (List.replicate m 0) ∧ Below w.heap.size w w' := by
  have hst := idle_start w
  have HST : Hid _ := hst
  have bx : Below w.heap.size w ((w.alloc (.cells #[] 78)).alloc (.cells #[.slice (some ⟨w.heap.size, 0, none⟩) 0 0] 75)) := box_below.alloc (by simp) _
  have HBX : Hid _ := bx
  clear hst bx
  go_enter Try.func42, Try.ntmps42
  go_wp2
  go_loopw [4, 8] (fun _ s wr => ∃ (k g cap : Nat) (ys : List (Int × Int)), k ≤ m ∧ s = .int .i64 k ∧ Hid (HeapW wr w.heap.size (w.heap.size + 1) g cap ys) ∧ Hid (IsHp ys ys.length) ∧ Hid (Macs ys (List.replicate k 0)) ∧ Hid (Below w.heap.size w wr)) (fun _ s _ => m - (intOf s).toNat)
  case atStart => exact ⟨0, _, _, [], by omega, rfl, HST.out, (fun c _ h => absurd h (by simp)), Macs.nil, HBX.out⟩
  case round =>
    obtain ⟨k, g, cap, ys, hk, rfl, HH, HS, HM, HB⟩ := hrel
    by_cases hlt : k < m
    · have hlt' : (k : Int) < (m : Int) := by omega
      have hl : ys.length = k := by have := HM.out.len; simpa using this
      have CQ := heapPush_any w.heap.size (w.heap.size + 1) g cap ys ((k : Int), 0) wr HH.out HB.out.size (by omega) HS.out
      have HL : Hid _ := hl
      clear hl
      go_wp2_with (go_at_call 61; refine CQ.mono ?_; rintro e w2 ⟨rfl, g2, c2, zs, H2, hp2, hs2, T2⟩)
      have HB2 : Hid (Below w.heap.size w w2) := HB.out.trans (T2.below (by omega) HH.out.lt.1 HB.out.size)
      have HM2 : Hid (Macs zs (List.replicate (k + 1) 0)) := HM.out.more hp2
      have HH2 : Hid _ := H2
      have HS2 : Hid _ := hs2
      clear H2 hp2 hs2 T2 CQ
      go_roundw
      case rel => exact ⟨k + 1, g2, c2, zs, by omega, by go_num, HH2, HS2, HM2, HB2⟩
      case measure => simp [intOf]; omega
    · have e : k = m := by omega
      subst e
      go_wp2
      go_ret
      exact ⟨_, g, cap, ys, rfl, HH.out, HS.out, HM.out, HB.out⟩

end Go.Proofs.Ytbnocnadlleibaa
