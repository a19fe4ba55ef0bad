/- The program's workedAt, over its heap of jobs; the heap as Earliest makes it. -/
import Derived.Test.YtmaojjjdepgaeaaHeaps
import Derived.Test.YtmaojjjdepgaeaaRuleI
namespace Go.Proofs.Ytmaojjjdepgaeaa
open Go.RowKit Go.Sort Go.Shelf

theorem HpW.some_of {w : World} {base P bo bn cap : Nat} {a : Option Addr} {ys : List Jb} (h : HpW w base P bo bn a cap ys) (h0 : 0 < ys.length) : ∃ g, a = some ⟨g, 0, none⟩ := by
  rcases h.form with e | e
  · exfalso
    subst e
    rcases h.own.2 with ⟨_, h1⟩ | ⟨_, _, _, h1, _⟩
    · omega
    · cases h1
  · exact e

theorem workedAt_none (base P bo bn cap : Nat) (a : Option Addr) (w : World) (h : HpW w base P bo bn a cap []) :
    Calls Try.prog 80 #[.pointer (some ⟨P, 0, none⟩)] w fun e w' => e = .returned (.int .i64 0) ∧ w' = w := by
  have CL := lenH_any base P bo bn cap a [] w h
  go_enter Try.func80, Try.ntmps80
  go_wp2_with (go_at_call 78; refine CL.mono ?_; rintro e w1 ⟨rfl, rfl⟩)
  go_ret
  exact ⟨rfl, rfl⟩

/-- the first, x, of those that were open is worked at for 1 -/
def WkD (w w' : World) (base P bo bn g : Nat) (x : Jb) (ys : List Jb) : Prop :=
  ∃ g' cap' zs r, HpW w' base P bo bn (some ⟨g', 0, none⟩) cap' zs ∧ (x :: r).Perm ys ∧ (0 < x.long - 1 → zs.Perm ({ x with long := x.long - 1 } :: r)) ∧ (¬ 0 < x.long - 1 → zs.Perm r) ∧ IsHp zs zs.length ∧ Turn w w' P (some ⟨g, 0, none⟩) (some ⟨g', 0, none⟩)

set_option maxRecDepth 8000 in
set_option maxHeartbeats 4000000 in
theorem workedAt_some (base P bo bn g cap n : Nat) (ys : List Jb) (w : World) (h : HpW w base P bo bn (some ⟨g, 0, none⟩) cap ys) (hb : base ≤ w.heap.size) (hn : ys.length = n + 1) (hn1 : n < 1000) (hh : IsHp ys ys.length)
    (l0 : 1 ≤ (mg ys 0).long) (l1 : (mg ys 0).long ≤ 10000) :
    Calls Try.prog 80 #[.pointer (some ⟨P, 0, none⟩)] w fun e w' => e = .returned (.int .i64 (mg ys 0).id) ∧ WkD w w' base P bo bn g (mg ys 0) ys := by
  have as1 := asM
  have CL := lenH_any base P bo bn cap _ ys w h
  rw [hn] at CL
  have CP := heapPop_any base P bo bn g cap n ys w h hn (by omega) hh
  have HN : Hid (ys.length = n + 1) := hn
  have HB : Hid (base ≤ w.heap.size) := hb
  clear hn hb
  have hPl := h.ltP
  have hne := h.ne g rfl
  have hgl := h.ltg
  clear h
  obtain ⟨⟨x0, x1, x2, x3, x4, x5, x6⟩, hx⟩ : ∃ x, mg ys 0 = x := ⟨_, rfl⟩
  rw [hx] at CP l0 l1 ⊢
  simp only at CP l0 l1 ⊢
  have ez : (((n + 1 : Nat) : Int) == 0) = false := by simp; omega
  by_cases hl : 0 < x2 - 1
  · go_enter Try.func80, Try.ntmps80
    go_wp2_with (first
      | (go_at_call 78; refine CL.mono ?_; rintro e w0 ⟨rfl, rfl⟩)
      | (go_at_call 96; refine CP.mono ?_; rintro e w1 ⟨rfl, r, H1, hp, hs, T1⟩
         have HH1 : Hid _ := H1
         have HT1 : Hid _ := T1
         have HP1 : Hid _ := hp
         have HS1 : Hid _ := hs
         have hz1 := H1.ltP
         have hz2 := H1.ltg
         have bx : Below w1.heap.size w1 (w1.alloc (.cells #[.int .i64 x0, .int .i64 x1, .int .i64 (x2 - 1), .int .i64 x3, .int .i64 x4, .int .i64 x5, .int .i64 x6] 49)) := (Below.refl _ _).alloc (Nat.le_refl _) _
         have hl : r.length = n := by have := hp.length_eq; rw [HN.out, List.length_cons] at this; omega
         have CQ := heapPush_any base P bo bn cap _ r ⟨x0, x1, x2 - 1, x3, x4, x5, x6⟩ _ (H1.below bx) (by have := T1.size; have := bx.size; have := HB.out; omega) (by omega) hs
         have bF := heap_alloc_new w1 (.cells #[.int .i64 x0, .int .i64 x1, .int .i64 (x2 - 1), .int .i64 x3, .int .i64 x4, .int .i64 x5, .int .i64 x6] 49)
         have HBX : Hid _ := bx
         have HBF : Hid _ := bF
         have HL : Hid _ := hl
         clear H1 T1 hp hs CP bx bF hl)
      | (go_at_call 79; refine CQ.mono ?_; rintro e w2 ⟨rfl, g2, c2, zs, H2, hp2, hs2, T2⟩
         have hF := (T2.block w1.heap.size (by simp) (by omega) (fun g' e => by injection e with e; injection e with e _ _; omega)).trans HBF.out
         have cF : w2.cell? ⟨w1.heap.size, 0, none⟩ = some (.int .i64 x0) := by simp [World.cell?, hF]
         have HH2 : Hid _ := H2
         have HT2 : Hid _ := T2
         have HP2 : Hid _ := hp2
         have HS2 : Hid _ := hs2
         clear H2 T2 hp2 hs2 CQ hF))
    go_ret
    exact ⟨rfl, g2, c2, zs, r, HH2.out, HP1.out, fun _ => HP2.out, fun h9 => absurd hl h9, HS2.out, (HT1.out.trans (Turn.of HBX.out)).trans HT2.out⟩
  · have hl1 : x2 = 1 := by omega
    subst hl1
    go_enter Try.func80, Try.ntmps80
    go_wp2_with (first
      | (go_at_call 78; refine CL.mono ?_; rintro e w0 ⟨rfl, rfl⟩)
      | (go_at_call 96; refine CP.mono ?_; rintro e w1 ⟨rfl, r, H1, hp, hs, T1⟩
         have HH1 : Hid _ := H1
         have HT1 : Hid _ := T1
         have HP1 : Hid _ := hp
         have HS1 : Hid _ := hs
         have bx : Hid (∀ o, Below w1.heap.size w1 (w1.alloc o)) := fun o => (Below.refl _ _).alloc (Nat.le_refl _) _
         clear H1 T1 hp hs CP))
    go_ret
    exact ⟨rfl, g, cap, r, r, HH1.out.below (bx.out _), HP1.out, fun h9 => absurd (show (0 : Int) < 1 - 1 from h9) (by omega), fun _ => List.Perm.refl _, HS1.out, HT1.out.trans (Turn.of (bx.out _))⟩

def openW (w : World) : World := ((w.alloc (.cells #[.func (.func 74) #[] #[]] 78)).alloc (.cells #[.func (.func 77) #[] #[]] 78)).alloc (.cells #[.func (.func 103) #[] #[.pointer (some ⟨w.heap.size, 0, none⟩), .pointer (some ⟨w.heap.size + 1, 0, none⟩)], .slice none 0 0] 82)
theorem open_start (w : World) : HpW (openW w) (w.heap.size + 2) (w.heap.size + 2) w.heap.size (w.heap.size + 1) none 0 [] := by
  have e2 : ((w.alloc (.cells #[.func (.func 74) #[] #[]] 78)).alloc (.cells #[.func (.func 77) #[] #[]] 78)).heap.size = w.heap.size + 2 := by simp
  refine ⟨?_, ⟨rfl, Or.inl ⟨rfl, rfl⟩⟩, (fun g e => by cases e), Nat.le_refl _, ⟨by omega, by omega⟩, ?_, ?_⟩
  · have := heap_alloc_new ((w.alloc (.cells #[.func (.func 74) #[] #[]] 78)).alloc (.cells #[.func (.func 77) #[] #[]] 78)) (.cells #[.func (.func 103) #[] #[.pointer (some ⟨w.heap.size, 0, none⟩), .pointer (some ⟨w.heap.size + 1, 0, none⟩)], .slice none 0 0] 82)
    rw [e2] at this
    exact this
  · exact (World.cell?_alloc_lt _ _ _ (by show w.heap.size < _; rw [e2]; omega)).trans (by simp)
  · exact (World.cell?_alloc_lt _ _ _ (by show w.heap.size + 1 < _; rw [e2]; omega)).trans (by simp)
theorem open_below (w : World) : Below w.heap.size w (openW w) := ((box_below0 (w := w)).alloc (by simp) _).alloc (by simp; omega) _
theorem open_size (w : World) : (openW w).heap.size = w.heap.size + 3 := by unfold openW; simp

end Go.Proofs.Ytmaojjjdepgaeaa
