/- Who is first in the program's heap of machines; Less. -/
import Derived.Test.YtmaojjjdepgaeaaHpAM
import Derived.Deep.RegionHeld3
import Derived.Shelf.SlSortCmp.QuietGrown
namespace Go.Proofs.Ytmaojjjdepgaeaa
open Go.RowKit Go.Sort

def kOne (x y : (Int × Int)) : Int := cmpI x.2 y.2
def kTwo (x y : (Int × Int)) : Int := cmpI x.1 y.1
def mkey (x y : (Int × Int)) : Int := or2 (kOne x y) (kTwo x y)

theorem hp_byLoad (x y : (Int × Int)) (w : World) :
    Calls Try.prog 93 #[.agg #[.int .i64 x.1, .int .i64 x.2], .agg #[.int .i64 y.1, .int .i64 y.2]] w fun e w' => e = .returned (.int .i64 (kOne x y)) ∧ GrS w w' := by
  have hw : ∀ A B, GrS w ((w.alloc A).alloc B) := fun A B => ((GrS.refl w).alloc A).alloc B
  unfold kOne
  go_enter Try.func93, Try.ntmps93
  go_wp2_with (go_at_call 99; refine (compare_any _ _ _).mono ?_; rintro e w' ⟨rfl, rfl⟩)
  go_ret
  exact ⟨rfl, hw _ _⟩

theorem hp_byNumber (x y : (Int × Int)) (w : World) :
    Calls Try.prog 95 #[.agg #[.int .i64 x.1, .int .i64 x.2], .agg #[.int .i64 y.1, .int .i64 y.2]] w fun e w' => e = .returned (.int .i64 (kTwo x y)) ∧ GrS w w' := by
  have hw : ∀ A B, GrS w ((w.alloc A).alloc B) := fun A B => ((GrS.refl w).alloc A).alloc B
  unfold kTwo
  go_enter Try.func95, Try.ntmps95
  go_wp2_with (go_at_call 99; refine (compare_any _ _ _).mono ?_; rintro e w' ⟨rfl, rfl⟩)
  go_ret
  exact ⟨rfl, hw _ _⟩


set_option maxRecDepth 8000 in
set_option maxHeartbeats 4000000 in
theorem thenH (x y : (Int × Int)) (bo bn : Nat) (w : World) (ho : w.cell? ⟨bo, 0, none⟩ = some (.func (.func 93) #[] #[])) (hn : w.cell? ⟨bn, 0, none⟩ = some (.func (.func 95) #[] #[])) :
    Calls Try.prog 112 #[.agg #[.int .i64 x.1, .int .i64 x.2], .agg #[.int .i64 y.1, .int .i64 y.2], .pointer (some ⟨bo, 0, none⟩), .pointer (some ⟨bn, 0, none⟩)] w fun e w' => e = .returned (.int .i64 (mkey x y)) ∧ GrS w w' := by
  have hbo := World.block_lt_of_cell? w _ ho
  have hbn := World.block_lt_of_cell? w _ hn
  obtain ⟨W0, hW0⟩ : ∃ W0, W0 = (w.alloc (.cells #[.int .i64 x.1, .int .i64 x.2] 105)).alloc (.cells #[.int .i64 y.1, .int .i64 y.2] 105) := ⟨_, rfl⟩
  have HG : Hid (GrS w W0) := by rw [hW0]; exact ((GrS.refl w).alloc _).alloc _
  have HKK : Hid (∀ w', GrS W0 w' → GrS W0 w' ∧ w'.cell? ⟨bo, 0, none⟩ = some (.func (.func 93) #[] #[]) ∧ w'.cell? ⟨bn, 0, none⟩ = some (.func (.func 95) #[] #[]) ∧ w'.cell? ⟨w.heap.size, 0, none⟩ = some (.int .i64 x.1) ∧ w'.cell? ⟨w.heap.size, 1, none⟩ = some (.int .i64 x.2) ∧ w'.cell? ⟨w.heap.size + 1, 0, none⟩ = some (.int .i64 y.1) ∧ w'.cell? ⟨w.heap.size + 1, 1, none⟩ = some (.int .i64 y.2)) := by
    intro w' hg
    have z : W0.heap.size = w.heap.size + 2 := by rw [hW0]; simp
    have k : ∀ b j, b < W0.heap.size → w'.cell? ⟨b, j, none⟩ = W0.cell? ⟨b, j, none⟩ := fun b j h => hg.cell (a := ⟨b, j, none⟩) h
    refine ⟨hg, ?_⟩
    rw [k bo _ (by simp at hbo; omega), k bn _ (by simp at hbn; omega), k _ _ (by omega), k _ _ (by omega), k _ _ (by omega), k _ _ (by omega)]
    subst hW0
    refine ⟨(World.cell?_alloc_lt _ _ _ (by simp at hbo ⊢; omega)).trans ((World.cell?_alloc_lt _ _ _ (by simp at hbo ⊢; omega)).trans ho), (World.cell?_alloc_lt _ _ _ (by simp at hbn ⊢; omega)).trans ((World.cell?_alloc_lt _ _ _ (by simp at hbn ⊢; omega)).trans hn), ?_⟩
    simp
  have S0 : GrS W0 W0 := GrS.refl _
  have KB : ∀ w', (GrS W0 w' ∧ w'.cell? ⟨bo, 0, none⟩ = some (.func (.func 93) #[] #[]) ∧ w'.cell? ⟨bn, 0, none⟩ = some (.func (.func 95) #[] #[]) ∧ w'.cell? ⟨w.heap.size, 0, none⟩ = some (.int .i64 x.1) ∧ w'.cell? ⟨w.heap.size, 1, none⟩ = some (.int .i64 x.2) ∧ w'.cell? ⟨w.heap.size + 1, 0, none⟩ = some (.int .i64 y.1) ∧ w'.cell? ⟨w.heap.size + 1, 1, none⟩ = some (.int .i64 y.2)) → GrS W0 w' := fun _ h => h.1
  have EC : mkey x y = or2 (kOne x y) (kTwo x y) := rfl
  rw [EC]
  clear EC
  go_enter Try.func112, Try.ntmps112
  go_wp2_with fail
  rw [← hW0]
  clear hW0 ho hn
  have K0 := HKK.out _ S0
  go_region_held3 (fun w' => GrS W0 w' ∧ w'.cell? ⟨bo, 0, none⟩ = some (.func (.func 93) #[] #[]) ∧ w'.cell? ⟨bn, 0, none⟩ = some (.func (.func 95) #[] #[]) ∧ w'.cell? ⟨w.heap.size, 0, none⟩ = some (.int .i64 x.1) ∧ w'.cell? ⟨w.heap.size, 1, none⟩ = some (.int .i64 x.2) ∧ w'.cell? ⟨w.heap.size + 1, 0, none⟩ = some (.int .i64 y.1) ∧ w'.cell? ⟨w.heap.size + 1, 1, none⟩ = some (.int .i64 y.2)) ((refine HKK.out _ ?_; first | with_reducible exact SB | with_reducible exact SB.drew | with_reducible exact S0.drew | with_reducible exact S0 | with_reducible exact SB.alloc _ | exact (KB _ (by assumption)).alloc _)) (first
    | (go_at_call 93; refine (hp_byLoad _ _ _).mono ?_; rintro e w1 ⟨rfl, hg1⟩; have SB : GrS W0 w1 := (KB _ (by assumption)).trans hg1)
    | (go_at_call 95; refine (hp_byNumber _ _ _).mono ?_; rintro e w2 ⟨rfl, hg2⟩; have SB : GrS W0 w2 := (KB _ (by assumption)).trans hg2)
    | (go_at_call 104; refine (or2_any _ (kOne x y) (kTwo x y) _ (new2_0 _ _ _ _) (new2_1 _ _ _ _)).mono ?_; rintro e w3 ⟨rfl, hq3⟩; have SB : GrS W0 w3 := (by rw [hq3]; exact KB _ (by assumption)); clear hq3))
  all_goals
    go_wp2
    go_ret
    exact ⟨rfl, HG.out.trans (by first | exact SB | exact SB.drew)⟩

/-- does the program's heap hold the one ahead of the other -/
def mltB (a b : (Int × Int)) : Bool := decide (mkey a b < 0)
theorem mltB_iff {a b : (Int × Int)} : mltB a b = true ↔ mlt a b := by
  unfold mltB mkey kOne kTwo
  rw [or2_lt, decide_eq_true_iff]
  rfl

set_option maxRecDepth 8000 in
set_option maxHeartbeats 4000000 in
theorem lessH_any (base P bo bn g cap : Nat) (ys : List (Int × Int)) (i j : Nat) (w : World) (h : HpW w base P bo bn (some ⟨g, 0, none⟩) cap ys) (hi : i < ys.length) (hj : j < ys.length) :
    Calls Try.prog 153 #[.pointer (some ⟨P, 0, none⟩), .int .i64 i, .int .i64 j] w fun e w' => e = .returned (.bool (mltB (mg ys i) (mg ys j))) ∧ Below w.heap.size w w' := by
  have X := h.cell hi
  have Y := h.cell hj
  obtain ⟨x, hx⟩ : ∃ x, mg ys i = x := ⟨_, rfl⟩
  obtain ⟨y, hy⟩ : ∃ y, mg ys j = y := ⟨_, rfl⟩
  rw [hx] at X ⊢
  rw [hy] at Y ⊢
  have lP := h.ltP
  have lg := h.ltg.2
  have p0 := fun nn os => cell_grown (w := w) (by exact lP) h.p0 nn os
  have p1 := fun nn os => cell_grown (w := w) (by exact lP) h.p1 nn os
  have x0 := fun nn os => cell_grown (w := w) (by exact lg) X.1 nn os
  have y0 := fun nn os => cell_grown (w := w) (by exact lg) Y.1 nn os
  have x1 := fun nn os => cell_grown (w := w) (by exact lg) X.2 nn os
  have y1 := fun nn os => cell_grown (w := w) (by exact lg) Y.2 nn os
  have lo : bo < w.heap.size := by have := h.lo; have := h.ge; omega
  have ln : bn < w.heap.size := by have := h.lo; have := h.ge; omega
  have CA : ∀ nn os, Calls Try.prog 112 #[.agg #[.int .i64 x.1, .int .i64 x.2], .agg #[.int .i64 y.1, .int .i64 y.2], .pointer (some ⟨bo, 0, none⟩), .pointer (some ⟨bn, 0, none⟩)] (grow (w.drewN nn) os) fun e w' => e = .returned (.int .i64 (mkey x y)) ∧ ∃ q os', w' = grow ((grow (w.drewN nn) os).drewN q) os' :=
    fun nn os => thenH x y bo bn _ (cell_grown (by exact lo) h.o0 nn os) (cell_grown (by exact ln) h.n0 nn os)
  have hi' : (i : Int) < (ys.length : Int) := by omega
  have hj' : (j : Int) < (ys.length : Int) := by omega
  unfold mltB
  have hmo : Try.prog.follows .mixedOrders = true := by kernel_rfl
  clear X Y hx hy h
  generalize mkey x y = cv at CA ⊢
  go_enter Try.func153, Try.ntmps153
  go_wp2_with fail
  go_quiet_grown ((go_at_call 112; exact Calls.grown_of (CA _ _)))
  go_wp2
  go_ret
  exact ⟨rfl, below_grow _ _ _⟩

end Go.Proofs.Ytmaojjjdepgaeaa
