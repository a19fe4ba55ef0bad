/- What Johnson's halves compare, in the program. -/
import Derived.Test.YtkakdodamnnplaaPassFew
import Derived.Test.YtkakdodamnnplaaPassHalf
import Derived.Test.YtkakdodamnnplaaPassSort
import Derived.Deep.RegionHeld3
namespace Go.Proofs.Ytkakdodamnnplaa
open Go.RowKit Go.Sort

def kFirst (x y : Pz) : Int := cmpI x.a y.a
def kSecond (x y : Pz) : Int := cmpI y.b x.b
def kId (x y : Pz) : Int := cmpI x.id y.id

theorem swo_keyA : SWO (ltOf keyA) := by
  have e : ltOf keyA = fun x y => decide (x.a < y.a ∨ (x.a = y.a ∧ x.id < y.id)) := by funext x y; exact keyA_lt x y
  rw [e]
  refine ⟨fun x => ?_, fun x y z h1 h2 => ?_, fun x y z h1 h2 => ?_⟩
  · rw [decide_eq_false_iff_not]; omega
  · rw [decide_eq_true_iff] at *; omega
  · rw [decide_eq_false_iff_not] at *; omega
theorem swo_keyB : SWO (ltOf keyB) := by
  have e : ltOf keyB = fun x y => decide (y.b < x.b ∨ (y.b = x.b ∧ x.id < y.id)) := by funext x y; exact keyB_lt x y
  rw [e]
  refine ⟨fun x => ?_, fun x y z h1 h2 => ?_, fun x y z h1 h2 => ?_⟩
  · rw [decide_eq_false_iff_not]; omega
  · rw [decide_eq_true_iff] at *; omega
  · rw [decide_eq_false_iff_not] at *; omega

theorem byPassId_any (x y : Pz) (w : World) :
    Calls Try.prog 37 #[.agg #[.int .i64 x.id, .int .i64 x.a, .int .i64 x.b], .agg #[.int .i64 y.id, .int .i64 y.a, .int .i64 y.b]] w fun e w' => e = .returned (.int .i64 (kId x y)) ∧ GrS w w' := byId_pass x y w

theorem byFirst_any (x y : Pz) (w : World) :
    Calls Try.prog 30 #[.agg #[.int .i64 x.id, .int .i64 x.a, .int .i64 x.b], .agg #[.int .i64 y.id, .int .i64 y.a, .int .i64 y.b]] w fun e w' => e = .returned (.int .i64 (kFirst x y)) ∧ GrS w w' := by
  have hw : ∀ A B, GrS w ((w.alloc A).alloc B) := fun A B => ((GrS.refl w).alloc A).alloc B
  unfold kFirst
  go_enter Try.func30, Try.ntmps30
  go_wp2_with (go_at_call 46; refine (compare_any _ _ _).mono ?_; rintro e w' ⟨rfl, rfl⟩)
  go_ret
  exact ⟨rfl, hw _ _⟩

theorem bySecondFalling_any (x y : Pz) (w : World) :
    Calls Try.prog 32 #[.agg #[.int .i64 x.id, .int .i64 x.a, .int .i64 x.b], .agg #[.int .i64 y.id, .int .i64 y.a, .int .i64 y.b]] w fun e w' => e = .returned (.int .i64 (kSecond x y)) ∧ GrS w w' := by
  have hw : ∀ A B, GrS w ((w.alloc A).alloc B) := fun A B => ((GrS.refl w).alloc A).alloc B
  unfold kSecond
  go_enter Try.func32, Try.ntmps32
  go_wp2_with (go_at_call 46; refine (compare_any _ _ _).mono ?_; rintro e w' ⟨rfl, rfl⟩)
  go_ret
  exact ⟨rfl, hw _ _⟩

theorem rises_any (x : Pz) (w : World) :
    Calls Try.prog 29 #[.agg #[.int .i64 x.id, .int .i64 x.a, .int .i64 x.b]] w fun e w' => e = .returned (.bool (risP x)) ∧ GrS w w' := by
  have hw : ∀ A, GrS w (w.alloc A) := fun A => (GrS.refl w).alloc A
  unfold risP
  go_enter Try.func29, Try.ntmps29
  go_wp2
  go_ret
  exact ⟨rfl, hw _⟩

theorem falls_any (x : Pz) (w : World) :
    Calls Try.prog 31 #[.agg #[.int .i64 x.id, .int .i64 x.a, .int .i64 x.b]] w fun e w' => e = .returned (.bool (!risP x)) ∧ GrS w w' := by
  have hw : ∀ A, GrS w (w.alloc A) := fun A => (GrS.refl w).alloc A
  go_enter Try.func31, Try.ntmps31
  go_wp2_with (go_at_call 29; refine (rises_any x _).mono ?_; rintro e w' ⟨rfl, hg⟩)
  go_ret
  exact ⟨rfl, (hw _).trans hg⟩

theorem then_makeP (g g' : Nat) (w : World) :
    Calls Try.prog 44 #[.func (.func g) #[] #[], .func (.func g') #[] #[]] w fun e w' => e = .returned (.func (.func 53) #[] #[.pointer (some ⟨w.heap.size, 0, none⟩), .pointer (some ⟨w.heap.size + 1, 0, none⟩)]) ∧ w' = (w.alloc (.cells #[.func (.func g) #[] #[]] 43)).alloc (.cells #[.func (.func g') #[] #[]] 43) := by
  go_enter Try.func44, Try.ntmps44
  go_wp2
  go_ret
  exact ⟨by simp, rfl⟩

set_option maxRecDepth 8000 in
set_option maxHeartbeats 4000000 in
theorem then_byFirst (x y : Pz) (bo bn : Nat) (w : World) (ho : w.cell? ⟨bo, 0, none⟩ = some (.func (.func 30) #[] #[])) (hn : w.cell? ⟨bn, 0, none⟩ = some (.func (.func 37) #[] #[])) :
    Calls Try.prog 53 #[.agg #[.int .i64 x.id, .int .i64 x.a, .int .i64 x.b], .agg #[.int .i64 y.id, .int .i64 y.a, .int .i64 y.b], .pointer (some ⟨bo, 0, none⟩), .pointer (some ⟨bn, 0, none⟩)] w fun e w' => e = .returned (.int .i64 (keyA x y)) ∧ GrS w w' := by
  have hbo := World.block_lt_of_cell? w _ ho
  have hbn := World.block_lt_of_cell? w _ hn
  obtain ⟨W0, hW0⟩ : ∃ W0, W0 = (w.alloc (.cells #[.int .i64 x.id, .int .i64 x.a, .int .i64 x.b] 31)).alloc (.cells #[.int .i64 y.id, .int .i64 y.a, .int .i64 y.b] 31) := ⟨_, rfl⟩
  have HG : Hid (GrS w W0) := by rw [hW0]; exact ((GrS.refl w).alloc _).alloc _
  have HKK : Hid (∀ w', GrS W0 w' → GrS W0 w' ∧ w'.cell? ⟨bo, 0, none⟩ = some (.func (.func 30) #[] #[]) ∧ w'.cell? ⟨bn, 0, none⟩ = some (.func (.func 37) #[] #[]) ∧ w'.cell? ⟨w.heap.size, 0, none⟩ = some (.int .i64 x.id) ∧ w'.cell? ⟨w.heap.size, 1, none⟩ = some (.int .i64 x.a) ∧ w'.cell? ⟨w.heap.size, 2, none⟩ = some (.int .i64 x.b) ∧ w'.cell? ⟨w.heap.size + 1, 0, none⟩ = some (.int .i64 y.id) ∧ w'.cell? ⟨w.heap.size + 1, 1, none⟩ = some (.int .i64 y.a) ∧ w'.cell? ⟨w.heap.size + 1, 2, none⟩ = some (.int .i64 y.b)) := by
    intro w' hg
    have z : W0.heap.size = w.heap.size + 2 := by rw [hW0]; simp
    have k : ∀ b j, b < W0.heap.size → w'.cell? ⟨b, j, none⟩ = W0.cell? ⟨b, j, none⟩ := fun b j h => hg.cell (a := ⟨b, j, none⟩) h
    refine ⟨hg, ?_⟩
    rw [k bo _ (by simp at hbo; omega), k bn _ (by simp at hbn; omega), k _ _ (by omega), k _ _ (by omega), k _ _ (by omega), k _ _ (by omega), k _ _ (by omega), k _ _ (by omega)]
    subst hW0
    refine ⟨(World.cell?_alloc_lt _ _ _ (by simp at hbo ⊢; omega)).trans ((World.cell?_alloc_lt _ _ _ (by simp at hbo ⊢; omega)).trans ho), (World.cell?_alloc_lt _ _ _ (by simp at hbn ⊢; omega)).trans ((World.cell?_alloc_lt _ _ _ (by simp at hbn ⊢; omega)).trans hn), ?_⟩
    simp
  have S0 : GrS W0 W0 := GrS.refl _
  have KB : ∀ w', (GrS W0 w' ∧ w'.cell? ⟨bo, 0, none⟩ = some (.func (.func 30) #[] #[]) ∧ w'.cell? ⟨bn, 0, none⟩ = some (.func (.func 37) #[] #[]) ∧ w'.cell? ⟨w.heap.size, 0, none⟩ = some (.int .i64 x.id) ∧ w'.cell? ⟨w.heap.size, 1, none⟩ = some (.int .i64 x.a) ∧ w'.cell? ⟨w.heap.size, 2, none⟩ = some (.int .i64 x.b) ∧ w'.cell? ⟨w.heap.size + 1, 0, none⟩ = some (.int .i64 y.id) ∧ w'.cell? ⟨w.heap.size + 1, 1, none⟩ = some (.int .i64 y.a) ∧ w'.cell? ⟨w.heap.size + 1, 2, none⟩ = some (.int .i64 y.b)) → GrS W0 w' := fun _ h => h.1
  have EC : keyA x y = or2 (kFirst x y) (kId x y) := rfl
  rw [EC]
  clear EC
  go_enter Try.func53, Try.ntmps53
  go_wp2_with fail
  rw [← hW0]
  clear hW0 ho hn
  have K0 := HKK.out _ S0
  go_region_held3 (fun w' => GrS W0 w' ∧ w'.cell? ⟨bo, 0, none⟩ = some (.func (.func 30) #[] #[]) ∧ w'.cell? ⟨bn, 0, none⟩ = some (.func (.func 37) #[] #[]) ∧ w'.cell? ⟨w.heap.size, 0, none⟩ = some (.int .i64 x.id) ∧ w'.cell? ⟨w.heap.size, 1, none⟩ = some (.int .i64 x.a) ∧ w'.cell? ⟨w.heap.size, 2, none⟩ = some (.int .i64 x.b) ∧ w'.cell? ⟨w.heap.size + 1, 0, none⟩ = some (.int .i64 y.id) ∧ w'.cell? ⟨w.heap.size + 1, 1, none⟩ = some (.int .i64 y.a) ∧ w'.cell? ⟨w.heap.size + 1, 2, none⟩ = some (.int .i64 y.b)) ((refine HKK.out _ ?_; first | with_reducible exact SB | with_reducible exact SB.drew | with_reducible exact S0.drew | with_reducible exact S0 | with_reducible exact SB.alloc _ | exact (KB _ (by assumption)).alloc _)) (first
    | (go_at_call 30; refine (byFirst_any _ _ _).mono ?_; rintro e w1 ⟨rfl, hg1⟩; have SB : GrS W0 w1 := (KB _ (by assumption)).trans hg1)
    | (go_at_call 37; refine (byPassId_any _ _ _).mono ?_; rintro e w2 ⟨rfl, hg2⟩; have SB : GrS W0 w2 := (KB _ (by assumption)).trans hg2)
    | (go_at_call 54; refine (or2_any _ (kFirst x y) (kId x y) _ (new2_0 _ _ _ _) (new2_1 _ _ _ _)).mono ?_; rintro e w3 ⟨rfl, hq3⟩; have SB : GrS W0 w3 := (by rw [hq3]; exact KB _ (by assumption)); clear hq3))
  all_goals
    go_wp2
    go_ret
    exact ⟨rfl, HG.out.trans (by first | exact SB | exact SB.drew)⟩

theorem thenA_byFirst (x y : Pz) (bo bn : Nat) (w : World) (ho : w.cell? ⟨bo, 0, none⟩ = some (.func (.func 30) #[] #[])) (hn : w.cell? ⟨bn, 0, none⟩ = some (.func (.func 37) #[] #[])) :
    Calls Try.prog 53 (#[.agg (pzl x).toArray, .agg (pzl y).toArray] ++ #[.pointer (some ⟨bo, 0, none⟩), .pointer (some ⟨bn, 0, none⟩)]) w fun e w' => e = .returned (.int .i64 (keyA x y)) ∧ GrS w w' := by
  have e : (#[.agg (pzl x).toArray, .agg (pzl y).toArray] ++ #[.pointer (some ⟨bo, 0, none⟩), .pointer (some ⟨bn, 0, none⟩)] : Array Value) = #[.agg #[.int .i64 x.id, .int .i64 x.a, .int .i64 x.b], .agg #[.int .i64 y.id, .int .i64 y.a, .int .i64 y.b], .pointer (some ⟨bo, 0, none⟩), .pointer (some ⟨bn, 0, none⟩)] := rfl
  rw [e]
  exact then_byFirst x y bo bn w ho hn

set_option maxRecDepth 8000 in
set_option maxHeartbeats 4000000 in
theorem then_bySecondFalling (x y : Pz) (bo bn : Nat) (w : World) (ho : w.cell? ⟨bo, 0, none⟩ = some (.func (.func 32) #[] #[])) (hn : w.cell? ⟨bn, 0, none⟩ = some (.func (.func 37) #[] #[])) :
    Calls Try.prog 53 #[.agg #[.int .i64 x.id, .int .i64 x.a, .int .i64 x.b], .agg #[.int .i64 y.id, .int .i64 y.a, .int .i64 y.b], .pointer (some ⟨bo, 0, none⟩), .pointer (some ⟨bn, 0, none⟩)] w fun e w' => e = .returned (.int .i64 (keyB x y)) ∧ GrS w w' := by
  have hbo := World.block_lt_of_cell? w _ ho
  have hbn := World.block_lt_of_cell? w _ hn
  obtain ⟨W0, hW0⟩ : ∃ W0, W0 = (w.alloc (.cells #[.int .i64 x.id, .int .i64 x.a, .int .i64 x.b] 31)).alloc (.cells #[.int .i64 y.id, .int .i64 y.a, .int .i64 y.b] 31) := ⟨_, rfl⟩
  have HG : Hid (GrS w W0) := by rw [hW0]; exact ((GrS.refl w).alloc _).alloc _
  have HKK : Hid (∀ w', GrS W0 w' → GrS W0 w' ∧ w'.cell? ⟨bo, 0, none⟩ = some (.func (.func 32) #[] #[]) ∧ w'.cell? ⟨bn, 0, none⟩ = some (.func (.func 37) #[] #[]) ∧ w'.cell? ⟨w.heap.size, 0, none⟩ = some (.int .i64 x.id) ∧ w'.cell? ⟨w.heap.size, 1, none⟩ = some (.int .i64 x.a) ∧ w'.cell? ⟨w.heap.size, 2, none⟩ = some (.int .i64 x.b) ∧ w'.cell? ⟨w.heap.size + 1, 0, none⟩ = some (.int .i64 y.id) ∧ w'.cell? ⟨w.heap.size + 1, 1, none⟩ = some (.int .i64 y.a) ∧ w'.cell? ⟨w.heap.size + 1, 2, none⟩ = some (.int .i64 y.b)) := by
    intro w' hg
    have z : W0.heap.size = w.heap.size + 2 := by rw [hW0]; simp
    have k : ∀ b j, b < W0.heap.size → w'.cell? ⟨b, j, none⟩ = W0.cell? ⟨b, j, none⟩ := fun b j h => hg.cell (a := ⟨b, j, none⟩) h
    refine ⟨hg, ?_⟩
    rw [k bo _ (by simp at hbo; omega), k bn _ (by simp at hbn; omega), k _ _ (by omega), k _ _ (by omega), k _ _ (by omega), k _ _ (by omega), k _ _ (by omega), k _ _ (by omega)]
    subst hW0
    refine ⟨(World.cell?_alloc_lt _ _ _ (by simp at hbo ⊢; omega)).trans ((World.cell?_alloc_lt _ _ _ (by simp at hbo ⊢; omega)).trans ho), (World.cell?_alloc_lt _ _ _ (by simp at hbn ⊢; omega)).trans ((World.cell?_alloc_lt _ _ _ (by simp at hbn ⊢; omega)).trans hn), ?_⟩
    simp
  have S0 : GrS W0 W0 := GrS.refl _
  have KB : ∀ w', (GrS W0 w' ∧ w'.cell? ⟨bo, 0, none⟩ = some (.func (.func 32) #[] #[]) ∧ w'.cell? ⟨bn, 0, none⟩ = some (.func (.func 37) #[] #[]) ∧ w'.cell? ⟨w.heap.size, 0, none⟩ = some (.int .i64 x.id) ∧ w'.cell? ⟨w.heap.size, 1, none⟩ = some (.int .i64 x.a) ∧ w'.cell? ⟨w.heap.size, 2, none⟩ = some (.int .i64 x.b) ∧ w'.cell? ⟨w.heap.size + 1, 0, none⟩ = some (.int .i64 y.id) ∧ w'.cell? ⟨w.heap.size + 1, 1, none⟩ = some (.int .i64 y.a) ∧ w'.cell? ⟨w.heap.size + 1, 2, none⟩ = some (.int .i64 y.b)) → GrS W0 w' := fun _ h => h.1
  have EC : keyB x y = or2 (kSecond x y) (kId x y) := rfl
  rw [EC]
  clear EC
  go_enter Try.func53, Try.ntmps53
  go_wp2_with fail
  rw [← hW0]
  clear hW0 ho hn
  have K0 := HKK.out _ S0
  go_region_held3 (fun w' => GrS W0 w' ∧ w'.cell? ⟨bo, 0, none⟩ = some (.func (.func 32) #[] #[]) ∧ w'.cell? ⟨bn, 0, none⟩ = some (.func (.func 37) #[] #[]) ∧ w'.cell? ⟨w.heap.size, 0, none⟩ = some (.int .i64 x.id) ∧ w'.cell? ⟨w.heap.size, 1, none⟩ = some (.int .i64 x.a) ∧ w'.cell? ⟨w.heap.size, 2, none⟩ = some (.int .i64 x.b) ∧ w'.cell? ⟨w.heap.size + 1, 0, none⟩ = some (.int .i64 y.id) ∧ w'.cell? ⟨w.heap.size + 1, 1, none⟩ = some (.int .i64 y.a) ∧ w'.cell? ⟨w.heap.size + 1, 2, none⟩ = some (.int .i64 y.b)) ((refine HKK.out _ ?_; first | with_reducible exact SB | with_reducible exact SB.drew | with_reducible exact S0.drew | with_reducible exact S0 | with_reducible exact SB.alloc _ | exact (KB _ (by assumption)).alloc _)) (first
    | (go_at_call 32; refine (bySecondFalling_any _ _ _).mono ?_; rintro e w1 ⟨rfl, hg1⟩; have SB : GrS W0 w1 := (KB _ (by assumption)).trans hg1)
    | (go_at_call 37; refine (byPassId_any _ _ _).mono ?_; rintro e w2 ⟨rfl, hg2⟩; have SB : GrS W0 w2 := (KB _ (by assumption)).trans hg2)
    | (go_at_call 54; refine (or2_any _ (kSecond x y) (kId x y) _ (new2_0 _ _ _ _) (new2_1 _ _ _ _)).mono ?_; rintro e w3 ⟨rfl, hq3⟩; have SB : GrS W0 w3 := (by rw [hq3]; exact KB _ (by assumption)); clear hq3))
  all_goals
    go_wp2
    go_ret
    exact ⟨rfl, HG.out.trans (by first | exact SB | exact SB.drew)⟩

theorem thenA_bySecondFalling (x y : Pz) (bo bn : Nat) (w : World) (ho : w.cell? ⟨bo, 0, none⟩ = some (.func (.func 32) #[] #[])) (hn : w.cell? ⟨bn, 0, none⟩ = some (.func (.func 37) #[] #[])) :
    Calls Try.prog 53 (#[.agg (pzl x).toArray, .agg (pzl y).toArray] ++ #[.pointer (some ⟨bo, 0, none⟩), .pointer (some ⟨bn, 0, none⟩)]) w fun e w' => e = .returned (.int .i64 (keyB x y)) ∧ GrS w w' := by
  have e : (#[.agg (pzl x).toArray, .agg (pzl y).toArray] ++ #[.pointer (some ⟨bo, 0, none⟩), .pointer (some ⟨bn, 0, none⟩)] : Array Value) = #[.agg #[.int .i64 x.id, .int .i64 x.a, .int .i64 x.b], .agg #[.int .i64 y.id, .int .i64 y.a, .int .i64 y.b], .pointer (some ⟨bo, 0, none⟩), .pointer (some ⟨bn, 0, none⟩)] := rfl
  rw [e]
  exact then_bySecondFalling x y bo bn w ho hn

/-- the order 'by .., then by Id', made at w1, sorts -/
theorem sortedByA (w1 w2 : World) (hw2 : w2 = (w1.alloc (.cells #[.func (.func 30) #[] #[]] 43)).alloc (.cells #[.func (.func 37) #[] #[]] 43)) (a : Option Addr) (n cap : Nat) (ls : List Pz) (h : PassS w1 a n cap ls) (hn : n ≤ 1048576) :
    Calls Try.prog 45 #[.func (.func 53) #[] #[.pointer (some ⟨w1.heap.size, 0, none⟩), .pointer (some ⟨w1.heap.size + 1, 0, none⟩)], .slice a n cap] w2 fun e w' =>
      ∃ B ls', e = .returned (.slice (some ⟨B, 0, none⟩) n n) ∧ w1.heap.size + 1 < B ∧ ls'.Perm ls ∧ ls'.length = n ∧ ls'.Pairwise (fun x y => decide (keyA y x < 0) = false) ∧ PassB w' B n n ls' ∧ Below w1.heap.size w1 w' := by
  have hb2 : Below w1.heap.size w1 w2 := by rw [hw2]; exact ((Below.refl _ _).alloc (Nat.le_refl _) _).alloc (by simp) _
  have c0 : w2.cell? ⟨w1.heap.size, 0, none⟩ = some (.func (.func 30) #[] #[]) := by rw [hw2]; simp
  have c1 : w2.cell? ⟨w1.heap.size + 1, 0, none⟩ = some (.func (.func 37) #[] #[]) := by rw [hw2]; simp
  have z2 : w2.heap.size = w1.heap.size + 2 := by rw [hw2]; simp
  clear hw2
  have l0 := World.block_lt_of_cell? w2 _ c0
  have l1 := World.block_lt_of_cell? w2 _ c1
  refine (sortedPass_any keyA swo_keyA 53 #[.pointer (some ⟨w1.heap.size, 0, none⟩), .pointer (some ⟨w1.heap.size + 1, 0, none⟩)] (enters_of Try.func53 (by kernel_rfl) rfl) a n cap ls _ (h.below hb2) hn (fun W hk x y => thenA_byFirst x y w1.heap.size (w1.heap.size + 1) W ((World.cell?_of_block (a := ⟨w1.heap.size, 0, none⟩) (hk _ l0)).trans c0) ((World.cell?_of_block (a := ⟨w1.heap.size + 1, 0, none⟩) (hk _ l1)).trans c1))).mono ?_
  rintro e w3 ⟨B, ys, rfl, hB, hp, hl, hs, hJ, hb3⟩
  exact ⟨B, ys, rfl, by omega, hp, hl, hs, hJ, hb2.then hb3 hb2.size⟩

/-- the order 'by .., then by Id', made at w1, sorts -/
theorem sortedByB (w1 w2 : World) (hw2 : w2 = (w1.alloc (.cells #[.func (.func 32) #[] #[]] 43)).alloc (.cells #[.func (.func 37) #[] #[]] 43)) (a : Option Addr) (n cap : Nat) (ls : List Pz) (h : PassS w1 a n cap ls) (hn : n ≤ 1048576) :
    Calls Try.prog 45 #[.func (.func 53) #[] #[.pointer (some ⟨w1.heap.size, 0, none⟩), .pointer (some ⟨w1.heap.size + 1, 0, none⟩)], .slice a n cap] w2 fun e w' =>
      ∃ B ls', e = .returned (.slice (some ⟨B, 0, none⟩) n n) ∧ w1.heap.size + 1 < B ∧ ls'.Perm ls ∧ ls'.length = n ∧ ls'.Pairwise (fun x y => decide (keyB y x < 0) = false) ∧ PassB w' B n n ls' ∧ Below w1.heap.size w1 w' := by
  have hb2 : Below w1.heap.size w1 w2 := by rw [hw2]; exact ((Below.refl _ _).alloc (Nat.le_refl _) _).alloc (by simp) _
  have c0 : w2.cell? ⟨w1.heap.size, 0, none⟩ = some (.func (.func 32) #[] #[]) := by rw [hw2]; simp
  have c1 : w2.cell? ⟨w1.heap.size + 1, 0, none⟩ = some (.func (.func 37) #[] #[]) := by rw [hw2]; simp
  have z2 : w2.heap.size = w1.heap.size + 2 := by rw [hw2]; simp
  clear hw2
  have l0 := World.block_lt_of_cell? w2 _ c0
  have l1 := World.block_lt_of_cell? w2 _ c1
  refine (sortedPass_any keyB swo_keyB 53 #[.pointer (some ⟨w1.heap.size, 0, none⟩), .pointer (some ⟨w1.heap.size + 1, 0, none⟩)] (enters_of Try.func53 (by kernel_rfl) rfl) a n cap ls _ (h.below hb2) hn (fun W hk x y => thenA_bySecondFalling x y w1.heap.size (w1.heap.size + 1) W ((World.cell?_of_block (a := ⟨w1.heap.size, 0, none⟩) (hk _ l0)).trans c0) ((World.cell?_of_block (a := ⟨w1.heap.size + 1, 0, none⟩) (hk _ l1)).trans c1))).mono ?_
  rintro e w3 ⟨B, ys, rfl, hB, hp, hl, hs, hJ, hb3⟩
  exact ⟨B, ys, rfl, by omega, hp, hl, hs, hJ, hb2.then hb3 hb2.size⟩

end Go.Proofs.Ytkakdodamnnplaa
