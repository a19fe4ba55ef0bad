/- The orders of pieces: by machine or by job, then by From; in the program. -/
import Derived.Test.YtnndkdonbjeejaaPieceAp
import Derived.Test.YtnndkdonbjeejaaPieceSort
import Derived.Deep.RegionHeld3
namespace Go.Proofs.Ytnndkdonbjeejaa
open Go.RowKit Go.Sort

def kMac (x y : Pc) : Int := cmpI x.mac y.mac
def kJob (x y : Pc) : Int := cmpI x.job y.job
def kFr (x y : Pc) : Int := cmpI x.fr y.fr
def kUp (x y : Pc) : Int := cmpI x.up y.up
def keyM : Pc → Pc → Int := keyBy (·.mac)
def keyJ : Pc → Pc → Int := keyBy (·.job)
theorem swo_keyM : SWO (ltOf keyM) := swo_keyBy _
theorem swo_keyJ : SWO (ltOf keyJ) := swo_keyBy _

theorem byPieceMachine_any (x y : Pc) (w : World) :
    Calls Try.prog 40 #[.agg #[.int .i64 x.job, .int .i64 x.mac, .int .i64 x.fr, .int .i64 x.up], .agg #[.int .i64 y.job, .int .i64 y.mac, .int .i64 y.fr, .int .i64 y.up]] w fun e w' => e = .returned (.int .i64 (kMac x y)) ∧ GrS w w' := by
  have hw : ∀ A B, GrS w ((w.alloc A).alloc B) := fun A B => ((GrS.refl w).alloc A).alloc B
  unfold kMac
  go_enter Try.func40, Try.ntmps40
  go_wp2_with (go_at_call 63; refine (compare_any _ _ _).mono ?_; rintro e w' ⟨rfl, rfl⟩)
  go_ret
  exact ⟨rfl, hw _ _⟩

theorem byPieceJob_any (x y : Pc) (w : World) :
    Calls Try.prog 41 #[.agg #[.int .i64 x.job, .int .i64 x.mac, .int .i64 x.fr, .int .i64 x.up], .agg #[.int .i64 y.job, .int .i64 y.mac, .int .i64 y.fr, .int .i64 y.up]] w fun e w' => e = .returned (.int .i64 (kJob x y)) ∧ GrS w w' := by
  have hw : ∀ A B, GrS w ((w.alloc A).alloc B) := fun A B => ((GrS.refl w).alloc A).alloc B
  unfold kJob
  go_enter Try.func41, Try.ntmps41
  go_wp2_with (go_at_call 63; refine (compare_any _ _ _).mono ?_; rintro e w' ⟨rfl, rfl⟩)
  go_ret
  exact ⟨rfl, hw _ _⟩

theorem byPieceFrom_any (x y : Pc) (w : World) :
    Calls Try.prog 61 #[.agg #[.int .i64 x.job, .int .i64 x.mac, .int .i64 x.fr, .int .i64 x.up], .agg #[.int .i64 y.job, .int .i64 y.mac, .int .i64 y.fr, .int .i64 y.up]] w fun e w' => e = .returned (.int .i64 (kFr x y)) ∧ GrS w w' := by
  have hw : ∀ A B, GrS w ((w.alloc A).alloc B) := fun A B => ((GrS.refl w).alloc A).alloc B
  unfold kFr
  go_enter Try.func61, Try.ntmps61
  go_wp2_with (go_at_call 63; refine (compare_any _ _ _).mono ?_; rintro e w' ⟨rfl, rfl⟩)
  go_ret
  exact ⟨rfl, hw _ _⟩

theorem byPieceTo_any (x y : Pc) (w : World) :
    Calls Try.prog 46 #[.agg #[.int .i64 x.job, .int .i64 x.mac, .int .i64 x.fr, .int .i64 x.up], .agg #[.int .i64 y.job, .int .i64 y.mac, .int .i64 y.fr, .int .i64 y.up]] w fun e w' => e = .returned (.int .i64 (kUp x y)) ∧ GrS w w' := by
  have hw : ∀ A B, GrS w ((w.alloc A).alloc B) := fun A B => ((GrS.refl w).alloc A).alloc B
  unfold kUp
  go_enter Try.func46, Try.ntmps46
  go_wp2_with (go_at_call 63; refine (compare_any _ _ _).mono ?_; rintro e w' ⟨rfl, rfl⟩)
  go_ret
  exact ⟨rfl, hw _ _⟩

theorem then_makeC (g g' : Nat) (w : World) :
    Calls Try.prog 60 #[.func (.func g) #[] #[], .func (.func g') #[] #[]] w fun e w' => e = .returned (.func (.func 70) #[] #[.pointer (some ⟨w.heap.size, 0, none⟩), .pointer (some ⟨w.heap.size + 1, 0, none⟩)]) ∧ w' = (w.alloc (.cells #[.func (.func g) #[] #[]] 86)).alloc (.cells #[.func (.func g') #[] #[]] 86) := by
  go_enter Try.func60, Try.ntmps60
  go_wp2
  go_ret
  exact ⟨by simp, rfl⟩

set_option maxRecDepth 8000 in
set_option maxHeartbeats 4000000 in
theorem then_byPieceMachine (x y : Pc) (bo bn : Nat) (w : World) (ho : w.cell? ⟨bo, 0, none⟩ = some (.func (.func 40) #[] #[])) (hn : w.cell? ⟨bn, 0, none⟩ = some (.func (.func 61) #[] #[])) :
    Calls Try.prog 70 #[.agg #[.int .i64 x.job, .int .i64 x.mac, .int .i64 x.fr, .int .i64 x.up], .agg #[.int .i64 y.job, .int .i64 y.mac, .int .i64 y.fr, .int .i64 y.up], .pointer (some ⟨bo, 0, none⟩), .pointer (some ⟨bn, 0, none⟩)] w fun e w' => e = .returned (.int .i64 (keyM x y)) ∧ GrS w w' := by
  have hbo := World.block_lt_of_cell? w _ ho
  have hbn := World.block_lt_of_cell? w _ hn
  obtain ⟨W0, hW0⟩ : ∃ W0, W0 = (w.alloc (.cells #[.int .i64 x.job, .int .i64 x.mac, .int .i64 x.fr, .int .i64 x.up] 56)).alloc (.cells #[.int .i64 y.job, .int .i64 y.mac, .int .i64 y.fr, .int .i64 y.up] 56) := ⟨_, rfl⟩
  have HG : Hid (GrS w W0) := by rw [hW0]; exact ((GrS.refl w).alloc _).alloc _
  have HKK : Hid (∀ w', GrS W0 w' → GrS W0 w' ∧ w'.cell? ⟨bo, 0, none⟩ = some (.func (.func 40) #[] #[]) ∧ w'.cell? ⟨bn, 0, none⟩ = some (.func (.func 61) #[] #[]) ∧ w'.cell? ⟨w.heap.size, 0, none⟩ = some (.int .i64 x.job) ∧ w'.cell? ⟨w.heap.size, 1, none⟩ = some (.int .i64 x.mac) ∧ w'.cell? ⟨w.heap.size, 2, none⟩ = some (.int .i64 x.fr) ∧ w'.cell? ⟨w.heap.size, 3, none⟩ = some (.int .i64 x.up) ∧ w'.cell? ⟨w.heap.size + 1, 0, none⟩ = some (.int .i64 y.job) ∧ w'.cell? ⟨w.heap.size + 1, 1, none⟩ = some (.int .i64 y.mac) ∧ w'.cell? ⟨w.heap.size + 1, 2, none⟩ = some (.int .i64 y.fr) ∧ w'.cell? ⟨w.heap.size + 1, 3, none⟩ = some (.int .i64 y.up)) := by
    intro w' hg
    have z : W0.heap.size = w.heap.size + 2 := by rw [hW0]; simp
    have k : ∀ b j, b < W0.heap.size → w'.cell? ⟨b, j, none⟩ = W0.cell? ⟨b, j, none⟩ := fun b j h => hg.cell (a := ⟨b, j, none⟩) h
    refine ⟨hg, ?_⟩
    rw [k bo _ (by simp at hbo; omega), k bn _ (by simp at hbn; omega), k _ _ (by omega), k _ _ (by omega), k _ _ (by omega), k _ _ (by omega), k _ _ (by omega), k _ _ (by omega), k _ _ (by omega), k _ _ (by omega)]
    subst hW0
    refine ⟨(World.cell?_alloc_lt _ _ _ (by simp at hbo ⊢; omega)).trans ((World.cell?_alloc_lt _ _ _ (by simp at hbo ⊢; omega)).trans ho), (World.cell?_alloc_lt _ _ _ (by simp at hbn ⊢; omega)).trans ((World.cell?_alloc_lt _ _ _ (by simp at hbn ⊢; omega)).trans hn), ?_⟩
    simp
  have S0 : GrS W0 W0 := GrS.refl _
  have KB : ∀ w', (GrS W0 w' ∧ w'.cell? ⟨bo, 0, none⟩ = some (.func (.func 40) #[] #[]) ∧ w'.cell? ⟨bn, 0, none⟩ = some (.func (.func 61) #[] #[]) ∧ w'.cell? ⟨w.heap.size, 0, none⟩ = some (.int .i64 x.job) ∧ w'.cell? ⟨w.heap.size, 1, none⟩ = some (.int .i64 x.mac) ∧ w'.cell? ⟨w.heap.size, 2, none⟩ = some (.int .i64 x.fr) ∧ w'.cell? ⟨w.heap.size, 3, none⟩ = some (.int .i64 x.up) ∧ w'.cell? ⟨w.heap.size + 1, 0, none⟩ = some (.int .i64 y.job) ∧ w'.cell? ⟨w.heap.size + 1, 1, none⟩ = some (.int .i64 y.mac) ∧ w'.cell? ⟨w.heap.size + 1, 2, none⟩ = some (.int .i64 y.fr) ∧ w'.cell? ⟨w.heap.size + 1, 3, none⟩ = some (.int .i64 y.up)) → GrS W0 w' := fun _ h => h.1
  have EC : keyM x y = or2 (kMac x y) (kFr x y) := rfl
  rw [EC]
  clear EC
  go_enter Try.func70, Try.ntmps70
  go_wp2_with fail
  rw [← hW0]
  clear hW0 ho hn
  have K0 := HKK.out _ S0
  go_region_held3 (fun w' => GrS W0 w' ∧ w'.cell? ⟨bo, 0, none⟩ = some (.func (.func 40) #[] #[]) ∧ w'.cell? ⟨bn, 0, none⟩ = some (.func (.func 61) #[] #[]) ∧ w'.cell? ⟨w.heap.size, 0, none⟩ = some (.int .i64 x.job) ∧ w'.cell? ⟨w.heap.size, 1, none⟩ = some (.int .i64 x.mac) ∧ w'.cell? ⟨w.heap.size, 2, none⟩ = some (.int .i64 x.fr) ∧ w'.cell? ⟨w.heap.size, 3, none⟩ = some (.int .i64 x.up) ∧ w'.cell? ⟨w.heap.size + 1, 0, none⟩ = some (.int .i64 y.job) ∧ w'.cell? ⟨w.heap.size + 1, 1, none⟩ = some (.int .i64 y.mac) ∧ w'.cell? ⟨w.heap.size + 1, 2, none⟩ = some (.int .i64 y.fr) ∧ w'.cell? ⟨w.heap.size + 1, 3, none⟩ = some (.int .i64 y.up)) ((refine HKK.out _ ?_; first | with_reducible exact SB | with_reducible exact SB.drew | with_reducible exact S0.drew | with_reducible exact S0 | with_reducible exact SB.alloc _ | exact (KB _ (by assumption)).alloc _)) (first
    | (go_at_call 40; refine (byPieceMachine_any _ _ _).mono ?_; rintro e w1 ⟨rfl, hg1⟩; have SB : GrS W0 w1 := (KB _ (by assumption)).trans hg1)
    | (go_at_call 61; refine (byPieceFrom_any _ _ _).mono ?_; rintro e w2 ⟨rfl, hg2⟩; have SB : GrS W0 w2 := (KB _ (by assumption)).trans hg2)
    | (go_at_call 71; refine (or2_any _ (kMac x y) (kFr x y) _ (new2_0 _ _ _ _) (new2_1 _ _ _ _)).mono ?_; rintro e w3 ⟨rfl, hq3⟩; have SB : GrS W0 w3 := (by rw [hq3]; exact KB _ (by assumption)); clear hq3))
  all_goals
    go_wp2
    go_ret
    exact ⟨rfl, HG.out.trans (by first | exact SB | exact SB.drew)⟩

theorem thenA_byPieceMachine (x y : Pc) (bo bn : Nat) (w : World) (ho : w.cell? ⟨bo, 0, none⟩ = some (.func (.func 40) #[] #[])) (hn : w.cell? ⟨bn, 0, none⟩ = some (.func (.func 61) #[] #[])) :
    Calls Try.prog 70 (#[.agg (pcl x).toArray, .agg (pcl y).toArray] ++ #[.pointer (some ⟨bo, 0, none⟩), .pointer (some ⟨bn, 0, none⟩)]) w fun e w' => e = .returned (.int .i64 (keyM x y)) ∧ GrS w w' := by
  have e : (#[.agg (pcl x).toArray, .agg (pcl y).toArray] ++ #[.pointer (some ⟨bo, 0, none⟩), .pointer (some ⟨bn, 0, none⟩)] : Array Value) = #[.agg #[.int .i64 x.job, .int .i64 x.mac, .int .i64 x.fr, .int .i64 x.up], .agg #[.int .i64 y.job, .int .i64 y.mac, .int .i64 y.fr, .int .i64 y.up], .pointer (some ⟨bo, 0, none⟩), .pointer (some ⟨bn, 0, none⟩)] := rfl
  rw [e]
  exact then_byPieceMachine x y bo bn w ho hn

set_option maxRecDepth 8000 in
set_option maxHeartbeats 4000000 in
theorem then_byPieceJob (x y : Pc) (bo bn : Nat) (w : World) (ho : w.cell? ⟨bo, 0, none⟩ = some (.func (.func 41) #[] #[])) (hn : w.cell? ⟨bn, 0, none⟩ = some (.func (.func 61) #[] #[])) :
    Calls Try.prog 70 #[.agg #[.int .i64 x.job, .int .i64 x.mac, .int .i64 x.fr, .int .i64 x.up], .agg #[.int .i64 y.job, .int .i64 y.mac, .int .i64 y.fr, .int .i64 y.up], .pointer (some ⟨bo, 0, none⟩), .pointer (some ⟨bn, 0, none⟩)] w fun e w' => e = .returned (.int .i64 (keyJ x y)) ∧ GrS w w' := by
  have hbo := World.block_lt_of_cell? w _ ho
  have hbn := World.block_lt_of_cell? w _ hn
  obtain ⟨W0, hW0⟩ : ∃ W0, W0 = (w.alloc (.cells #[.int .i64 x.job, .int .i64 x.mac, .int .i64 x.fr, .int .i64 x.up] 56)).alloc (.cells #[.int .i64 y.job, .int .i64 y.mac, .int .i64 y.fr, .int .i64 y.up] 56) := ⟨_, rfl⟩
  have HG : Hid (GrS w W0) := by rw [hW0]; exact ((GrS.refl w).alloc _).alloc _
  have HKK : Hid (∀ w', GrS W0 w' → GrS W0 w' ∧ w'.cell? ⟨bo, 0, none⟩ = some (.func (.func 41) #[] #[]) ∧ w'.cell? ⟨bn, 0, none⟩ = some (.func (.func 61) #[] #[]) ∧ w'.cell? ⟨w.heap.size, 0, none⟩ = some (.int .i64 x.job) ∧ w'.cell? ⟨w.heap.size, 1, none⟩ = some (.int .i64 x.mac) ∧ w'.cell? ⟨w.heap.size, 2, none⟩ = some (.int .i64 x.fr) ∧ w'.cell? ⟨w.heap.size, 3, none⟩ = some (.int .i64 x.up) ∧ w'.cell? ⟨w.heap.size + 1, 0, none⟩ = some (.int .i64 y.job) ∧ w'.cell? ⟨w.heap.size + 1, 1, none⟩ = some (.int .i64 y.mac) ∧ w'.cell? ⟨w.heap.size + 1, 2, none⟩ = some (.int .i64 y.fr) ∧ w'.cell? ⟨w.heap.size + 1, 3, none⟩ = some (.int .i64 y.up)) := by
    intro w' hg
    have z : W0.heap.size = w.heap.size + 2 := by rw [hW0]; simp
    have k : ∀ b j, b < W0.heap.size → w'.cell? ⟨b, j, none⟩ = W0.cell? ⟨b, j, none⟩ := fun b j h => hg.cell (a := ⟨b, j, none⟩) h
    refine ⟨hg, ?_⟩
    rw [k bo _ (by simp at hbo; omega), k bn _ (by simp at hbn; omega), k _ _ (by omega), k _ _ (by omega), k _ _ (by omega), k _ _ (by omega), k _ _ (by omega), k _ _ (by omega), k _ _ (by omega), k _ _ (by omega)]
    subst hW0
    refine ⟨(World.cell?_alloc_lt _ _ _ (by simp at hbo ⊢; omega)).trans ((World.cell?_alloc_lt _ _ _ (by simp at hbo ⊢; omega)).trans ho), (World.cell?_alloc_lt _ _ _ (by simp at hbn ⊢; omega)).trans ((World.cell?_alloc_lt _ _ _ (by simp at hbn ⊢; omega)).trans hn), ?_⟩
    simp
  have S0 : GrS W0 W0 := GrS.refl _
  have KB : ∀ w', (GrS W0 w' ∧ w'.cell? ⟨bo, 0, none⟩ = some (.func (.func 41) #[] #[]) ∧ w'.cell? ⟨bn, 0, none⟩ = some (.func (.func 61) #[] #[]) ∧ w'.cell? ⟨w.heap.size, 0, none⟩ = some (.int .i64 x.job) ∧ w'.cell? ⟨w.heap.size, 1, none⟩ = some (.int .i64 x.mac) ∧ w'.cell? ⟨w.heap.size, 2, none⟩ = some (.int .i64 x.fr) ∧ w'.cell? ⟨w.heap.size, 3, none⟩ = some (.int .i64 x.up) ∧ w'.cell? ⟨w.heap.size + 1, 0, none⟩ = some (.int .i64 y.job) ∧ w'.cell? ⟨w.heap.size + 1, 1, none⟩ = some (.int .i64 y.mac) ∧ w'.cell? ⟨w.heap.size + 1, 2, none⟩ = some (.int .i64 y.fr) ∧ w'.cell? ⟨w.heap.size + 1, 3, none⟩ = some (.int .i64 y.up)) → GrS W0 w' := fun _ h => h.1
  have EC : keyJ x y = or2 (kJob x y) (kFr x y) := rfl
  rw [EC]
  clear EC
  go_enter Try.func70, Try.ntmps70
  go_wp2_with fail
  rw [← hW0]
  clear hW0 ho hn
  have K0 := HKK.out _ S0
  go_region_held3 (fun w' => GrS W0 w' ∧ w'.cell? ⟨bo, 0, none⟩ = some (.func (.func 41) #[] #[]) ∧ w'.cell? ⟨bn, 0, none⟩ = some (.func (.func 61) #[] #[]) ∧ w'.cell? ⟨w.heap.size, 0, none⟩ = some (.int .i64 x.job) ∧ w'.cell? ⟨w.heap.size, 1, none⟩ = some (.int .i64 x.mac) ∧ w'.cell? ⟨w.heap.size, 2, none⟩ = some (.int .i64 x.fr) ∧ w'.cell? ⟨w.heap.size, 3, none⟩ = some (.int .i64 x.up) ∧ w'.cell? ⟨w.heap.size + 1, 0, none⟩ = some (.int .i64 y.job) ∧ w'.cell? ⟨w.heap.size + 1, 1, none⟩ = some (.int .i64 y.mac) ∧ w'.cell? ⟨w.heap.size + 1, 2, none⟩ = some (.int .i64 y.fr) ∧ w'.cell? ⟨w.heap.size + 1, 3, none⟩ = some (.int .i64 y.up)) ((refine HKK.out _ ?_; first | with_reducible exact SB | with_reducible exact SB.drew | with_reducible exact S0.drew | with_reducible exact S0 | with_reducible exact SB.alloc _ | exact (KB _ (by assumption)).alloc _)) (first
    | (go_at_call 41; refine (byPieceJob_any _ _ _).mono ?_; rintro e w1 ⟨rfl, hg1⟩; have SB : GrS W0 w1 := (KB _ (by assumption)).trans hg1)
    | (go_at_call 61; refine (byPieceFrom_any _ _ _).mono ?_; rintro e w2 ⟨rfl, hg2⟩; have SB : GrS W0 w2 := (KB _ (by assumption)).trans hg2)
    | (go_at_call 71; refine (or2_any _ (kJob x y) (kFr x y) _ (new2_0 _ _ _ _) (new2_1 _ _ _ _)).mono ?_; rintro e w3 ⟨rfl, hq3⟩; have SB : GrS W0 w3 := (by rw [hq3]; exact KB _ (by assumption)); clear hq3))
  all_goals
    go_wp2
    go_ret
    exact ⟨rfl, HG.out.trans (by first | exact SB | exact SB.drew)⟩

theorem thenA_byPieceJob (x y : Pc) (bo bn : Nat) (w : World) (ho : w.cell? ⟨bo, 0, none⟩ = some (.func (.func 41) #[] #[])) (hn : w.cell? ⟨bn, 0, none⟩ = some (.func (.func 61) #[] #[])) :
    Calls Try.prog 70 (#[.agg (pcl x).toArray, .agg (pcl y).toArray] ++ #[.pointer (some ⟨bo, 0, none⟩), .pointer (some ⟨bn, 0, none⟩)]) w fun e w' => e = .returned (.int .i64 (keyJ x y)) ∧ GrS w w' := by
  have e : (#[.agg (pcl x).toArray, .agg (pcl y).toArray] ++ #[.pointer (some ⟨bo, 0, none⟩), .pointer (some ⟨bn, 0, none⟩)] : Array Value) = #[.agg #[.int .i64 x.job, .int .i64 x.mac, .int .i64 x.fr, .int .i64 x.up], .agg #[.int .i64 y.job, .int .i64 y.mac, .int .i64 y.fr, .int .i64 y.up], .pointer (some ⟨bo, 0, none⟩), .pointer (some ⟨bn, 0, none⟩)] := rfl
  rw [e]
  exact then_byPieceJob x y bo bn w ho hn

/-- the order 'by .., then by From', made at w1, sorts -/
theorem sortedByM (w1 w2 : World) (hw2 : w2 = (w1.alloc (.cells #[.func (.func 40) #[] #[]] 86)).alloc (.cells #[.func (.func 61) #[] #[]] 86)) (a : Option Addr) (n cap : Nat) (ls : List Pc) (h : PieceS w1 a n cap ls) (hn : n ≤ 1048576) :
    Calls Try.prog 62 #[.func (.func 70) #[] #[.pointer (some ⟨w1.heap.size, 0, none⟩), .pointer (some ⟨w1.heap.size + 1, 0, none⟩)], .slice a n cap] w2 fun e w' =>
      ∃ B ls', e = .returned (.slice (some ⟨B, 0, none⟩) n n) ∧ w1.heap.size + 1 < B ∧ ls'.Perm ls ∧ ls'.length = n ∧ ls'.Pairwise (fun x y => decide (keyM y x < 0) = false) ∧ PieceB w' B n n ls' ∧ Below w1.heap.size w1 w' := by
  have hb2 : Below w1.heap.size w1 w2 := by rw [hw2]; exact ((Below.refl _ _).alloc (Nat.le_refl _) _).alloc (by simp) _
  have c0 : w2.cell? ⟨w1.heap.size, 0, none⟩ = some (.func (.func 40) #[] #[]) := by rw [hw2]; simp
  have c1 : w2.cell? ⟨w1.heap.size + 1, 0, none⟩ = some (.func (.func 61) #[] #[]) := by rw [hw2]; simp
  have z2 : w2.heap.size = w1.heap.size + 2 := by rw [hw2]; simp
  clear hw2
  have l0 := World.block_lt_of_cell? w2 _ c0
  have l1 := World.block_lt_of_cell? w2 _ c1
  refine (sortedPiece_any keyM swo_keyM 70 #[.pointer (some ⟨w1.heap.size, 0, none⟩), .pointer (some ⟨w1.heap.size + 1, 0, none⟩)] (enters_of Try.func70 (by kernel_rfl) rfl) a n cap ls _ (h.below hb2) hn (fun W hk x y => thenA_byPieceMachine x y w1.heap.size (w1.heap.size + 1) W ((World.cell?_of_block (a := ⟨w1.heap.size, 0, none⟩) (hk _ l0)).trans c0) ((World.cell?_of_block (a := ⟨w1.heap.size + 1, 0, none⟩) (hk _ l1)).trans c1))).mono ?_
  rintro e w3 ⟨B, ys, rfl, hB, hp, hl, hs, hJ, hb3⟩
  exact ⟨B, ys, rfl, by omega, hp, hl, hs, hJ, hb2.then hb3 hb2.size⟩

/-- the order 'by .., then by From', made at w1, sorts -/
theorem sortedByJ (w1 w2 : World) (hw2 : w2 = (w1.alloc (.cells #[.func (.func 41) #[] #[]] 86)).alloc (.cells #[.func (.func 61) #[] #[]] 86)) (a : Option Addr) (n cap : Nat) (ls : List Pc) (h : PieceS w1 a n cap ls) (hn : n ≤ 1048576) :
    Calls Try.prog 62 #[.func (.func 70) #[] #[.pointer (some ⟨w1.heap.size, 0, none⟩), .pointer (some ⟨w1.heap.size + 1, 0, none⟩)], .slice a n cap] w2 fun e w' =>
      ∃ B ls', e = .returned (.slice (some ⟨B, 0, none⟩) n n) ∧ w1.heap.size + 1 < B ∧ ls'.Perm ls ∧ ls'.length = n ∧ ls'.Pairwise (fun x y => decide (keyJ y x < 0) = false) ∧ PieceB w' B n n ls' ∧ Below w1.heap.size w1 w' := by
  have hb2 : Below w1.heap.size w1 w2 := by rw [hw2]; exact ((Below.refl _ _).alloc (Nat.le_refl _) _).alloc (by simp) _
  have c0 : w2.cell? ⟨w1.heap.size, 0, none⟩ = some (.func (.func 41) #[] #[]) := by rw [hw2]; simp
  have c1 : w2.cell? ⟨w1.heap.size + 1, 0, none⟩ = some (.func (.func 61) #[] #[]) := by rw [hw2]; simp
  have z2 : w2.heap.size = w1.heap.size + 2 := by rw [hw2]; simp
  clear hw2
  have l0 := World.block_lt_of_cell? w2 _ c0
  have l1 := World.block_lt_of_cell? w2 _ c1
  refine (sortedPiece_any keyJ swo_keyJ 70 #[.pointer (some ⟨w1.heap.size, 0, none⟩), .pointer (some ⟨w1.heap.size + 1, 0, none⟩)] (enters_of Try.func70 (by kernel_rfl) rfl) a n cap ls _ (h.below hb2) hn (fun W hk x y => thenA_byPieceJob x y w1.heap.size (w1.heap.size + 1) W ((World.cell?_of_block (a := ⟨w1.heap.size, 0, none⟩) (hk _ l0)).trans c0) ((World.cell?_of_block (a := ⟨w1.heap.size + 1, 0, none⟩) (hk _ l1)).trans c1))).mono ?_
  rintro e w3 ⟨B, ys, rfl, hB, hp, hl, hs, hJ, hb3⟩
  exact ⟨B, ys, rfl, by omega, hp, hl, hs, hJ, hb2.then hb3 hb2.size⟩

end Go.Proofs.Ytnndkdonbjeejaa
