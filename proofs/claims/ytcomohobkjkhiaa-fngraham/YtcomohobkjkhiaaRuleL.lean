/- Longest of the program. -/
import Derived.Test.YtcomohobkjkhiaaRuls
import Derived.Test.YtcomohobkjkhiaaSels
namespace Go.Proofs.Ytcomohobkjkhiaa
open Go.RowKit Go.Sort

def kbyLongest (x y : Jb) : Int := cmpI y.long x.long
def cbyLongest (x y : Jb) : Int := or2 (kbyLongest x y) (cmpI x.id y.id)
def ltLongest (x y : Jb) : Bool := ltK (fun j => -j.long) x y
theorem lt_cbyLongest : (fun x y : RJ => decide (cbyLongest x.1 y.1 < 0)) = fun x y => ltLongest x.1 y.1 := by
  funext x y
  refine (or2_lt _ _ _ _).trans ?_
  apply decide_eq_decide.2
  show (y.1.long < x.1.long ∨ (y.1.long = x.1.long ∧ x.1.id < y.1.id)) ↔ (-x.1.long < -y.1.long ∨ (-x.1.long = -y.1.long ∧ x.1.id < y.1.id))
  omega
theorem swo_cbyLongest : SWO (ltOf fun x y : RJ => cbyLongest x.1 y.1) := by
  have : (ltOf fun x y : RJ => cbyLongest x.1 y.1) = fun x y => ltLongest x.1 y.1 := lt_cbyLongest
  rw [this]; exact SWO.sub (swo_ltK _)
theorem antiLongest : Anti ltLongest := fun ls h a ha b hb h1 h2 => by
  unfold ltLongest ltK at h1 h2
  simp only [decide_eq_false_iff_not] at h1 h2
  exact h.inj ha hb (by omega)
theorem ltLongest_long {x y : Jb} (h : ltLongest y x = false) : y.long ≤ x.long := by
  unfold ltLongest ltK at h
  simp only [decide_eq_false_iff_not] at h
  omega

theorem byLongest_any (x y : Jb) (w : World) :
    Calls Try.prog 30 #[.agg #[.int .i64 x.id, .int .i64 x.cores, .int .i64 x.long, .int .i64 x.due, .int .i64 x.wt, .int .i64 x.rank, .int .i64 x.at_], .agg #[.int .i64 y.id, .int .i64 y.cores, .int .i64 y.long, .int .i64 y.due, .int .i64 y.wt, .int .i64 y.rank, .int .i64 y.at_]] w fun e w' => e = .returned (.int .i64 (kbyLongest x y)) ∧ GrS w w' := by
  have e : kbyLongest x y = kbyLong y x := rfl
  rw [e]
  go_enter Try.func30, Try.ntmps30
  go_wp2_with (go_at_call 52; refine (byLong_any y x _).mono ?_; rintro e w' ⟨rfl, hg⟩)
  go_ret
  exact ⟨rfl, (((GrS.refl w).alloc _).alloc _).trans hg⟩

set_option maxRecDepth 8000 in
set_option maxHeartbeats 4000000 in
theorem then_byLongest (x y : Jb) (_hx : jok x = true) (_hy : jok y = true) (bo bn : Nat) (w : World) (ho : w.cell? ⟨bo, 0, none⟩ = some (.func (.func 30) #[] #[])) (hn : w.cell? ⟨bn, 0, none⟩ = some (.func (.func 50) #[] #[])) :
    Calls Try.prog 62 #[.agg #[.int .i64 x.id, .int .i64 x.cores, .int .i64 x.long, .int .i64 x.due, .int .i64 x.wt, .int .i64 x.rank, .int .i64 x.at_], .agg #[.int .i64 y.id, .int .i64 y.cores, .int .i64 y.long, .int .i64 y.due, .int .i64 y.wt, .int .i64 y.rank, .int .i64 y.at_], .pointer (some ⟨bo, 0, none⟩), .pointer (some ⟨bn, 0, none⟩)] w fun e w' => e = .returned (.int .i64 (cbyLongest x y)) ∧ GrS w w' := by
  have hbo := World.block_lt_of_cell? w _ ho
  have hbn := World.block_lt_of_cell? w _ hn
  obtain ⟨W0, hW0⟩ : ∃ W0, W0 = (w.alloc (.cells #[.int .i64 x.id, .int .i64 x.cores, .int .i64 x.long, .int .i64 x.due, .int .i64 x.wt, .int .i64 x.rank, .int .i64 x.at_] 46)).alloc (.cells #[.int .i64 y.id, .int .i64 y.cores, .int .i64 y.long, .int .i64 y.due, .int .i64 y.wt, .int .i64 y.rank, .int .i64 y.at_] 46) := ⟨_, rfl⟩
  have HG : Hid (GrS w W0) := by rw [hW0]; exact ((GrS.refl w).alloc _).alloc _
  have HKK : Hid (∀ w', GrS W0 w' → GrS W0 w' ∧ w'.cell? ⟨bo, 0, none⟩ = some (.func (.func 30) #[] #[]) ∧ w'.cell? ⟨bn, 0, none⟩ = some (.func (.func 50) #[] #[]) ∧ w'.cell? ⟨w.heap.size, 0, none⟩ = some (.int .i64 x.id) ∧ w'.cell? ⟨w.heap.size, 1, none⟩ = some (.int .i64 x.cores) ∧ w'.cell? ⟨w.heap.size, 2, none⟩ = some (.int .i64 x.long) ∧ w'.cell? ⟨w.heap.size, 3, none⟩ = some (.int .i64 x.due) ∧ w'.cell? ⟨w.heap.size, 4, none⟩ = some (.int .i64 x.wt) ∧ w'.cell? ⟨w.heap.size, 5, none⟩ = some (.int .i64 x.rank) ∧ w'.cell? ⟨w.heap.size, 6, none⟩ = some (.int .i64 x.at_) ∧ w'.cell? ⟨w.heap.size + 1, 0, none⟩ = some (.int .i64 y.id) ∧ w'.cell? ⟨w.heap.size + 1, 1, none⟩ = some (.int .i64 y.cores) ∧ w'.cell? ⟨w.heap.size + 1, 2, none⟩ = some (.int .i64 y.long) ∧ w'.cell? ⟨w.heap.size + 1, 3, none⟩ = some (.int .i64 y.due) ∧ w'.cell? ⟨w.heap.size + 1, 4, none⟩ = some (.int .i64 y.wt) ∧ w'.cell? ⟨w.heap.size + 1, 5, none⟩ = some (.int .i64 y.rank) ∧ w'.cell? ⟨w.heap.size + 1, 6, none⟩ = some (.int .i64 y.at_)) := by
    intro w' hg
    have z : W0.heap.size = w.heap.size + 2 := by rw [hW0]; simp
    have k : ∀ b j, b < W0.heap.size → w'.cell? ⟨b, j, none⟩ = W0.cell? ⟨b, j, none⟩ := fun b j h => hg.cell (a := ⟨b, j, none⟩) h
    refine ⟨hg, ?_⟩
    rw [k bo _ (by simp at hbo; omega), k bn _ (by simp at hbn; omega), k _ _ (by omega), k _ _ (by omega), k _ _ (by omega), k _ _ (by omega), k _ _ (by omega), k _ _ (by omega), k _ _ (by omega), k _ _ (by omega), k _ _ (by omega), k _ _ (by omega), k _ _ (by omega), k _ _ (by omega), k _ _ (by omega), k _ _ (by omega)]
    subst hW0
    refine ⟨(World.cell?_alloc_lt _ _ _ (by simp at hbo ⊢; omega)).trans ((World.cell?_alloc_lt _ _ _ (by simp at hbo ⊢; omega)).trans ho), (World.cell?_alloc_lt _ _ _ (by simp at hbn ⊢; omega)).trans ((World.cell?_alloc_lt _ _ _ (by simp at hbn ⊢; omega)).trans hn), ?_⟩
    simp
  have S0 : GrS W0 W0 := GrS.refl _
  have KB : ∀ w', (GrS W0 w' ∧ w'.cell? ⟨bo, 0, none⟩ = some (.func (.func 30) #[] #[]) ∧ w'.cell? ⟨bn, 0, none⟩ = some (.func (.func 50) #[] #[]) ∧ w'.cell? ⟨w.heap.size, 0, none⟩ = some (.int .i64 x.id) ∧ w'.cell? ⟨w.heap.size, 1, none⟩ = some (.int .i64 x.cores) ∧ w'.cell? ⟨w.heap.size, 2, none⟩ = some (.int .i64 x.long) ∧ w'.cell? ⟨w.heap.size, 3, none⟩ = some (.int .i64 x.due) ∧ w'.cell? ⟨w.heap.size, 4, none⟩ = some (.int .i64 x.wt) ∧ w'.cell? ⟨w.heap.size, 5, none⟩ = some (.int .i64 x.rank) ∧ w'.cell? ⟨w.heap.size, 6, none⟩ = some (.int .i64 x.at_) ∧ w'.cell? ⟨w.heap.size + 1, 0, none⟩ = some (.int .i64 y.id) ∧ w'.cell? ⟨w.heap.size + 1, 1, none⟩ = some (.int .i64 y.cores) ∧ w'.cell? ⟨w.heap.size + 1, 2, none⟩ = some (.int .i64 y.long) ∧ w'.cell? ⟨w.heap.size + 1, 3, none⟩ = some (.int .i64 y.due) ∧ w'.cell? ⟨w.heap.size + 1, 4, none⟩ = some (.int .i64 y.wt) ∧ w'.cell? ⟨w.heap.size + 1, 5, none⟩ = some (.int .i64 y.rank) ∧ w'.cell? ⟨w.heap.size + 1, 6, none⟩ = some (.int .i64 y.at_)) → GrS W0 w' := fun _ h => h.1
  go_enter Try.func62, Try.ntmps62
  go_wp2_with fail
  rw [← hW0]
  clear hW0 ho hn
  have K0 := HKK.out _ S0
  go_region_held3 (fun w' => GrS W0 w' ∧ w'.cell? ⟨bo, 0, none⟩ = some (.func (.func 30) #[] #[]) ∧ w'.cell? ⟨bn, 0, none⟩ = some (.func (.func 50) #[] #[]) ∧ w'.cell? ⟨w.heap.size, 0, none⟩ = some (.int .i64 x.id) ∧ w'.cell? ⟨w.heap.size, 1, none⟩ = some (.int .i64 x.cores) ∧ w'.cell? ⟨w.heap.size, 2, none⟩ = some (.int .i64 x.long) ∧ w'.cell? ⟨w.heap.size, 3, none⟩ = some (.int .i64 x.due) ∧ w'.cell? ⟨w.heap.size, 4, none⟩ = some (.int .i64 x.wt) ∧ w'.cell? ⟨w.heap.size, 5, none⟩ = some (.int .i64 x.rank) ∧ w'.cell? ⟨w.heap.size, 6, none⟩ = some (.int .i64 x.at_) ∧ w'.cell? ⟨w.heap.size + 1, 0, none⟩ = some (.int .i64 y.id) ∧ w'.cell? ⟨w.heap.size + 1, 1, none⟩ = some (.int .i64 y.cores) ∧ w'.cell? ⟨w.heap.size + 1, 2, none⟩ = some (.int .i64 y.long) ∧ w'.cell? ⟨w.heap.size + 1, 3, none⟩ = some (.int .i64 y.due) ∧ w'.cell? ⟨w.heap.size + 1, 4, none⟩ = some (.int .i64 y.wt) ∧ w'.cell? ⟨w.heap.size + 1, 5, none⟩ = some (.int .i64 y.rank) ∧ w'.cell? ⟨w.heap.size + 1, 6, none⟩ = some (.int .i64 y.at_)) ((refine HKK.out _ ?_; first | with_reducible exact SB | with_reducible exact SB.drew | with_reducible exact S0.drew | with_reducible exact S0 | with_reducible exact SB.alloc _ | exact (KB _ (by assumption)).alloc _)) (first
    | (go_at_call 30; refine (byLongest_any _ _ _).mono ?_; rintro e w1 ⟨rfl, hg1⟩; have SB : GrS W0 w1 := (KB _ (by assumption)).trans hg1)
    | (go_at_call 50; refine (byId_any _ _ _).mono ?_; rintro e w2 ⟨rfl, hg2⟩; have SB : GrS W0 w2 := (KB _ (by assumption)).trans hg2)
    | (go_at_call 59; refine (or2_any _ (kbyLongest x y) (cmpI x.id y.id) _ (new2_0 _ _ _ _) (new2_1 _ _ _ _)).mono ?_; rintro e w3 ⟨rfl, hq3⟩; have SB : GrS W0 w3 := (by rw [hq3]; exact KB _ (by assumption)); clear hq3))
  all_goals
    go_wp2
    go_ret
    exact ⟨rfl, HG.out.trans (by first | exact SB | exact SB.drew)⟩

theorem thenA_byLongest (x y : Jb) (hx : jok x = true) (hy : jok y = true) (bo bn : Nat) (w : World) (ho : w.cell? ⟨bo, 0, none⟩ = some (.func (.func 30) #[] #[])) (hn : w.cell? ⟨bn, 0, none⟩ = some (.func (.func 50) #[] #[])) :
    Calls Try.prog 62 (#[.agg (jl x).toArray, .agg (jl y).toArray] ++ #[.pointer (some ⟨bo, 0, none⟩), .pointer (some ⟨bn, 0, none⟩)]) w fun e w' => e = .returned (.int .i64 (cbyLongest x y)) ∧ GrS w w' := by
  have e : (#[.agg (jl x).toArray, .agg (jl y).toArray] ++ #[.pointer (some ⟨bo, 0, none⟩), .pointer (some ⟨bn, 0, none⟩)] : Array Value) = #[.agg #[.int .i64 x.id, .int .i64 x.cores, .int .i64 x.long, .int .i64 x.due, .int .i64 x.wt, .int .i64 x.rank, .int .i64 x.at_], .agg #[.int .i64 y.id, .int .i64 y.cores, .int .i64 y.long, .int .i64 y.due, .int .i64 y.wt, .int .i64 y.rank, .int .i64 y.at_], .pointer (some ⟨bo, 0, none⟩), .pointer (some ⟨bn, 0, none⟩)] := rfl
  rw [e]
  exact then_byLongest x y hx hy bo bn w ho hn

theorem pw_byLongest {ys : List Jb} (hok : ∀ x ∈ ys, jok x = true) (h : ys.Pairwise (fun x y => decide (cbyLongest y x < 0) = false)) : ys.Pairwise (fun x y => ltLongest y x = false) :=
  List.Pairwise.imp_of_mem (fun {x y} hx hy h1 => (congrFun (congrFun lt_cbyLongest ⟨y, hok y hy⟩) ⟨x, hok x hx⟩).symm.trans h1) h

set_option maxRecDepth 8000 in
set_option maxHeartbeats 1000000 in
theorem implLongest_yes (a : Option Addr) (n cap : Nat) (ls : List Jb) (w : World) (h : JobS w a n cap ls) (hq : jsB ls = true) :
    Calls Try.prog 8 #[.slice a n cap] w fun e w' => ∃ B ys, e = .returned (.slice (some ⟨B, 0, none⟩) n n) ∧ w.heap.size ≤ B ∧ JobB w' B n n ys ∧ ys.length = n ∧ IsBy ltLongest ls ys ∧ Below w.heap.size w w' := by
  have hn := (jsB_t hq).n
  have hlen := h.len
  have hok := js_all hq
  have CR : Calls Try.prog 29 #[.slice a n cap, .func (.func 30) #[] #[]] w fun e w' => ∃ B ys, e = .returned (.slice (some ⟨B, 0, none⟩) n n) ∧ w.heap.size ≤ B ∧ JobB w' B n n ys ∧ ys.length = n ∧ IsBy ltLongest ls ys ∧ Below w.heap.size w w' := by
    go_enter Try.func29, Try.ntmps29
    go_wp2_with fail
    refine (implJobsOk_any a n cap ls _ h).mono ?_
    rw [hq]
    rintro e w1 ⟨rfl, hb1⟩
    go_wp2_with fail
    refine (then_make _ _ _).mono ?_
    rintro e w2 ⟨rfl, hw2⟩
    have hb2 : Below w1.heap.size w1 w2 := by rw [hw2]; exact ((Below.refl _ _).alloc (Nat.le_refl _) _).alloc (by simp) _
    have c0 : w2.cell? ⟨w1.heap.size, 0, none⟩ = some (.func (.func 30) #[] #[]) := by rw [hw2]; simp
    have c1 : w2.cell? ⟨w1.heap.size + 1, 0, none⟩ = some (.func (.func 50) #[] #[]) := by rw [hw2]; simp
    clear hw2
    have hb12 := hb1.then hb2 hb1.size
    have z1 := hb1.size
    have z2 := hb2.size
    have l0 := World.block_lt_of_cell? w2 _ c0
    have l1 := World.block_lt_of_cell? w2 _ c1
    go_wp2_with fail
    refine (sortedBy_any cbyLongest swo_cbyLongest 62 #[.pointer (some ⟨w1.heap.size, 0, none⟩), .pointer (some ⟨w1.heap.size + 1, 0, none⟩)] (enters_of Try.func62 (by kernel_rfl) rfl) a n cap ls _ (h.below hb12) hok (by omega) (fun W hk x y hx hy => thenA_byLongest x y hx hy w1.heap.size (w1.heap.size + 1) W ((World.cell?_of_block (a := ⟨w1.heap.size, 0, none⟩) (hk _ l0)).trans c0) ((World.cell?_of_block (a := ⟨w1.heap.size + 1, 0, none⟩) (hk _ l1)).trans c1))).mono ?_
    rintro e w3 ⟨B, ys, rfl, hB, hp, hl, hs, hJ, hb3⟩
    go_wp2
    go_ret
    exact ⟨B, ys, rfl, by omega, hJ, hl, Or.inr ⟨hq, hp, pw_byLongest (fun x hx => hok x (hp.subset hx)) hs⟩, hb12.then hb3 hb12.size⟩
  go_enter Try.func8, Try.ntmps8
  go_wp2_with (go_at_call 29; refine CR.mono ?_; rintro e w1 ⟨B, ys, rfl, hr⟩)
  go_ret
  exact ⟨B, ys, rfl, hr⟩

set_option maxRecDepth 8000 in
theorem implLongest_no (a : Option Addr) (n cap : Nat) (ls : List Jb) (w : World) (h : JobS w a n cap ls) (hq : jsB ls = false) :
    Calls Try.prog 8 #[.slice a n cap] w fun e w' => e = .returned (.slice none 0 0) ∧ Below w.heap.size w w' := by
  have CR : Calls Try.prog 29 #[.slice a n cap, .func (.func 30) #[] #[]] w fun e w' => e = .returned (.slice none 0 0) ∧ Below w.heap.size w w' := by
    go_enter Try.func29, Try.ntmps29
    go_wp2_with fail
    refine (implJobsOk_any a n cap ls _ h).mono ?_
    rw [hq]
    rintro e w1 ⟨rfl, hb1⟩
    go_wp2
    go_ret
    exact ⟨rfl, hb1⟩
  go_enter Try.func8, Try.ntmps8
  go_wp2_with (go_at_call 29; refine CR.mono ?_; rintro e w1 ⟨rfl, hr⟩)
  go_ret
  exact ⟨rfl, hr⟩

end Go.Proofs.Ytcomohobkjkhiaa
