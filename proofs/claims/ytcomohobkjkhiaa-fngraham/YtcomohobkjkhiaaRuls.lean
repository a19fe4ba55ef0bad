/- Several texts in one. -/
import Derived.Test.YtcomohobkjkhiaaJobQI
import Derived.Test.YtcomohobkjkhiaaRules
import Derived.Deep.RegionHeld3
/- The rules of chapter 5 in the program: what they compare, and a sort by a closure. -/
namespace Go.Proofs.Ytcomohobkjkhiaa
open Go.RowKit Go.Sort

theorem byLong_any (x y : Jb) (w : World) :
    Calls Try.prog 52 #[.agg #[.int .i64 x.id, .int .i64 x.cores, .int .i64 x.long, .int .i64 x.due, .int .i64 x.wt, .int .i64 x.rank, .int .i64 x.at_], .agg #[.int .i64 y.id, .int .i64 y.cores, .int .i64 y.long, .int .i64 y.due, .int .i64 y.wt, .int .i64 y.rank, .int .i64 y.at_]] w fun e w' => e = .returned (.int .i64 (kbyLong x y)) ∧ GrS w w' := by
  have hw : ∀ A B, GrS w ((w.alloc A).alloc B) := fun A B => ((GrS.refl w).alloc A).alloc B
  unfold kbyLong
  go_enter Try.func52, Try.ntmps52
  go_wp2_with (go_at_call 57; refine (compare_any _ _ _).mono ?_; rintro e w' ⟨rfl, rfl⟩)
  go_ret
  exact ⟨rfl, hw _ _⟩

theorem byId_any (x y : Jb) (w : World) :
    Calls Try.prog 50 #[.agg #[.int .i64 x.id, .int .i64 x.cores, .int .i64 x.long, .int .i64 x.due, .int .i64 x.wt, .int .i64 x.rank, .int .i64 x.at_], .agg #[.int .i64 y.id, .int .i64 y.cores, .int .i64 y.long, .int .i64 y.due, .int .i64 y.wt, .int .i64 y.rank, .int .i64 y.at_]] w fun e w' => e = .returned (.int .i64 (cmpI x.id y.id)) ∧ GrS w w' := by
  have hw : ∀ A B, GrS w ((w.alloc A).alloc B) := fun A B => ((GrS.refl w).alloc A).alloc B
  go_enter Try.func50, Try.ntmps50
  go_wp2_with (go_at_call 57; refine (compare_any _ _ _).mono ?_; rintro e w' ⟨rfl, rfl⟩)
  go_ret
  exact ⟨rfl, hw _ _⟩

theorem worth_bd {x y : Jb} (hx : jok x = true) (hy : jok y = true) : 0 ≤ y.wt * x.long ∧ y.wt * x.long ≤ 10000000 := by
  obtain ⟨a1, a2, _⟩ := jok_bd hx
  obtain ⟨_, _, _, _, b1, b2⟩ := jok_bd hy
  refine ⟨Int.mul_nonneg b1 (by omega), ?_⟩
  have h1 : y.wt * x.long ≤ 1000 * x.long := Int.mul_le_mul_of_nonneg_right b2 (by omega)
  omega

theorem then_make (g g' : Nat) (w : World) :
    Calls Try.prog 49 #[.func (.func g) #[] #[], .func (.func g') #[] #[]] w fun e w' => e = .returned (.func (.func 62) #[] #[.pointer (some ⟨w.heap.size, 0, none⟩), .pointer (some ⟨w.heap.size + 1, 0, none⟩)]) ∧ w' = (w.alloc (.cells #[.func (.func g) #[] #[]] 72)).alloc (.cells #[.func (.func g') #[] #[]] 72) := by
  go_enter Try.func49, Try.ntmps49
  go_wp2
  go_ret
  exact ⟨by simp, rfl⟩

/-! ### a sort by whatever compares right jobs -/
theorem flatK_sub [Inhabited RJ] [Inhabited Jb] (d : Array RJ) : flatK (fun x : RJ => jl x.1) 7 d = flatK jl 7 (d.map (·.1)) := by
  refine ext_get! (by simp) fun t ht => ?_
  have ht' : t < d.size * 7 := by simpa using ht
  rw [get_flatK _ _ _ _ ht', get_flatK _ _ _ _ (by simpa using ht')]
  have h1 : t / 7 < d.size := by omega
  rw [getElem!_pos d _ h1, getElem!_pos (d.map (·.1)) _ (by simpa using h1)]
  simp
theorem sortW_sub [Inhabited RJ] [Inhabited Jb] (w : World) (B q : Nat) (d : Array RJ) (os : Array Obj) : sortWorldK (fun x : RJ => jl x.1) 7 w B 0 q d os = sortWorldK jl 7 w B 0 q (d.map (·.1)) os := by
  unfold sortWorldK putRowK; rw [flatK_sub]
theorem sortW_keep [Inhabited Jb] (w : World) (B q : Nat) (d : Array Jb) (os : Array Obj) (hB : B < w.heap.size) : Below B w (sortWorldK jl 7 w B 0 q d os) ∧ ∀ k, k < w.heap.size → k ≠ B → (sortWorldK jl 7 w B 0 q d os).heap[k]? = w.heap[k]? := by
  have e : (sortWorldK jl 7 w B 0 q d os).heap = w.heap.modify B (onCells (putCells id 0 (flatK jl 7 d))) ++ os := rfl
  have h : ∀ k, k < w.heap.size → k ≠ B → (sortWorldK jl 7 w B 0 q d os).heap[k]? = w.heap[k]? := fun k hk hne => by
    rw [e, Array.getElem?_append, if_pos (by simpa using hk), Array.getElem?_modify, if_neg (Ne.symm hne)]
  exact ⟨⟨rfl, rfl, rfl, by rw [e]; simp, fun k hk => h k (by omega) (by omega)⟩, h⟩

theorem attach_map : ∀ (ls : List Jb) (h : ∀ x ∈ ls, jok x = true), (ls.attachWith _ h).map (fun x : RJ => x.1) = ls := fun ls h => by simp

set_option maxHeartbeats 1000000 in
theorem sortBy_any (c : Jb → Jb → Int) (hS : SWO (ltOf fun x y : RJ => c x.1 y.1)) (g : Nat) (cb : Array Value) (eg : ∀ args w, (callFunc g args).run Try.prog w = .ok (.enter g args) w) (B n : Nat) (ls : List Jb) (w : World) (h : JobB w B n n ls) (hl : ls.length = n) (hok : ∀ x ∈ ls, jok x = true) (hn : n ≤ 1048576)
    (hc : ∀ W, (∀ k, k < w.heap.size → k ≠ B → W.heap[k]? = w.heap[k]?) → ∀ x y : Jb, jok x = true → jok y = true → Calls Try.prog g (#[.agg (jl x).toArray, .agg (jl y).toArray] ++ cb) W fun e w' => e = .returned (.int .i64 (c x y)) ∧ GrS W w') :
    Calls Try.prog 63 #[.slice (some ⟨B, 0, none⟩) n n, .func (.func g) #[] cb] w fun e w' =>
      e = .returned (.tuple #[]) ∧ ∃ ls', ls'.Perm ls ∧ ls'.length = n ∧ ls'.Pairwise (fun x y => decide (c y x < 0) = false) ∧ JobB w' B n n ls' ∧ Below B w w' := by
  haveI : Inhabited Jb := ⟨jb0⟩
  haveI : Inhabited RJ := ⟨⟨⟨1, 1, 1, 0, 0, 0, 0⟩, by decide⟩⟩
  let d : Array RJ := (ls.attachWith _ hok).toArray
  have hd : d.map (fun x : RJ => x.1) = ls.toArray := by simp [d]
  have hsz : d.size = n := by simp [d, hl]
  have hH : HoldsK (fun x : RJ => jl x.1) 7 w B 0 d := by
    unfold HoldsK; rw [flatK_sub, hd]; exact h.holds hl
  have hS := AnyQ.slices_SortFunc Try.sortJob 7 (fun _ => by kernel_rfl) (fun _ => by kernel_rfl) (fun x : RJ => jl x.1) (fun x => jl_len x.1) (fun x => jl_one x.1) (fun x y : RJ => c x.1 y.1) hS g cb B 0 n d w eg
    (fun m os dk _ x y => by
      rw [sortW_sub]
      exact hc _ (sortW_keep w B m _ os h.lt).2 x.1 y.1 x.2 y.2) hH h.lt (by omega)
  change Calls Try.prog 63 _ _ _ at hS
  rw [hsz] at hS
  refine hS.mono ?_
  rintro e w' ⟨rfl, d', q, os, ⟨hp1, _, hp3⟩, hso, rfl⟩
  have hd' : d'.size = n := by omega
  have hdm : (d'.map (fun x : RJ => x.1)).size = n := by simpa using hd'
  rw [sortW_sub]
  refine ⟨rfl, (d'.map (fun x : RJ => x.1)).toList, ?_, by simpa using hd', ?_, sorted_blk h hl hdm, (sortW_keep w B q _ os h.lt).1⟩
  · rw [← hd'] at hp3
    have e1 : (d'.extract 0 d'.size).toList = d'.toList := by simp
    have e2 : (d.extract 0 d'.size).toList = d.toList := by rw [hd', ← hsz]; simp
    rw [e1, e2] at hp3
    have := hp3.map (fun x : RJ => x.1)
    have e3 : d.toList.map (fun x : RJ => x.1) = ls := by simp [d]
    rw [e3] at this
    simpa using this
  · rw [List.pairwise_iff_getElem]
    intro i j hi hj hij
    have hj' : j < d'.size := by simpa using hj
    have hi' : i < d'.size := by simpa using hi
    have := hso i j (Nat.zero_le _) hij (by omega)
    unfold ltOf at this
    rw [getElem!_pos d' i hi', getElem!_pos d' j hj'] at this
    simpa using this

set_option maxHeartbeats 1000000 in
theorem sortedBy_any (c : Jb → Jb → Int) (hS : SWO (ltOf fun x y : RJ => c x.1 y.1)) (g : Nat) (cb : Array Value) (eg : ∀ args w, (callFunc g args).run Try.prog w = .ok (.enter g args) w) (a : Option Addr) (n cap : Nat) (ls : List Jb) (w : World) (h : JobS w a n cap ls) (hok : ∀ x ∈ ls, jok x = true) (hn : n ≤ 1048576)
    (hc : ∀ W, (∀ k, k < w.heap.size → W.heap[k]? = w.heap[k]?) → ∀ x y : Jb, jok x = true → jok y = true → Calls Try.prog g (#[.agg (jl x).toArray, .agg (jl y).toArray] ++ cb) W fun e w' => e = .returned (.int .i64 (c x y)) ∧ GrS W w') :
    Calls Try.prog 51 #[.func (.func g) #[] cb, .slice a n cap] w fun e w' =>
      ∃ B ls', e = .returned (.slice (some ⟨B, 0, none⟩) n n) ∧ w.heap.size ≤ B ∧ ls'.Perm ls ∧ ls'.length = n ∧ ls'.Pairwise (fun x y => decide (c y x < 0) = false) ∧ JobB w' B n n ls' ∧ Below w.heap.size w w' := by
  have hlen := h.len
  have hmk : ∀ wx : World, (Instr.makeSlice 24 (.int .i64 (n : Int)) (.int .i64 (n : Int))).run Try.prog wx = .ok (.slice (some ⟨wx.heap.size, 0, none⟩) n n) (wx.alloc (.cells (madeCells #[.int .i64 0, .int .i64 0, .int .i64 0, .int .i64 0, .int .i64 0, .int .i64 0, .int .i64 0] (n * 7)) 46)) := fun wx => run_makeJobs n hn wx
  obtain ⟨w2, hcp, hL, ho⟩ := run_copy_jobs 3 w.heap.size n cap a ls (h.below (box_below (cs := madeCells #[.int .i64 0, .int .i64 0, .int .i64 0, .int .i64 0, .int .i64 0, .int .i64 0, .int .i64 0] (n * 7)) (T := 46))) _ (by rw [heap_alloc_new]) (by simp [size_madeCells])
  have B2 : Below w.heap.size w w2 := box_below.trans (ho.below (Nat.le_refl _))
  have hS := sortBy_any c hS g cb eg w.heap.size n ls w2 hL hlen hok hn (fun W hk => hc W (fun k hk' => (hk k (Nat.lt_of_lt_of_le hk' B2.size) (by omega)).trans (B2.block k hk')))
  clear hL ho hc
  go_enter Try.func51, Try.ntmps51
  go_wp2_with (go_at_call 63; refine hS.mono ?_; rintro e w' ⟨rfl, ls', hp, hl', hso, hB, hb⟩)
  go_ret
  exact ⟨_, ls', rfl, Nat.le_refl _, hp, hl', hso, hB, B2.trans hb⟩

end Go.Proofs.Ytcomohobkjkhiaa

/- Jackson, Smith, Shortest of the program. -/
namespace Go.Proofs.Ytcomohobkjkhiaa
open Go.RowKit Go.Sort

theorem pw_byDue {ys : List Jb} (hok : ∀ x ∈ ys, jok x = true) (h : ys.Pairwise (fun x y => decide (cbyDue y x < 0) = false)) : ys.Pairwise (fun x y => ltDue y x = false) :=
  List.Pairwise.imp_of_mem (fun {x y} hx hy h1 => (congrFun (congrFun lt_cbyDue ⟨y, hok y hy⟩) ⟨x, hok x hx⟩).symm.trans h1) h

theorem pw_byWorth {ys : List Jb} (hok : ∀ x ∈ ys, jok x = true) (h : ys.Pairwise (fun x y => decide (cbyWorth y x < 0) = false)) : ys.Pairwise (fun x y => ltSm y x = false) :=
  List.Pairwise.imp_of_mem (fun {x y} hx hy h1 => (congrFun (congrFun lt_cbyWorth ⟨y, hok y hy⟩) ⟨x, hok x hx⟩).symm.trans h1) h

set_option maxRecDepth 8000 in
set_option maxHeartbeats 4000000 in
theorem then_byLong (x y : Jb) (_hx : jok x = true) (_hy : jok y = true) (bo bn : Nat) (w : World) (ho : w.cell? ⟨bo, 0, none⟩ = some (.func (.func 52) #[] #[])) (hn : w.cell? ⟨bn, 0, none⟩ = some (.func (.func 50) #[] #[])) :
    Calls Try.prog 62 #[.agg #[.int .i64 x.id, .int .i64 x.cores, .int .i64 x.long, .int .i64 x.due, .int .i64 x.wt, .int .i64 x.rank, .int .i64 x.at_], .agg #[.int .i64 y.id, .int .i64 y.cores, .int .i64 y.long, .int .i64 y.due, .int .i64 y.wt, .int .i64 y.rank, .int .i64 y.at_], .pointer (some ⟨bo, 0, none⟩), .pointer (some ⟨bn, 0, none⟩)] w fun e w' => e = .returned (.int .i64 (cbyLong x y)) ∧ GrS w w' := by
  have hbo := World.block_lt_of_cell? w _ ho
  have hbn := World.block_lt_of_cell? w _ hn
  obtain ⟨W0, hW0⟩ : ∃ W0, W0 = (w.alloc (.cells #[.int .i64 x.id, .int .i64 x.cores, .int .i64 x.long, .int .i64 x.due, .int .i64 x.wt, .int .i64 x.rank, .int .i64 x.at_] 46)).alloc (.cells #[.int .i64 y.id, .int .i64 y.cores, .int .i64 y.long, .int .i64 y.due, .int .i64 y.wt, .int .i64 y.rank, .int .i64 y.at_] 46) := ⟨_, rfl⟩
  have HG : Hid (GrS w W0) := by rw [hW0]; exact ((GrS.refl w).alloc _).alloc _
  have HKK : Hid (∀ w', GrS W0 w' → GrS W0 w' ∧ w'.cell? ⟨bo, 0, none⟩ = some (.func (.func 52) #[] #[]) ∧ w'.cell? ⟨bn, 0, none⟩ = some (.func (.func 50) #[] #[]) ∧ w'.cell? ⟨w.heap.size, 0, none⟩ = some (.int .i64 x.id) ∧ w'.cell? ⟨w.heap.size, 1, none⟩ = some (.int .i64 x.cores) ∧ w'.cell? ⟨w.heap.size, 2, none⟩ = some (.int .i64 x.long) ∧ w'.cell? ⟨w.heap.size, 3, none⟩ = some (.int .i64 x.due) ∧ w'.cell? ⟨w.heap.size, 4, none⟩ = some (.int .i64 x.wt) ∧ w'.cell? ⟨w.heap.size, 5, none⟩ = some (.int .i64 x.rank) ∧ w'.cell? ⟨w.heap.size, 6, none⟩ = some (.int .i64 x.at_) ∧ w'.cell? ⟨w.heap.size + 1, 0, none⟩ = some (.int .i64 y.id) ∧ w'.cell? ⟨w.heap.size + 1, 1, none⟩ = some (.int .i64 y.cores) ∧ w'.cell? ⟨w.heap.size + 1, 2, none⟩ = some (.int .i64 y.long) ∧ w'.cell? ⟨w.heap.size + 1, 3, none⟩ = some (.int .i64 y.due) ∧ w'.cell? ⟨w.heap.size + 1, 4, none⟩ = some (.int .i64 y.wt) ∧ w'.cell? ⟨w.heap.size + 1, 5, none⟩ = some (.int .i64 y.rank) ∧ w'.cell? ⟨w.heap.size + 1, 6, none⟩ = some (.int .i64 y.at_)) := by
    intro w' hg
    have z : W0.heap.size = w.heap.size + 2 := by rw [hW0]; simp
    have k : ∀ b j, b < W0.heap.size → w'.cell? ⟨b, j, none⟩ = W0.cell? ⟨b, j, none⟩ := fun b j h => hg.cell (a := ⟨b, j, none⟩) h
    refine ⟨hg, ?_⟩
    rw [k bo _ (by simp at hbo; omega), k bn _ (by simp at hbn; omega), k _ _ (by omega), k _ _ (by omega), k _ _ (by omega), k _ _ (by omega), k _ _ (by omega), k _ _ (by omega), k _ _ (by omega), k _ _ (by omega), k _ _ (by omega), k _ _ (by omega), k _ _ (by omega), k _ _ (by omega), k _ _ (by omega), k _ _ (by omega)]
    subst hW0
    refine ⟨(World.cell?_alloc_lt _ _ _ (by simp at hbo ⊢; omega)).trans ((World.cell?_alloc_lt _ _ _ (by simp at hbo ⊢; omega)).trans ho), (World.cell?_alloc_lt _ _ _ (by simp at hbn ⊢; omega)).trans ((World.cell?_alloc_lt _ _ _ (by simp at hbn ⊢; omega)).trans hn), ?_⟩
    simp
  have S0 : GrS W0 W0 := GrS.refl _
  have KB : ∀ w', (GrS W0 w' ∧ w'.cell? ⟨bo, 0, none⟩ = some (.func (.func 52) #[] #[]) ∧ w'.cell? ⟨bn, 0, none⟩ = some (.func (.func 50) #[] #[]) ∧ w'.cell? ⟨w.heap.size, 0, none⟩ = some (.int .i64 x.id) ∧ w'.cell? ⟨w.heap.size, 1, none⟩ = some (.int .i64 x.cores) ∧ w'.cell? ⟨w.heap.size, 2, none⟩ = some (.int .i64 x.long) ∧ w'.cell? ⟨w.heap.size, 3, none⟩ = some (.int .i64 x.due) ∧ w'.cell? ⟨w.heap.size, 4, none⟩ = some (.int .i64 x.wt) ∧ w'.cell? ⟨w.heap.size, 5, none⟩ = some (.int .i64 x.rank) ∧ w'.cell? ⟨w.heap.size, 6, none⟩ = some (.int .i64 x.at_) ∧ w'.cell? ⟨w.heap.size + 1, 0, none⟩ = some (.int .i64 y.id) ∧ w'.cell? ⟨w.heap.size + 1, 1, none⟩ = some (.int .i64 y.cores) ∧ w'.cell? ⟨w.heap.size + 1, 2, none⟩ = some (.int .i64 y.long) ∧ w'.cell? ⟨w.heap.size + 1, 3, none⟩ = some (.int .i64 y.due) ∧ w'.cell? ⟨w.heap.size + 1, 4, none⟩ = some (.int .i64 y.wt) ∧ w'.cell? ⟨w.heap.size + 1, 5, none⟩ = some (.int .i64 y.rank) ∧ w'.cell? ⟨w.heap.size + 1, 6, none⟩ = some (.int .i64 y.at_)) → GrS W0 w' := fun _ h => h.1
  go_enter Try.func62, Try.ntmps62
  go_wp2_with fail
  rw [← hW0]
  clear hW0 ho hn
  have K0 := HKK.out _ S0
  go_region_held3 (fun w' => GrS W0 w' ∧ w'.cell? ⟨bo, 0, none⟩ = some (.func (.func 52) #[] #[]) ∧ w'.cell? ⟨bn, 0, none⟩ = some (.func (.func 50) #[] #[]) ∧ w'.cell? ⟨w.heap.size, 0, none⟩ = some (.int .i64 x.id) ∧ w'.cell? ⟨w.heap.size, 1, none⟩ = some (.int .i64 x.cores) ∧ w'.cell? ⟨w.heap.size, 2, none⟩ = some (.int .i64 x.long) ∧ w'.cell? ⟨w.heap.size, 3, none⟩ = some (.int .i64 x.due) ∧ w'.cell? ⟨w.heap.size, 4, none⟩ = some (.int .i64 x.wt) ∧ w'.cell? ⟨w.heap.size, 5, none⟩ = some (.int .i64 x.rank) ∧ w'.cell? ⟨w.heap.size, 6, none⟩ = some (.int .i64 x.at_) ∧ w'.cell? ⟨w.heap.size + 1, 0, none⟩ = some (.int .i64 y.id) ∧ w'.cell? ⟨w.heap.size + 1, 1, none⟩ = some (.int .i64 y.cores) ∧ w'.cell? ⟨w.heap.size + 1, 2, none⟩ = some (.int .i64 y.long) ∧ w'.cell? ⟨w.heap.size + 1, 3, none⟩ = some (.int .i64 y.due) ∧ w'.cell? ⟨w.heap.size + 1, 4, none⟩ = some (.int .i64 y.wt) ∧ w'.cell? ⟨w.heap.size + 1, 5, none⟩ = some (.int .i64 y.rank) ∧ w'.cell? ⟨w.heap.size + 1, 6, none⟩ = some (.int .i64 y.at_)) ((refine HKK.out _ ?_; first | with_reducible exact SB | with_reducible exact SB.drew | with_reducible exact S0.drew | with_reducible exact S0 | with_reducible exact SB.alloc _ | exact (KB _ (by assumption)).alloc _)) (first
    | (go_at_call 52; refine (byLong_any _ _ _).mono ?_; rintro e w1 ⟨rfl, hg1⟩; have SB : GrS W0 w1 := (KB _ (by assumption)).trans hg1)
    | (go_at_call 50; refine (byId_any _ _ _).mono ?_; rintro e w2 ⟨rfl, hg2⟩; have SB : GrS W0 w2 := (KB _ (by assumption)).trans hg2)
    | (go_at_call 59; refine (or2_any _ (kbyLong x y) (cmpI x.id y.id) _ (new2_0 _ _ _ _) (new2_1 _ _ _ _)).mono ?_; rintro e w3 ⟨rfl, hq3⟩; have SB : GrS W0 w3 := (by rw [hq3]; exact KB _ (by assumption)); clear hq3))
  all_goals
    go_wp2
    go_ret
    exact ⟨rfl, HG.out.trans (by first | exact SB | exact SB.drew)⟩

theorem thenA_byLong (x y : Jb) (hx : jok x = true) (hy : jok y = true) (bo bn : Nat) (w : World) (ho : w.cell? ⟨bo, 0, none⟩ = some (.func (.func 52) #[] #[])) (hn : w.cell? ⟨bn, 0, none⟩ = some (.func (.func 50) #[] #[])) :
    Calls Try.prog 62 (#[.agg (jl x).toArray, .agg (jl y).toArray] ++ #[.pointer (some ⟨bo, 0, none⟩), .pointer (some ⟨bn, 0, none⟩)]) w fun e w' => e = .returned (.int .i64 (cbyLong x y)) ∧ GrS w w' := by
  have e : (#[.agg (jl x).toArray, .agg (jl y).toArray] ++ #[.pointer (some ⟨bo, 0, none⟩), .pointer (some ⟨bn, 0, none⟩)] : Array Value) = #[.agg #[.int .i64 x.id, .int .i64 x.cores, .int .i64 x.long, .int .i64 x.due, .int .i64 x.wt, .int .i64 x.rank, .int .i64 x.at_], .agg #[.int .i64 y.id, .int .i64 y.cores, .int .i64 y.long, .int .i64 y.due, .int .i64 y.wt, .int .i64 y.rank, .int .i64 y.at_], .pointer (some ⟨bo, 0, none⟩), .pointer (some ⟨bn, 0, none⟩)] := rfl
  rw [e]
  exact then_byLong x y hx hy bo bn w ho hn

theorem pw_byLong {ys : List Jb} (hok : ∀ x ∈ ys, jok x = true) (h : ys.Pairwise (fun x y => decide (cbyLong y x < 0) = false)) : ys.Pairwise (fun x y => ltLong y x = false) :=
  List.Pairwise.imp_of_mem (fun {x y} hx hy h1 => (congrFun (congrFun lt_cbyLong ⟨y, hok y hy⟩) ⟨x, hok x hx⟩).symm.trans h1) h

end Go.Proofs.Ytcomohobkjkhiaa
