/- The rules of chapter 5 in the program: what they compare, and a sort by a closure. -/
import Derived.Test.YtmaojjjdepgaeaaJobQI
import Derived.Test.YtmaojjjdepgaeaaRules
namespace Go.Proofs.Ytmaojjjdepgaeaa
open Go.RowKit Go.Sort

theorem byDue_any (x y : Jb) (w : World) :
    Calls Try.prog 74 #[.agg #[.int .i64 x.id, .int .i64 x.cores, .int .i64 x.long, .int .i64 x.due, .int .i64 x.wt, .int .i64 x.rank, .int .i64 x.at_], .agg #[.int .i64 y.id, .int .i64 y.cores, .int .i64 y.long, .int .i64 y.due, .int .i64 y.wt, .int .i64 y.rank, .int .i64 y.at_]] w fun e w' => e = .returned (.int .i64 (kbyDue x y)) ∧ GrS w w' := by
  have hw : ∀ A B, GrS w ((w.alloc A).alloc B) := fun A B => ((GrS.refl w).alloc A).alloc B
  unfold kbyDue
  go_enter Try.func74, Try.ntmps74
  go_wp2_with (go_at_call 99; refine (compare_any _ _ _).mono ?_; rintro e w' ⟨rfl, rfl⟩)
  go_ret
  exact ⟨rfl, hw _ _⟩

theorem byLong_any (x y : Jb) (w : World) :
    Calls Try.prog 97 #[.agg #[.int .i64 x.id, .int .i64 x.cores, .int .i64 x.long, .int .i64 x.due, .int .i64 x.wt, .int .i64 x.rank, .int .i64 x.at_], .agg #[.int .i64 y.id, .int .i64 y.cores, .int .i64 y.long, .int .i64 y.due, .int .i64 y.wt, .int .i64 y.rank, .int .i64 y.at_]] w fun e w' => e = .returned (.int .i64 (kbyLong x y)) ∧ GrS w w' := by
  have hw : ∀ A B, GrS w ((w.alloc A).alloc B) := fun A B => ((GrS.refl w).alloc A).alloc B
  unfold kbyLong
  go_enter Try.func97, Try.ntmps97
  go_wp2_with (go_at_call 99; refine (compare_any _ _ _).mono ?_; rintro e w' ⟨rfl, rfl⟩)
  go_ret
  exact ⟨rfl, hw _ _⟩

theorem byId_any (x y : Jb) (w : World) :
    Calls Try.prog 77 #[.agg #[.int .i64 x.id, .int .i64 x.cores, .int .i64 x.long, .int .i64 x.due, .int .i64 x.wt, .int .i64 x.rank, .int .i64 x.at_], .agg #[.int .i64 y.id, .int .i64 y.cores, .int .i64 y.long, .int .i64 y.due, .int .i64 y.wt, .int .i64 y.rank, .int .i64 y.at_]] w fun e w' => e = .returned (.int .i64 (cmpI x.id y.id)) ∧ GrS w w' := by
  have hw : ∀ A B, GrS w ((w.alloc A).alloc B) := fun A B => ((GrS.refl w).alloc A).alloc B
  go_enter Try.func77, Try.ntmps77
  go_wp2_with (go_at_call 99; refine (compare_any _ _ _).mono ?_; rintro e w' ⟨rfl, rfl⟩)
  go_ret
  exact ⟨rfl, hw _ _⟩

theorem worth_bd {x y : Jb} (hx : jok x = true) (hy : jok y = true) : 0 ≤ y.wt * x.long ∧ y.wt * x.long ≤ 10000000 := by
  obtain ⟨a1, a2, _⟩ := jok_bd hx
  obtain ⟨_, _, _, _, b1, b2⟩ := jok_bd hy
  refine ⟨Int.mul_nonneg b1 (by omega), ?_⟩
  have h1 : y.wt * x.long ≤ 1000 * x.long := Int.mul_le_mul_of_nonneg_right b2 (by omega)
  omega

theorem then_make (g g' : Nat) (w : World) :
    Calls Try.prog 76 #[.func (.func g) #[] #[], .func (.func g') #[] #[]] w fun e w' => e = .returned (.func (.func 103) #[] #[.pointer (some ⟨w.heap.size, 0, none⟩), .pointer (some ⟨w.heap.size + 1, 0, none⟩)]) ∧ w' = (w.alloc (.cells #[.func (.func g) #[] #[]] 78)).alloc (.cells #[.func (.func g') #[] #[]] 78) := by
  go_enter Try.func76, Try.ntmps76
  go_wp2
  go_ret
  exact ⟨by simp, rfl⟩

/-! ### a sort by whatever compares right jobs -/
theorem flatK_sub [Inhabited RJ] [Inhabited Jb] (d : Array RJ) : flatK (fun x : RJ => jl x.1) 7 d = flatK jl 7 (d.map (·.1)) := by
  refine ext_get! (by simp) fun t ht => ?_
  have ht' : t < d.size * 7 := by simpa using ht
  rw [get_flatK _ _ _ _ ht', get_flatK _ _ _ _ (by simpa using ht')]
  have h1 : t / 7 < d.size := by omega
  rw [getElem!_pos d _ h1, getElem!_pos (d.map (·.1)) _ (by simpa using h1)]
  simp
theorem sortW_sub [Inhabited RJ] [Inhabited Jb] (w : World) (B q : Nat) (d : Array RJ) (os : Array Obj) : sortWorldK (fun x : RJ => jl x.1) 7 w B 0 q d os = sortWorldK jl 7 w B 0 q (d.map (·.1)) os := by
  unfold sortWorldK putRowK; rw [flatK_sub]
theorem sortW_keep [Inhabited Jb] (w : World) (B q : Nat) (d : Array Jb) (os : Array Obj) (hB : B < w.heap.size) : Below B w (sortWorldK jl 7 w B 0 q d os) ∧ ∀ k, k < w.heap.size → k ≠ B → (sortWorldK jl 7 w B 0 q d os).heap[k]? = w.heap[k]? := by
  have e : (sortWorldK jl 7 w B 0 q d os).heap = w.heap.modify B (onCells (putCells id 0 (flatK jl 7 d))) ++ os := rfl
  have h : ∀ k, k < w.heap.size → k ≠ B → (sortWorldK jl 7 w B 0 q d os).heap[k]? = w.heap[k]? := fun k hk hne => by
    rw [e, Array.getElem?_append, if_pos (by simpa using hk), Array.getElem?_modify, if_neg (Ne.symm hne)]
  exact ⟨⟨rfl, rfl, rfl, by rw [e]; simp, fun k hk => h k (by omega) (by omega)⟩, h⟩

theorem attach_map : ∀ (ls : List Jb) (h : ∀ x ∈ ls, jok x = true), (ls.attachWith _ h).map (fun x : RJ => x.1) = ls := fun ls h => by simp

set_option maxHeartbeats 1000000 in
theorem sortBy_any (c : Jb → Jb → Int) (hS : SWO (ltOf fun x y : RJ => c x.1 y.1)) (g : Nat) (cb : Array Value) (eg : ∀ args w, (callFunc g args).run Try.prog w = .ok (.enter g args) w) (B n : Nat) (ls : List Jb) (w : World) (h : JobB w B n n ls) (hl : ls.length = n) (hok : ∀ x ∈ ls, jok x = true) (hn : n ≤ 1048576)
    (hc : ∀ W, (∀ k, k < w.heap.size → k ≠ B → W.heap[k]? = w.heap[k]?) → ∀ x y : Jb, jok x = true → jok y = true → Calls Try.prog g (#[.agg (jl x).toArray, .agg (jl y).toArray] ++ cb) W fun e w' => e = .returned (.int .i64 (c x y)) ∧ GrS W w') :
    Calls Try.prog 100 #[.slice (some ⟨B, 0, none⟩) n n, .func (.func g) #[] cb] w fun e w' =>
      e = .returned (.tuple #[]) ∧ ∃ ls', ls'.Perm ls ∧ ls'.length = n ∧ ls'.Pairwise (fun x y => decide (c y x < 0) = false) ∧ JobB w' B n n ls' ∧ Below B w w' := by
  haveI : Inhabited Jb := ⟨jb0⟩
  haveI : Inhabited RJ := ⟨⟨⟨1, 1, 1, 0, 0, 0, 0⟩, by decide⟩⟩
  let d : Array RJ := (ls.attachWith _ hok).toArray
  have hd : d.map (fun x : RJ => x.1) = ls.toArray := by simp [d]
  have hsz : d.size = n := by simp [d, hl]
  have hH : HoldsK (fun x : RJ => jl x.1) 7 w B 0 d := by
    unfold HoldsK; rw [flatK_sub, hd]; exact h.holds hl
  have hS := AnyQ.slices_SortFunc Try.sortJob 7 (fun _ => by kernel_rfl) (fun _ => by kernel_rfl) (fun x : RJ => jl x.1) (fun x => jl_len x.1) (fun x => jl_one x.1) (fun x y : RJ => c x.1 y.1) hS g cb B 0 n d w eg
    (fun m os dk _ x y => by
      rw [sortW_sub]
      exact hc _ (sortW_keep w B m _ os h.lt).2 x.1 y.1 x.2 y.2) hH h.lt (by omega)
  change Calls Try.prog 100 _ _ _ at hS
  rw [hsz] at hS
  refine hS.mono ?_
  rintro e w' ⟨rfl, d', q, os, ⟨hp1, _, hp3⟩, hso, rfl⟩
  have hd' : d'.size = n := by omega
  have hdm : (d'.map (fun x : RJ => x.1)).size = n := by simpa using hd'
  rw [sortW_sub]
  refine ⟨rfl, (d'.map (fun x : RJ => x.1)).toList, ?_, by simpa using hd', ?_, sorted_blk h hl hdm, (sortW_keep w B q _ os h.lt).1⟩
  · rw [← hd'] at hp3
    have e1 : (d'.extract 0 d'.size).toList = d'.toList := by simp
    have e2 : (d.extract 0 d'.size).toList = d.toList := by rw [hd', ← hsz]; simp
    rw [e1, e2] at hp3
    have := hp3.map (fun x : RJ => x.1)
    have e3 : d.toList.map (fun x : RJ => x.1) = ls := by simp [d]
    rw [e3] at this
    simpa using this
  · rw [List.pairwise_iff_getElem]
    intro i j hi hj hij
    have hj' : j < d'.size := by simpa using hj
    have hi' : i < d'.size := by simpa using hi
    have := hso i j (Nat.zero_le _) hij (by omega)
    unfold ltOf at this
    rw [getElem!_pos d' i hi', getElem!_pos d' j hj'] at this
    simpa using this

set_option maxHeartbeats 1000000 in
theorem sortedBy_any (c : Jb → Jb → Int) (hS : SWO (ltOf fun x y : RJ => c x.1 y.1)) (g : Nat) (cb : Array Value) (eg : ∀ args w, (callFunc g args).run Try.prog w = .ok (.enter g args) w) (a : Option Addr) (n cap : Nat) (ls : List Jb) (w : World) (h : JobS w a n cap ls) (hok : ∀ x ∈ ls, jok x = true) (hn : n ≤ 1048576)
    (hc : ∀ W, (∀ k, k < w.heap.size → W.heap[k]? = w.heap[k]?) → ∀ x y : Jb, jok x = true → jok y = true → Calls Try.prog g (#[.agg (jl x).toArray, .agg (jl y).toArray] ++ cb) W fun e w' => e = .returned (.int .i64 (c x y)) ∧ GrS W w') :
    Calls Try.prog 73 #[.func (.func g) #[] cb, .slice a n cap] w fun e w' =>
      ∃ B ls', e = .returned (.slice (some ⟨B, 0, none⟩) n n) ∧ w.heap.size ≤ B ∧ ls'.Perm ls ∧ ls'.length = n ∧ ls'.Pairwise (fun x y => decide (c y x < 0) = false) ∧ JobB w' B n n ls' ∧ Below w.heap.size w w' := by
  have hlen := h.len
  have hmk : ∀ wx : World, (Instr.makeSlice 24 (.int .i64 (n : Int)) (.int .i64 (n : Int))).run Try.prog wx = .ok (.slice (some ⟨wx.heap.size, 0, none⟩) n n) (wx.alloc (.cells (madeCells #[.int .i64 0, .int .i64 0, .int .i64 0, .int .i64 0, .int .i64 0, .int .i64 0, .int .i64 0] (n * 7)) 49)) := fun wx => run_makeJobs n hn wx
  obtain ⟨w2, hcp, hL, ho⟩ := run_copy_jobs 3 w.heap.size n cap a ls (h.below (box_below (cs := madeCells #[.int .i64 0, .int .i64 0, .int .i64 0, .int .i64 0, .int .i64 0, .int .i64 0, .int .i64 0] (n * 7)) (T := 49))) _ (by rw [heap_alloc_new]) (by simp [size_madeCells])
  have B2 : Below w.heap.size w w2 := box_below.trans (ho.below (Nat.le_refl _))
  have hS := sortBy_any c hS g cb eg w.heap.size n ls w2 hL hlen hok hn (fun W hk => hc W (fun k hk' => (hk k (Nat.lt_of_lt_of_le hk' B2.size) (by omega)).trans (B2.block k hk')))
  clear hL ho hc
  go_enter Try.func73, Try.ntmps73
  go_wp2_with (go_at_call 100; refine hS.mono ?_; rintro e w' ⟨rfl, ls', hp, hl', hso, hB, hb⟩)
  go_ret
  exact ⟨_, ls', rfl, Nat.le_refl _, hp, hl', hso, hB, B2.trans hb⟩

end Go.Proofs.Ytmaojjjdepgaeaa
