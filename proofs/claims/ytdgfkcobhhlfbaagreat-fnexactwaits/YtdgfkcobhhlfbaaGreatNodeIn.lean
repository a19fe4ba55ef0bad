/- Node in memory: how a slice of them lies there, and the contracts of the laws' own helpers over it. -/
import Derived.Test.YtdgfkcobhhlfbaaGreatNodeD
import Derived.Test.YtdgfkcobhhlfbaaGreatMem
import Derived.WalkKit
import Derived.WalkLawsBesides
import Derived.Deep.LoopGhost
import Derived.Deep.RegionWith
import Derived.BigQuiet
import Derived.Deep.QuietTactic
namespace Go.Proofs.YtdgfkcobhhlfbaaGreat
open Go.RowKit

/-- its cells as values -/
def ndl (j : Nd) : List Value := [.int .i64 j.cores, .int .i64 j.state]

/-- from ⟨b, off⟩ on lie ls -/
def NodeAt (w : World) (b off : Nat) (ls : List Nd) : Prop :=
  ∀ i, i < ls.length → ∀ c, c < 2 → w.cell? ⟨b, off + i * 2 + c, none⟩ = some (.int .i64 (ndc (ndg ls i) c))

/-- one lies at ⟨b, o⟩ -/
def Node1 (w : World) (b o : Nat) (j : Nd) : Prop := w.cell? ⟨b, o, none⟩ = some (.int .i64 j.cores) ∧ w.cell? ⟨b, o + 1, none⟩ = some (.int .i64 j.state)

theorem NodeAt.row {w : World} {b off : Nat} {ls : List Nd} (h : NodeAt w b off ls) {i : Nat} (hi : i < ls.length) : Node1 w b (off + i * 2) (ndg ls i) :=
  ⟨h i hi 0 (by omega), h i hi 1 (by omega)⟩

/-- the slice at a, n of cap, holds ls -/
structure NodeS (w : World) (a : Option Addr) (n cap : Nat) (ls : List Nd) : Prop where
  len : ls.length = n
  le : n ≤ cap
  mx : cap ≤ maxLen
  nil : a = none → cap = 0
  wf : ∀ i, i < n → ndwf (ndg ls i)
  at_ : 0 < n → ∃ b off, a = some ⟨b, off, none⟩ ∧ b < w.heap.size ∧ NodeAt w b off ls

theorem NodeS.nil_ (w : World) : NodeS w none 0 0 [] := ⟨rfl, Nat.le_refl _, Nat.zero_le _, fun _ => rfl, fun i hi => by omega, fun h => by omega⟩

theorem NodeAt.below {w w' : World} {B b off : Nat} {ls : List Nd} (h : NodeAt w b off ls) (hb : Below B w w') (hB : b < B) : NodeAt w' b off ls :=
  fun i hi c hc => (hb.cell (p := ⟨b, off + i * 2 + c, none⟩) hB).trans (h i hi c hc)

theorem NodeS.below {w w' : World} {a : Option Addr} {n cap : Nat} {ls : List Nd} (h : NodeS w a n cap ls) (hb : Below w.heap.size w w') : NodeS w' a n cap ls :=
  ⟨h.len, h.le, h.mx, h.nil, h.wf, fun hn => by
    obtain ⟨b, off, e, h1, h2⟩ := h.at_ hn
    exact ⟨b, off, e, Nat.lt_of_lt_of_le h1 hb.size, h2.below hb h1⟩⟩

theorem NodeS.drew {w : World} {a : Option Addr} {n cap : Nat} {ls : List Nd} (h : NodeS w a n cap ls) : NodeS w.drew a n cap ls := h.below (Below.refl _ _).drew

/-- block B is a row of n of them of the call's own, the first k those of ls -/
def NodeB (w : World) (B n k : Nat) (ls : List Nd) : Prop :=
  ∃ cur : Array Value, w.heap[B]? = some (.cells cur 70 (0, 0)) ∧ cur.size = n * 2 ∧ ∀ i, i < k → ∀ c, c < 2 → cur[i * 2 + c]? = some (.int .i64 (ndc (ndg ls i) c))

set_option maxHeartbeats 1000000 in
theorem NodeB.step {w1 : World} {B n k : Nat} {ls : List Nd} {y0 y1 : Int} {cur : Array Value} (hcur1 : w1.heap[B]? = some (.cells cur 70 (0, 0))) (hcs : cur.size = n * 2) (hk : k < n)
    (hck : ∀ i, i < k → ∀ c, c < 2 → cur[i * 2 + c]? = some (.int .i64 (ndc (ndg ls i) c))) (hj : (⟨y0, y1⟩ : Nd) = ndg ls k) :
    NodeB ((w1.setCell ⟨B, k * 2, none⟩ (.int .i64 y0)).setCell ⟨B, k * 2 + 1, none⟩ (.int .i64 y1)) B n (k + 1) ls := by
  refine ⟨_, blk_set (blk_set hcur1 _) _, by simp [hcs], fun i hi c hc => ?_⟩
  simp only [Array.getElem?_setIfInBounds, Array.size_setIfInBounds]
  by_cases e : i = k
  · subst e
    have hs : i * 2 + 1 < cur.size := by omega
    obtain rfl | rfl : c = 0 ∨ c = 1 := by omega
    all_goals (rw [← hj]; simp [ndc]; omega)
  · have hne : ∀ d, d < 2 → ¬ (k * 2 + d = i * 2 + c) := fun d hd => by omega
    have h0 : ¬ (k * 2 = i * 2 + c) := by omega
    rw [if_neg (hne 1 (by omega)), if_neg h0]
    exact hck i (by omega) c hc

theorem toNode_any (x0 x1 : Int) (w : World) :
    Calls Tryz.prog 37 #[.agg #[.int .i64 x0, .int .i64 x1]] w fun e w' => e = .returned (.agg #[.int .i64 x0, .int .i64 x1]) ∧ Below w.heap.size w w' := by
  go_enter Tryz.func37, Tryz.ntmps37
  go_wp2
  exact bodyPost_ret (v := .agg #[.int .i64 x0, .int .i64 x1]) (by simp [results, Tryz.results37, go_sem]) rfl ⟨rfl, (((Below.refl _ _).alloc (by simp) _).alloc (by simp) _).alloc (by simp; omega) _⟩

theorem szNodeS_any (a : Option Addr) (n cap : Nat) (left : Int) (w : World) (hn : n ≤ maxLen) (h0 : 0 ≤ left) (h1 : left ≤ 1048576) :
    Calls Tryz.prog 13 #[.slice a n cap, .int .i64 left] w fun e w' => e = .returned (.int .i64 (if left < (n : Int) then -1 else left - n)) ∧ w' = w := by
  unfold maxLen at hn
  by_cases hc : left < (n : Int)
  · rw [if_pos hc]
    go_enter Tryz.func13, Tryz.ntmps13
    go_wp2
    go_ret
    exact ⟨rfl, rfl⟩
  · rw [if_neg hc]
    go_enter Tryz.func13, Tryz.ntmps13
    go_wp2
    go_ret
    exact ⟨rfl, rfl⟩

theorem infoNode : (Tryz.prog.info? 70).map (fun i => (i.zero, i.size, i.bytes)) = some (some (.agg #[.int .i64 0, .int .i64 0]), 2, 16) := by kernel_rfl

theorem run_makeNodes (n : Nat) (hn : n ≤ 1048576) (wx : World) : (Instr.makeSlice 29 (.int .i64 (n : Int)) (.int .i64 (n : Int))).run Tryz.prog wx = .ok (.slice (some ⟨wx.heap.size, 0, none⟩) n n) (wx.alloc (.cells (madeCells (Value.agg #[.int .i64 0, .int .i64 0]).cells (n * 2)) 70)) := by
  obtain ⟨i0, hi, hz0, hz1, hz2⟩ := info_parts infoNode
  have := run_make (P := Tryz.prog) wx 29 70 i0 _ Tryz.underlying29 hi hz0 .i64 .i64 n n (by omega) (Int.le_refl _) (by rw [hz2]; omega) (by omega)
  rw [hz1] at this
  simpa only [Int.toNat_natCast] using this

set_option maxHeartbeats 1000000 in
theorem toNodeS_any (a : Option Addr) (n cap : Nat) (ls : List Nd) (w : World) (h : NodeS w a n cap ls) (hn : n ≤ 1048576) :
    Calls Tryz.prog 17 #[.slice a n cap] w fun e w' => ∃ B, e = .returned (.slice (some ⟨B, 0, none⟩) n n) ∧ w.heap.size ≤ B ∧ NodeB w' B n n ls ∧ Below w.heap.size w w' := by
  have hmk := run_makeNodes n hn
  go_enter Tryz.func17, Tryz.ntmps17
  go_wp2
  clear hmk
  go_loopw [4] (fun i wr => ∃ k : Nat, k ≤ n ∧ i = .int .i64 k ∧ NodeB wr w.heap.size n k ls ∧ Below w.heap.size w wr) (fun i _ => n - (intOf i).toNat)
  case atStart =>
    refine ⟨0, by omega, rfl, ?_, ?_⟩
    · exact ⟨_, by rw [heap_alloc_new], by simp [size_madeCells], fun i hi => by omega⟩
    · exact (Below.refl _ _).alloc (Nat.le_refl _) _
  case round =>
    obtain ⟨k, hk, rfl, hB, hw⟩ := hrel
    by_cases hlt : k < n
    · obtain ⟨b, off, rfl, hbw, hat⟩ := h.at_ (by omega)
      obtain ⟨hc0, hc1⟩ := (hat.below hw hbw).row (i := k) (by rw [h.len]; exact hlt)
      obtain ⟨cur, hcur, hcs, hck⟩ := hB
      go_wp2_with (go_at_call 37; refine (toNode_any _ _ _).mono ?_; rintro e w1 ⟨rfl, hb1⟩; have hcur1 := (hb1.block w.heap.size (lt_of_block hcur)).trans hcur; have g0 := cell_of_blk (k * 2) hcur1 (by omega); have f0 := free_of_blk (k * 2) hcur1; have g1 := cell_of_blk (k * 2 + 1) hcur1 (by omega); have f1 := free_of_blk (k * 2 + 1) hcur1)
      go_roundw
      case rel => exact ⟨k + 1, by omega, by go_num, NodeB.step hcur1 hcs hlt hck rfl, ((hw.trans (hb1.mono hw.size)).setCell (Nat.le_refl _) _).setCell (Nat.le_refl _) _⟩
      case measure => simp [intOf]; omega
    · have e : k = n := by omega
      subst e
      go_wp2
      go_ret
      exact ⟨_, rfl, Nat.le_refl _, hB, hw⟩

theorem NodeB.other {w : World} {B n k : Nat} {ls : List Nd} (h : NodeB w B n k ls) {a : Addr} (ha : B ≠ a.block) (u : Value) : NodeB (w.setCell a u) B n k ls := by
  obtain ⟨cur, h1, h2⟩ := h
  exact ⟨cur, by rw [Below.heap_setCell _ _ _ _ ha]; exact h1, h2⟩

theorem eqNode_same (x0 x1 : Int) (w : World) :
    Calls Tryz.prog 48 #[.agg #[.int .i64 x0, .int .i64 x1], .agg #[.int .i64 x0, .int .i64 x1]] w fun e w' => e = .returned (.bool true) ∧ Below w.heap.size w w' := by
  go_enter Tryz.func48, Tryz.ntmps48
  go_wp2
  go_ret
  exact ⟨rfl, ((Below.refl _ _).alloc (by simp) _).alloc (by simp) _⟩

set_option maxHeartbeats 1000000 in
theorem eqNodeS_same (a a' : Option Addr) (n cap cap' : Nat) (ls : List Nd) (w : World) (h : NodeS w a n cap ls) (h' : NodeS w a' n cap' ls) :
    Calls Tryz.prog 24 #[.slice a n cap, .slice a' n cap'] w fun e w' => e = .returned (.bool true) ∧ Below w.heap.size w w' := by
  have hm := h.mx
  have hle := h.le
  unfold maxLen at hm
  go_enter Tryz.func24, Tryz.ntmps24
  go_wp2
  go_loopw [5] (fun i wr => ∃ k : Nat, k ≤ n ∧ i = .int .i64 k ∧ Below w.heap.size w wr) (fun i _ => n - (intOf i).toNat)
  case atStart => exact ⟨0, by omega, rfl, Below.refl _ _⟩
  case round =>
    obtain ⟨k, hk, rfl, hw⟩ := hrel
    by_cases hlt : k < n
    · obtain ⟨b, off, rfl, hbw, hat⟩ := h.at_ (by omega)
      obtain ⟨b', off', rfl, hbw', hat'⟩ := h'.at_ (by omega)
      obtain ⟨hc0, hc1⟩ := (hat.below hw hbw).row (i := k) (by rw [h.len]; exact hlt)
      obtain ⟨hd0, hd1⟩ := (hat'.below hw hbw').row (i := k) (by rw [h.len]; exact hlt)
      go_wp2
      go_region_with (go_at_call 48; refine (eqNode_same _ _ _).mono ?_; rintro e w1 ⟨rfl, hb1⟩)
      all_goals
        go_wp2
        go_roundw
        case rel => exact ⟨k + 1, by omega, by go_num, by first | exact hw.then hb1 hw.size | exact hw.drew.then hb1 hw.size | exact hw.drew.drew.then hb1 hw.size⟩
        case measure => simp [intOf]; omega
    · have e : k = n := by omega
      subst e
      go_wp2
      go_ret
      exact ⟨rfl, hw⟩

theorem NodeB.below {w w' : World} {B n k : Nat} {ls : List Nd} (h : NodeB w B n k ls) (ho : Below w.heap.size w w') : NodeB w' B n k ls := by
  obtain ⟨cur, h1, h2⟩ := h
  exact ⟨cur, by rw [ho.block B (lt_of_block h1)]; exact h1, h2⟩

theorem NodeB.lt {w : World} {B n k : Nat} {ls : List Nd} (h : NodeB w B n k ls) : B < w.heap.size := by
  obtain ⟨cur, h1, _⟩ := h; exact lt_of_block h1

/-- an own row of them is a slice of them -/
theorem NodeB.toS {w : World} {B n : Nat} {ls : List Nd} (h : NodeB w B n n ls) (hl : ls.length = n) (hn : n ≤ 1048576) (wf : ∀ i, i < n → ndwf (ndg ls i)) : NodeS w (some ⟨B, 0, none⟩) n n ls := by
  obtain ⟨cur, h1, h2, h3⟩ := h
  refine ⟨hl, Nat.le_refl _, by unfold maxLen; omega, (fun h => by cases h), wf, fun _ => ⟨B, 0, rfl, lt_of_block h1, fun i hi c hc => ?_⟩⟩
  have e0 := h3 i (by omega) c hc
  simp only [Nat.zero_add]
  simp [World.cell?, h1, e0]

theorem NodeB.only {w w' : World} {B B' n k : Nat} {ls : List Nd} (h : NodeB w B n k ls) (ho : Only B' w w') (hB : B ≠ B') : NodeB w' B n k ls := by
  obtain ⟨cur, h1, h2⟩ := h
  exact ⟨cur, by rw [ho.block B hB]; exact h1, h2⟩

/-- the numbers that a mark leaves -/
def ndmark (k : Int) (i : Nat) : Nd := ⟨k + 2 * (i : Int), k + 2 * (i : Int) + 1⟩
def ndmarks (k : Int) (n : Nat) : List Nd := (List.range n).map (ndmark k)
theorem ndmarks_len (k : Int) (n : Nat) : (ndmarks k n).length = n := by simp [ndmarks]
theorem ndmarks_g (k : Int) (n i : Nat) (h : i < n) : ndg (ndmarks k n) i = ndmark k i := by simp [ndmarks, ndg, h]

set_option maxHeartbeats 1000000 in
theorem markNodeS_any (B n : Nat) (k0 : Int) (ls : List Nd) (w : World) (h : NodeB w B n n ls) (hn : n ≤ 1048576) (h0 : 0 ≤ k0) (h1 : k0 ≤ 1073741824) :
    Calls Tryz.prog 26 #[.slice (some ⟨B, 0, none⟩) n n, .int .i64 k0] w fun e w' => e = .returned (.int .i64 (k0 + 2 * n)) ∧ NodeB w' B n n (ndmarks k0 n) ∧ Only B w w' := by
  go_enter Tryz.func26, Tryz.ntmps26
  go_wp2
  go_loopw [1, 5] (fun m i wr => ∃ k : Nat, k ≤ n ∧ i = .int .i64 k ∧ m = .int .i64 (k0 + 2 * k) ∧ NodeB wr B n k (ndmarks k0 n) ∧ Only B w wr) (fun _ i _ => n - (intOf i).toNat)
  case atStart =>
    obtain ⟨cur, hcur, hcs, _⟩ := h
    exact ⟨0, by omega, rfl, by go_num, ⟨cur, hcur, hcs, fun i hi => by omega⟩, Only.refl _ _⟩
  case round =>
    obtain ⟨k, hk, rfl, rfl, ⟨cur, hcur, hcs, hck⟩, hw⟩ := hrel
    by_cases hlt : k < n
    · have HG := ndmarks_g k0 n k hlt
      have g0 := cell_of_blk (k * 2) hcur (by omega)
      have f0 := free_of_blk (k * 2) hcur
      have g1 := cell_of_blk (k * 2 + 1) hcur (by omega)
      have f1 := free_of_blk (k * 2 + 1) hcur
      go_wp2
      go_roundw
      case rel => exact ⟨k + 1, by omega, by go_num, by go_num, NodeB.step hcur hcs hlt hck (by rw [HG]; unfold ndmark; congr 1 <;> omega), (hw.setCell _ _).setCell _ _⟩
      case measure => simp [intOf]; omega
    · have e : k = n := by omega
      subst e
      go_wp2
      go_ret
      exact ⟨rfl, ⟨cur, hcur, hcs, hck⟩, hw⟩

theorem markNilNode_any (k0 : Int) (w : World) :
    Calls Tryz.prog 26 #[.slice none 0 0, .int .i64 k0] w fun e w' => e = .returned (.int .i64 k0) ∧ w' = w := by
  go_enter Tryz.func26, Tryz.ntmps26
  go_wp2
  refine wp_loop_rounds 1 ?_
  rw [rounds_succ]
  go_wp2
  go_ret
  exact ⟨rfl, rfl⟩

end Go.Proofs.YtdgfkcobhhlfbaaGreat
