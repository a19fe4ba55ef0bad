/- Levels in memory: how a slice of levels lies there, and the contracts of the laws' own helpers over it. -/
import Derived.Test.YtcmpenlgkccgkaaRows
import Derived.Test.YtcmpenlgkccgkaaLev
import Derived.Test.YtcmpenlgkccgkaaMem
import Derived.WalkKit
import Derived.WalkLawsBesides
import Derived.Deep.LoopGhost
import Derived.Deep.RegionWith
import Derived.BigQuiet
import Derived.Deep.QuietTactic
namespace Go.Proofs.Ytcmpenlgkccgkaa
open Go.RowKit

/-- from ⟨b, off⟩ on lie the levels ls -/
def LevAt (w : World) (b off : Nat) (ls : List Lev) : Prop :=
  ∀ i, i < ls.length → w.cell? ⟨b, off + i * 2, none⟩ = some (.int .i64 (fr ls i)) ∧ w.cell? ⟨b, off + i * 2 + 1, none⟩ = some (.int .i64 (fe ls i))

/-- the slice at a, n of cap, holds the levels ls -/
structure LevS (w : World) (a : Option Addr) (n cap : Nat) (ls : List Lev) : Prop where
  len : ls.length = n
  le : n ≤ cap
  mx : cap ≤ maxLen
  nil : a = none → cap = 0
  wf : ∀ i, i < n → (-9223372036854775808 ≤ fr ls i ∧ fr ls i ≤ 9223372036854775807) ∧ (-9223372036854775808 ≤ fe ls i ∧ fe ls i ≤ 9223372036854775807)
  at_ : 0 < n → ∃ b off, a = some ⟨b, off, none⟩ ∧ b < w.heap.size ∧ LevAt w b off ls

theorem LevAt.below {w w' : World} {B b off : Nat} {ls : List Lev} (h : LevAt w b off ls) (hb : Below B w w') (hB : b < B) : LevAt w' b off ls :=
  fun i hi => ⟨(hb.cell (p := ⟨b, off + i * 2, none⟩) hB).trans (h i hi).1, (hb.cell (p := ⟨b, off + i * 2 + 1, none⟩) hB).trans (h i hi).2⟩

theorem LevS.below {w w' : World} {a : Option Addr} {n cap : Nat} {ls : List Lev} (h : LevS w a n cap ls) (hb : Below w.heap.size w w') : LevS w' a n cap ls :=
  ⟨h.len, h.le, h.mx, h.nil, h.wf, fun hn => by
    obtain ⟨b, off, e, h1, h2⟩ := h.at_ hn
    exact ⟨b, off, e, Nat.lt_of_lt_of_le h1 hb.size, h2.below hb h1⟩⟩

/-- block B is a row of n levels of the call's own, the first k of them those of ls -/
def LevB (w : World) (B n k : Nat) (ls : List Lev) : Prop :=
  ∃ cur : Array Value, w.heap[B]? = some (.cells cur 80 (0, 0)) ∧ cur.size = n * 2 ∧ ∀ i, i < k → cur[i * 2]? = some (.int .i64 (fr ls i)) ∧ cur[i * 2 + 1]? = some (.int .i64 (fe ls i))

theorem LevB.step {w1 : World} {B n k : Nat} {ls : List Lev} {cur : Array Value} (hcur1 : w1.heap[B]? = some (.cells cur 80 (0, 0))) (hcs : cur.size = n * 2) (hk : k < n)
    (hck : ∀ i, i < k → cur[i * 2]? = some (.int .i64 (fr ls i)) ∧ cur[i * 2 + 1]? = some (.int .i64 (fe ls i))) :
    LevB ((w1.setCell ⟨B, k * 2, none⟩ (.int .i64 (fr ls k))).setCell ⟨B, k * 2 + 1, none⟩ (.int .i64 (fe ls k))) B n (k + 1) ls := by
  refine ⟨_, blk_set (blk_set hcur1 _) _, by simp [hcs], fun i hi => ?_⟩
  simp only [Array.getElem?_setIfInBounds]
  by_cases e : i = k
  · subst e
    rw [if_neg (by omega), if_pos rfl, if_pos (by omega), if_pos rfl, if_pos (by simp; omega)]
    exact ⟨rfl, rfl⟩
  · rw [if_neg (by omega), if_neg (by omega), if_neg (by omega), if_neg (by omega)]
    exact hck i (by omega)

theorem toLevel_any (f r : Int) (w : World) :
    Calls Try.prog 71 #[.agg #[.int .i64 f, .int .i64 r]] w fun e w' => e = .returned (.agg #[.int .i64 f, .int .i64 r]) ∧ Below w.heap.size w w' := by
  go_enter Try.func71, Try.ntmps71
  go_wp2
  exact bodyPost_ret (v := .agg #[.int .i64 f, .int .i64 r]) (by simp [results, Try.results71, go_sem]) rfl ⟨rfl, (((Below.refl _ _).alloc (by simp) _).alloc (by simp) _).alloc (by simp; omega) _⟩

theorem szLevelS_any (a : Option Addr) (n cap : Nat) (left : Int) (w : World) (hn : n ≤ maxLen) (h0 : 0 ≤ left) (h1 : left ≤ 1048576) :
    Calls Try.prog 41 #[.slice a n cap, .int .i64 left] w fun e w' => e = .returned (.int .i64 (if left < (n : Int) then -1 else left - n)) ∧ w' = w := by
  unfold maxLen at hn
  by_cases hc : left < (n : Int)
  · rw [if_pos hc]
    go_enter Try.func41, Try.ntmps41
    go_wp2
    go_ret
    exact ⟨rfl, rfl⟩
  · rw [if_neg hc]
    go_enter Try.func41, Try.ntmps41
    go_wp2
    go_ret
    exact ⟨rfl, rfl⟩

theorem szProfile_any (t : Int) (a : Option Addr) (n cap : Nat) (left : Int) (w : World) (hn : n ≤ maxLen) (h0 : 0 ≤ left) (h1 : left ≤ 1048576) :
    Calls Try.prog 14 #[.agg #[.int .i64 t, .slice a n cap], .int .i64 left] w fun e w' => e = .returned (.int .i64 (if left < (n : Int) then -1 else left - n)) ∧ Below w.heap.size w w' := by
  by_cases hc : left < (n : Int)
  · rw [if_pos hc]
    go_enter Try.func14, Try.ntmps14
    go_wp2_with (go_at_call 41; refine (szLevelS_any _ _ _ _ _ hn h0 h1).mono ?_; rw [if_pos hc]; rintro e w' ⟨rfl, rfl⟩)
    go_ret
    exact ⟨rfl, (Below.refl _ _).alloc (by simp) _⟩
  · rw [if_neg hc]
    go_enter Try.func14, Try.ntmps14
    go_wp2_with (go_at_call 41; refine (szLevelS_any _ _ _ _ _ hn h0 h1).mono ?_; rw [if_neg hc]; rintro e w' ⟨rfl, rfl⟩)
    go_ret
    exact ⟨rfl, (Below.refl _ _).alloc (by simp) _⟩

theorem info69 : (Try.prog.info? 80).map (fun i => (i.zero, i.size, i.bytes)) = some (some (.agg #[.int .i64 0, .int .i64 0]), 2, 16) := by kernel_rfl

set_option maxHeartbeats 400000 in
theorem toLevelS_any (a : Option Addr) (n cap : Nat) (ls : List Lev) (w : World) (h : LevS w a n cap ls) (hn : n ≤ 1048576) :
    Calls Try.prog 45 #[.slice a n cap] w fun e w' => ∃ B, e = .returned (.slice (some ⟨B, 0, none⟩) n n) ∧ w.heap.size ≤ B ∧ LevB w' B n n ls ∧ Below w.heap.size w w' := by
  obtain ⟨i0, hi, hz0, hz1, hz2⟩ := info_parts info69
  have hmk : ∀ wx : World, (Instr.makeSlice 36 (.int .i64 (n : Int)) (.int .i64 (n : Int))).run Try.prog wx = .ok (.slice (some ⟨wx.heap.size, 0, none⟩) n n) (wx.alloc (.cells (madeCells (Value.agg #[.int .i64 0, .int .i64 0]).cells (n * 2)) 80)) := by
    intro wx
    have := run_make (P := Try.prog) wx 36 80 i0 _ Try.underlying36 hi hz0 .i64 .i64 n n (by omega) (Int.le_refl _) (by rw [hz2]; omega) (by omega)
    rw [hz1] at this
    simpa only [Int.toNat_natCast] using this
  clear hi hz0 hz1 hz2
  go_enter Try.func45, Try.ntmps45
  go_wp2
  go_loopw [4] (fun i wr => ∃ k : Nat, k ≤ n ∧ i = .int .i64 k ∧ LevB wr w.heap.size n k ls ∧ Below w.heap.size w wr) (fun i _ => n - (intOf i).toNat)
  case atStart =>
    refine ⟨0, by omega, rfl, ?_, ?_⟩
    · exact ⟨_, by rw [heap_alloc_new], by simp [size_madeCells], fun i hi => by omega⟩
    · exact (Below.refl _ _).alloc (Nat.le_refl _) _
  case round =>
    obtain ⟨k, hk, rfl, hB, hw⟩ := hrel
    by_cases hlt : k < n
    · obtain ⟨b, off, rfl, hbw, hat⟩ := h.at_ (by omega)
      have hc := hat.below hw hbw k (by rw [h.len]; exact hlt)
      obtain ⟨hc0, hc1⟩ := hc
      obtain ⟨cur, hcur, hcs, hck⟩ := hB
      go_wp2_with (go_at_call 71; refine (toLevel_any _ _ _).mono ?_; rintro e w1 ⟨rfl, hb1⟩; have hcur1 := (hb1.block w.heap.size (lt_of_block hcur)).trans hcur; have g0 := cell_of_blk (k * 2) hcur1 (by omega); have g1 := cell_of_blk (k * 2 + 1) hcur1 (by omega); have f0 := free_of_blk (k * 2) hcur1; have f1 := free_of_blk (k * 2 + 1) hcur1)
      go_roundw
      case rel => exact ⟨k + 1, by omega, by go_num, LevB.step hcur1 hcs hlt hck, ((hw.trans (hb1.mono hw.size)).setCell (Nat.le_refl _) _).setCell (Nat.le_refl _) _⟩
      case measure => simp [intOf]; omega
    · have e : k = n := by omega
      subst e
      go_wp2
      go_ret
      exact ⟨_, rfl, Nat.le_refl _, hB, hw⟩

theorem LevB.other {w : World} {B n k : Nat} {ls : List Lev} (h : LevB w B n k ls) {a : Addr} (ha : B ≠ a.block) (u : Value) : LevB (w.setCell a u) B n k ls := by
  obtain ⟨cur, h1, h2⟩ := h
  exact ⟨cur, by rw [Below.heap_setCell _ _ _ _ ha]; exact h1, h2⟩

theorem toProfile_any (t : Int) (a : Option Addr) (n cap : Nat) (ls : List Lev) (w : World) (h : LevS w a n cap ls) (hn : n ≤ 1048576) :
    Calls Try.prog 16 #[.agg #[.int .i64 t, .slice a n cap]] w fun e w' => ∃ B, e = .returned (.agg #[.int .i64 t, .slice (some ⟨B, 0, none⟩) n n]) ∧ w.heap.size ≤ B ∧ LevB w' B n n ls ∧ Below w.heap.size w w' := by
  go_enter Try.func16, Try.ntmps16
  go_wp2_with fail
  refine (toLevelS_any a n cap ls _ (h.below ?_) hn).mono ?_
  · exact (((Below.refl _ _).alloc (by simp) _).alloc (by simp) _).alloc (by simp; omega) _
  rintro e w1 ⟨B, rfl, hB, hL, hb⟩
  obtain ⟨hc, hf⟩ := bcell hb
  have hz := hb.size
  simp at hB hz hc hf
  go_wp2
  refine bodyPost_ret (v := .agg #[.int .i64 t, .slice (some ⟨B, 0, none⟩) n n]) (by simp [results, Try.results16, go_sem, hc]) rfl ⟨B, rfl, by omega, ?_, ?_⟩
  · exact ((hL.other (by simp; omega) _).other (by simp; omega) _).other (by simp; omega) _
  · exact ((((((Below.refl _ _).alloc (by simp) _).alloc (by simp) _).alloc (by simp; omega) _).then hb (by simp; omega)).setCell (by simp; omega) _).setCell (by simp) _ |>.setCell (by simp) _

theorem eqLevel_same (f r : Int) (w : World) :
    Calls Try.prog 74 #[.agg #[.int .i64 f, .int .i64 r], .agg #[.int .i64 f, .int .i64 r]] w fun e w' => e = .returned (.bool true) ∧ Below w.heap.size w w' := by
  go_enter Try.func74, Try.ntmps74
  go_wp2
  go_ret
  exact ⟨rfl, ((Below.refl _ _).alloc (by simp) _).alloc (by simp) _⟩

theorem eqLevelS_same (a a' : Option Addr) (n cap cap' : Nat) (ls : List Lev) (w : World) (h : LevS w a n cap ls) (h' : LevS w a' n cap' ls) :
    Calls Try.prog 50 #[.slice a n cap, .slice a' n cap'] w fun e w' => e = .returned (.bool true) ∧ Below w.heap.size w w' := by
  have hm := h.mx
  have hle := h.le
  unfold maxLen at hm
  go_enter Try.func50, Try.ntmps50
  go_wp2
  go_loopw [5] (fun i wr => ∃ k : Nat, k ≤ n ∧ i = .int .i64 k ∧ Below w.heap.size w wr) (fun i _ => n - (intOf i).toNat)
  case atStart => exact ⟨0, by omega, rfl, Below.refl _ _⟩
  case round =>
    obtain ⟨k, hk, rfl, hw⟩ := hrel
    by_cases hlt : k < n
    · obtain ⟨b, off, rfl, hbw, hat⟩ := h.at_ (by omega)
      obtain ⟨b', off', rfl, hbw', hat'⟩ := h'.at_ (by omega)
      obtain ⟨hc0, hc1⟩ := hat.below hw hbw k (by rw [h.len]; exact hlt)
      obtain ⟨hd0, hd1⟩ := hat'.below hw hbw' k (by rw [h.len]; exact hlt)
      go_wp2
      go_region_with (go_at_call 74; refine (eqLevel_same _ _ _).mono ?_; rintro e w1 ⟨rfl, hb1⟩)
      all_goals
        go_wp2
        go_roundw
        case rel => exact ⟨k + 1, by omega, by go_num, by first | exact hw.then hb1 hw.size | exact hw.drew.then hb1 hw.size | exact hw.drew.drew.then hb1 hw.size⟩
        case measure => simp [intOf]; omega
    · have e : k = n := by omega
      subst e
      go_wp2
      go_ret
      exact ⟨rfl, hw⟩

theorem eqProfile_same (t : Int) (a a' : Option Addr) (n cap cap' : Nat) (ls : List Lev) (w : World) (h : LevS w a n cap ls) (h' : LevS w a' n cap' ls) :
    Calls Try.prog 18 #[.agg #[.int .i64 t, .slice a n cap], .agg #[.int .i64 t, .slice a' n cap']] w fun e w' => e = .returned (.bool true) ∧ Below w.heap.size w w' := by
  have hw : Below w.heap.size w ((w.alloc (.cells #[.int .i64 t, .slice a n cap] 38)).alloc (.cells #[.int .i64 t, .slice a' n cap'] 38)) := ((Below.refl _ _).alloc (by simp) _).alloc (by simp) _
  go_enter Try.func18, Try.ntmps18
  go_wp2_with fail
  refine (eqLevelS_same a a' n cap cap' ls _ (h.below hw) (h'.below hw)).mono ?_
  rintro e w1 ⟨rfl, hb⟩
  go_wp2
  go_ret
  exact ⟨rfl, hw.then hb (by simp; omega)⟩

theorem LevB.only {w w' : World} {B B' n k : Nat} {ls : List Lev} (h : LevB w B n k ls) (ho : Only B' w w') (hB : B ≠ B') : LevB w' B n k ls := by
  obtain ⟨cur, h1, h2⟩ := h
  exact ⟨cur, by rw [ho.block B hB]; exact h1, h2⟩
theorem LevB.below {w w' : World} {B n k : Nat} {ls : List Lev} (h : LevB w B n k ls) (ho : Below w.heap.size w w') : LevB w' B n k ls := by
  obtain ⟨cur, h1, h2⟩ := h
  exact ⟨cur, by rw [ho.block B (lt_of_block h1)]; exact h1, h2⟩

/-- an own row of levels is a slice of levels -/
theorem LevB.toS {w : World} {B n : Nat} {ls : List Lev} (h : LevB w B n n ls) (hl : ls.length = n) (hn : n ≤ 1048576)
    (wf : ∀ i, i < n → (-9223372036854775808 ≤ fr ls i ∧ fr ls i ≤ 9223372036854775807) ∧ (-9223372036854775808 ≤ fe ls i ∧ fe ls i ≤ 9223372036854775807)) : LevS w (some ⟨B, 0, none⟩) n n ls := by
  obtain ⟨cur, h1, h2, h3⟩ := h
  refine ⟨hl, Nat.le_refl _, by unfold maxLen; omega, (fun h => by cases h), wf, fun _ => ⟨B, 0, rfl, lt_of_block h1, fun i hi => ?_⟩⟩
  obtain ⟨e0, e1⟩ := h3 i (by omega)
  simp only [Nat.zero_add]
  constructor
  · simp [World.cell?, h1, e0]
  · simp [World.cell?, h1, e1]

/-- the numbers that a mark leaves -/
def marks (k : Int) (n : Nat) : List Lev := (List.range n).map fun (i : Nat) => (k + 2 * (i : Int), k + 2 * (i : Int) + 1)
theorem marks_len (k : Int) (n : Nat) : (marks k n).length = n := by simp [marks]
theorem marks_fr (k : Int) (n i : Nat) (h : i < n) : fr (marks k n) i = k + 2 * (i : Int) := by simp [marks, fr, h]
theorem marks_fe (k : Int) (n i : Nat) (h : i < n) : fe (marks k n) i = k + 2 * (i : Int) + 1 := by simp [marks, fe, h]

set_option maxHeartbeats 400000 in
theorem markLevelS_any (B n : Nat) (k0 : Int) (ls : List Lev) (w : World) (h : LevB w B n n ls) (hn : n ≤ 1048576) (h0 : 0 ≤ k0) (h1 : k0 ≤ 1073741824) :
    Calls Try.prog 51 #[.slice (some ⟨B, 0, none⟩) n n, .int .i64 k0] w fun e w' => e = .returned (.int .i64 (k0 + 2 * n)) ∧ LevB w' B n n (marks k0 n) ∧ Only B w w' := by
  go_enter Try.func51, Try.ntmps51
  go_wp2
  go_loopw [1, 5] (fun m i wr => ∃ k : Nat, k ≤ n ∧ i = .int .i64 k ∧ m = .int .i64 (k0 + 2 * k) ∧ LevB wr B n k (marks k0 n) ∧ Only B w wr) (fun _ i _ => n - (intOf i).toNat)
  case atStart =>
    obtain ⟨cur, hcur, hcs, _⟩ := h
    exact ⟨0, by omega, rfl, by go_num, ⟨cur, hcur, hcs, fun i hi => by omega⟩, Only.refl _ _⟩
  case round =>
    obtain ⟨k, hk, rfl, rfl, ⟨cur, hcur, hcs, hck⟩, hw⟩ := hrel
    by_cases hlt : k < n
    · have g0 := cell_of_blk (k * 2) hcur (by omega)
      have g1 := cell_of_blk (k * 2 + 1) hcur (by omega)
      have f0 := free_of_blk (k * 2) hcur
      have f1 := free_of_blk (k * 2 + 1) hcur
      have F : LevB ((wr.setCell ⟨B, k * 2, none⟩ (.int .i64 (fr (marks k0 n) k))).setCell ⟨B, k * 2 + 1, none⟩ (.int .i64 (fe (marks k0 n) k))) B n (k + 1) (marks k0 n) := LevB.step hcur hcs hlt hck
      rw [marks_fr _ _ _ hlt, marks_fe _ _ _ hlt] at F
      go_wp2
      go_roundw
      case rel => exact ⟨k + 1, by omega, by go_num, by go_num, F, (hw.setCell _ _).setCell _ _⟩
      case measure => simp [intOf]; omega
    · have e : k = n := by omega
      subst e
      go_wp2
      go_ret
      exact ⟨rfl, ⟨cur, hcur, hcs, hck⟩, hw⟩

set_option maxHeartbeats 400000 in
theorem heldLevelS_any (B n : Nat) (k0 : Int) (w : World) (h : LevB w B n n (marks k0 n)) (hn : n ≤ 1048576) (h0 : 0 ≤ k0) (h1 : k0 ≤ 1073741824) :
    Calls Try.prog 52 #[.slice (some ⟨B, 0, none⟩) n n, .int .i64 k0] w fun e w' => e = .returned (.int .i64 (k0 + 2 * n)) ∧ w' = w := by
  obtain ⟨cur, hcur, hcs, hck⟩ := h
  go_enter Try.func52, Try.ntmps52
  go_wp2
  go_loop [1, 5] (fun m i => ∃ k : Nat, k ≤ n ∧ i = .int .i64 k ∧ m = .int .i64 (k0 + 2 * k)) (fun _ i => n - (intOf i).toNat)
  case atStart => exact ⟨0, by omega, rfl, by go_num⟩
  case round =>
    obtain ⟨k, hk, rfl, rfl⟩ := hrel
    by_cases hlt : k < n
    · have g0 : w.cell? ⟨B, k * 2, none⟩ = some (.int .i64 (k0 + 2 * k)) := by rw [← marks_fr k0 n k hlt, ← (hck k hlt).1]; simp [World.cell?, hcur]
      have g1 : w.cell? ⟨B, k * 2 + 1, none⟩ = some (.int .i64 (k0 + 2 * k + 1)) := by rw [← marks_fe k0 n k hlt, ← (hck k hlt).2]; simp [World.cell?, hcur]
      go_wp2
      go_round
      case rel => exact ⟨k + 1, by omega, by go_num, by go_num⟩
      case measure => simp [intOf]; omega
    · have e : k = n := by omega
      subst e
      go_wp2
      go_ret
      exact ⟨rfl, rfl⟩

theorem markProfile_any (t : Int) (B n : Nat) (k0 : Int) (ls : List Lev) (w : World) (h : LevB w B n n ls) (hn : n ≤ 1048576) (h0 : 0 ≤ k0) (h1 : k0 ≤ 1073741824) :
    Calls Try.prog 19 #[.agg #[.int .i64 t, .slice (some ⟨B, 0, none⟩) n n], .int .i64 k0] w fun e w' => e = .returned (.int .i64 (k0 + 2 * n)) ∧ LevB w' B n n (marks k0 n) ∧ Only B (w.alloc (.cells #[.int .i64 t, .slice (some ⟨B, 0, none⟩) n n] 38)) w' := by
  have hw : Below w.heap.size w (w.alloc (.cells #[.int .i64 t, .slice (some ⟨B, 0, none⟩) n n] 38)) := (Below.refl _ _).alloc (by simp) _
  go_enter Try.func19, Try.ntmps19
  go_wp2_with fail
  refine (markLevelS_any B n k0 ls _ (h.below hw) hn h0 h1).mono ?_
  rintro e w1 ⟨rfl, hl, ho⟩
  go_wp2
  go_ret
  exact ⟨rfl, hl, ho⟩

theorem heldProfile_any (t : Int) (B n : Nat) (k0 : Int) (w : World) (h : LevB w B n n (marks k0 n)) (hn : n ≤ 1048576) (h0 : 0 ≤ k0) (h1 : k0 ≤ 1073741824) :
    Calls Try.prog 22 #[.agg #[.int .i64 t, .slice (some ⟨B, 0, none⟩) n n], .int .i64 k0] w fun e w' => e = .returned (.int .i64 (k0 + 2 * n)) ∧ Below w.heap.size w w' := by
  have hw : Below w.heap.size w (w.alloc (.cells #[.int .i64 t, .slice (some ⟨B, 0, none⟩) n n] 38)) := (Below.refl _ _).alloc (by simp) _
  go_enter Try.func22, Try.ntmps22
  go_wp2_with fail
  refine (heldLevelS_any B n k0 _ (h.below hw) hn h0 h1).mono ?_
  rintro e w1 ⟨rfl, rfl⟩
  go_wp2
  go_ret
  exact ⟨rfl, hw⟩

theorem LevB.lt {w : World} {B n k : Nat} {ls : List Lev} (h : LevB w B n k ls) : B < w.heap.size := by
  obtain ⟨cur, h1, _⟩ := h; exact lt_of_block h1

/-- a boxed struct of two cells is still there -/
theorem box_cells {w wi : World} {v0 v1 : Value} {T : TypeId} (U : Below (w.alloc (.cells #[v0, v1] T)).heap.size (w.alloc (.cells #[v0, v1] T)) wi) :
    wi.cell? ⟨w.heap.size, 0, none⟩ = some v0 ∧ wi.cell? ⟨w.heap.size, 1, none⟩ = some v1 ∧ w.heap.size < wi.heap.size := by
  refine ⟨(U.cell (p := ⟨w.heap.size, 0, none⟩) (by simp)).trans (by simp), (U.cell (p := ⟨w.heap.size, 1, none⟩) (by simp)).trans (by simp), ?_⟩
  have := U.size
  simp at this; omega

theorem LevS.nil_ (w : World) : LevS w (Option.none) 0 0 [] := ⟨rfl, Nat.le_refl _, Nat.zero_le _, fun _ => rfl, fun i hi => by omega, fun h => by omega⟩

theorem LevS.drew {w : World} {a : Option Addr} {n cap : Nat} {ls : List Lev} (h : LevS w a n cap ls) : LevS w.drew a n cap ls := h.below (Below.refl _ _).drew

end Go.Proofs.Ytcmpenlgkccgkaa
