/- Rows of int64s: a slice of them, an own row, and the laws' own helpers over both. -/
import Derived.Test.YthgdjecbaomffaaRows
import Derived.Test.YthgdjecbaomffaaMem
import Derived.Deep.LoopGhost
import Derived.Deep.RegionWith
import Derived.WalkKit
import Derived.BigQuiet
import Derived.Deep.QuietTactic
import Derived.Maps.AppendAt
namespace Go.Proofs.Ythgdjecbaomffaa
open Go.RowKit

/-- number i of a list -/
def zg (zs : List Int) (i : Nat) : Int := zs[i]?.getD 0
theorem zg_get {zs : List Int} {i : Nat} (h : i < zs.length) : zg zs i = zs[i] := by simp [zg, h]

/-- the slice at a, n of cap, holds the numbers zs -/
structure IntS (w : World) (a : Option Addr) (n cap : Nat) (zs : List Int) : Prop where
  len : zs.length = n
  le : n ≤ cap
  mx : cap ≤ maxLen
  at_ : 0 < n → ∃ b off, a = some ⟨b, off, none⟩ ∧ b < w.heap.size ∧ ∀ i, i < n → w.cell? ⟨b, off + i, none⟩ = some (.int .i64 (zg zs i))

theorem IntS.below {w w' : World} {a : Option Addr} {n cap : Nat} {zs : List Int} (h : IntS w a n cap zs) (hb : Below w.heap.size w w') : IntS w' a n cap zs :=
  ⟨h.len, h.le, h.mx, fun hn => by
    obtain ⟨b, off, e, h1, h2⟩ := h.at_ hn
    exact ⟨b, off, e, Nat.lt_of_lt_of_le h1 hb.size, fun i hi => (hb.cell (p := ⟨b, off + i, none⟩) h1).trans (h2 i hi)⟩⟩

theorem IntS.nil_ (w : World) : IntS w none 0 0 [] := ⟨rfl, Nat.le_refl _, Nat.zero_le _, fun h => by omega⟩

theorem _root_.Go.RowKit.Below.drewNI {B : Nat} {a w : World} (h : Below B a w) (q : Nat) : Below B a (w.drewN q) := ⟨h.os, h.tape, h.output, h.size, h.block⟩

set_option maxHeartbeats 400000 in
theorem eqInt64S_same (a a' : Option Addr) (n cap cap' : Nat) (zs : List Int) (w : World) (h : IntS w a n cap zs) (h' : IntS w a' n cap' zs) :
    Calls Try.prog 22 #[.slice a n cap, .slice a' n cap'] w fun e w' => e = .returned (.bool true) ∧ Below w.heap.size w w' := by
  have hm := h.mx
  have hle := h.le
  unfold maxLen at hm
  go_enter Try.func22, Try.ntmps22
  go_wp2
  go_loopw [5] (fun i wr => ∃ k : Nat, k ≤ n ∧ i = .int .i64 k ∧ Below w.heap.size w wr) (fun i _ => n - (intOf i).toNat)
  case atStart => exact ⟨0, by omega, rfl, Below.refl _ _⟩
  case round =>
    obtain ⟨k, hk, rfl, hw⟩ := hrel
    by_cases hlt : k < n
    · obtain ⟨b, off, rfl, hbw, hat⟩ := (h.below hw).at_ (by omega)
      obtain ⟨b', off', rfl, hbw', hat'⟩ := (h'.below hw).at_ (by omega)
      have hc := hat k hlt
      have hd := hat' k hlt
      have hlt' : (k : Int) < (n : Int) := by omega
      clear hat hat'
      go_wp2
      go_quiet (fail)
      go_wp2
      go_roundw
      case rel => exact ⟨k + 1, by omega, by go_num, hw.drewNI _⟩
      case measure => simp [intOf]; omega
    · have e : k = n := by omega
      subst e
      go_wp2
      go_ret
      exact ⟨rfl, hw⟩

/-- block B is a row of the call's own; its first n cells hold the numbers zs -/
def IntB (w : World) (B n : Nat) (zs : List Int) : Prop :=
  ∃ cur : Array Value, w.heap[B]? = some (.cells cur 2 (0, 0)) ∧ n ≤ cur.size ∧ ∀ i, i < n → cur[i]? = some (.int .i64 (zg zs i))

theorem IntB.below {w w' : World} {B n : Nat} {zs : List Int} (h : IntB w B n zs) (ho : Below w.heap.size w w') : IntB w' B n zs := by
  obtain ⟨cur, h1, h2⟩ := h
  exact ⟨cur, by rw [ho.block B (lt_of_block h1)]; exact h1, h2⟩
theorem IntB.lt {w : World} {B n : Nat} {zs : List Int} (h : IntB w B n zs) : B < w.heap.size := by
  obtain ⟨cur, h1, _⟩ := h; exact lt_of_block h1
theorem IntB.only {w w' : World} {B B' n : Nat} {zs : List Int} (h : IntB w B n zs) (ho : Only B' w w') (hB : B ≠ B') : IntB w' B n zs := by
  obtain ⟨cur, h1, h2⟩ := h
  exact ⟨cur, by rw [ho.block B hB]; exact h1, h2⟩
theorem IntB.toS {w : World} {B n cap : Nat} {zs : List Int} (h : IntB w B n zs) (hl : zs.length = n) (hn : n ≤ cap) (hm : cap ≤ maxLen) : IntS w (some ⟨B, 0, none⟩) n cap zs := by
  obtain ⟨cur, h1, h2, h3⟩ := h
  refine ⟨hl, hn, hm, fun _ => ⟨B, 0, rfl, lt_of_block h1, fun i hi => ?_⟩⟩
  have e := h3 i hi
  simp only [Nat.zero_add]
  simp [World.cell?, h1, e]

/-- what an own row tells of its block -/
theorem own_ints {w : World} {base g cap n : Nat} {zs : List Int} (h : w.ownsRow base 2 1 (.slice (some ⟨g, 0, none⟩) n cap) n (zs.map (Value.int .i64))) : IntB w g n zs ∧ zs.length = n ∧ n ≤ cap ∧ cap ≤ maxLen ∧ base ≤ g := by
  have hl : zs.length = n := by have := h.1; simpa using this
  rcases h.2 with ⟨e, _⟩ | ⟨g', cap', cur, e, hb, hg, h1, h2, h3, h4⟩
  · cases e
  · injection e with e1 _ e3
    injection e1 with e1
    injection e1 with e1 _ _
    subst e1 e3
    refine ⟨⟨cur, hg, by omega, fun i hi => ?_⟩, hl, h1, h2, hb⟩
    have : (cur.toList.take (n * 1))[i]? = (zs.map (Value.int .i64))[i]? := by rw [h4]
    rw [List.getElem?_take, if_pos (by omega)] at this
    rw [← Array.getElem?_toList, this]
    simp [zg, show i < zs.length by omega]

def imarks (k : Int) (n : Nat) : List Int := (List.range n).map fun (i : Nat) => k + (i : Int)
theorem imarks_g (k : Int) (n i : Nat) (h : i < n) : zg (imarks k n) i = k + (i : Int) := by simp [imarks, zg, h]
theorem imarks_len (k : Int) (n : Nat) : (imarks k n).length = n := by simp [imarks]

set_option maxHeartbeats 400000 in
theorem markInt64S_any (B n cap : Nat) (k0 : Int) (zs : List Int) (w : World) (h : IntB w B n zs) (hn : n ≤ 1048576) (h0 : 0 ≤ k0) (h1 : k0 ≤ 1073741824) :
    Calls Try.prog 23 #[.slice (some ⟨B, 0, none⟩) n cap, .int .i64 k0] w fun e w' => e = .returned (.int .i64 (k0 + n)) ∧ IntB w' B n (imarks k0 n) ∧ Only B w w' := by
  go_enter Try.func23, Try.ntmps23
  go_wp2
  go_loopw [1, 5] (fun m i wr => ∃ k : Nat, k ≤ n ∧ i = .int .i64 k ∧ m = .int .i64 (k0 + k) ∧ (∃ cur : Array Value, wr.heap[B]? = some (.cells cur 2 (0, 0)) ∧ n ≤ cur.size ∧ ∀ j, j < k → cur[j]? = some (.int .i64 (k0 + (j : Int)))) ∧ Only B w wr) (fun _ i _ => n - (intOf i).toNat)
  case atStart =>
    obtain ⟨cur, hcur, hcs, _⟩ := h
    exact ⟨0, by omega, rfl, by go_num, ⟨cur, hcur, hcs, fun i hi => by omega⟩, Only.refl _ _⟩
  case round =>
    obtain ⟨k, hk, rfl, rfl, ⟨cur, hcur, hcs, hck⟩, hw⟩ := hrel
    by_cases hlt : k < n
    · have g0 := cell_of_blk k hcur (by omega)
      have f0 := free_of_blk k hcur
      have hlt' : (k : Int) < (n : Int) := by omega
      have F := blk_set (j := k) hcur (.int .i64 (k0 + (k : Int)))
      go_wp2
      go_roundw
      case rel =>
        refine ⟨k + 1, by omega, by go_num, by go_num, ⟨_, F, by simpa using hcs, fun j hj => ?_⟩, hw.setCell _ _⟩
        rw [Array.getElem?_setIfInBounds]
        by_cases e : k = j
        · subst e; rw [if_pos rfl, if_pos (by omega)]
        · rw [if_neg e]; exact hck j (by omega)
      case measure => simp [intOf]; omega
    · have e : k = n := by omega
      subst e
      go_wp2
      go_ret
      exact ⟨rfl, ⟨cur, hcur, hcs, fun j hj => by rw [imarks_g _ _ _ hj]; exact hck j hj⟩, hw⟩

set_option maxHeartbeats 400000 in
theorem heldInt64S_any (B n cap : Nat) (k0 : Int) (w : World) (h : IntB w B n (imarks k0 n)) (hn : n ≤ 1048576) (h0 : 0 ≤ k0) (h1 : k0 ≤ 1073741824) :
    Calls Try.prog 24 #[.slice (some ⟨B, 0, none⟩) n cap, .int .i64 k0] w fun e w' => e = .returned (.int .i64 (k0 + n)) ∧ w' = w := by
  obtain ⟨cur, hcur, hcs, hck⟩ := h
  go_enter Try.func24, Try.ntmps24
  go_wp2
  go_loop [1, 5] (fun m i => ∃ k : Nat, k ≤ n ∧ i = .int .i64 k ∧ m = .int .i64 (k0 + k)) (fun _ i => n - (intOf i).toNat)
  case atStart => exact ⟨0, by omega, rfl, by go_num⟩
  case round =>
    obtain ⟨k, hk, rfl, rfl⟩ := hrel
    by_cases hlt : k < n
    · have g0 : w.cell? ⟨B, k, none⟩ = some (.int .i64 (k0 + k)) := by rw [← imarks_g k0 n k hlt, ← hck k hlt]; simp [World.cell?, hcur]
      have hlt' : (k : Int) < (n : Int) := by omega
      clear hck
      go_wp2
      go_round
      case rel => exact ⟨k + 1, by omega, by go_num, by go_num⟩
      case measure => simp [intOf]; omega
    · have e : k = n := by omega
      subst e
      go_wp2
      go_ret
      exact ⟨rfl, rfl⟩

theorem markNilI_any (k0 : Int) (w : World) :
    Calls Try.prog 23 #[.slice none 0 0, .int .i64 k0] w fun e w' => e = .returned (.int .i64 k0) ∧ w' = w := by
  go_enter Try.func23, Try.ntmps23
  go_wp2
  refine wp_loop_rounds 1 ?_
  rw [rounds_succ]
  go_wp2
  go_ret
  exact ⟨rfl, rfl⟩

theorem heldNilI_any (k0 : Int) (w : World) :
    Calls Try.prog 24 #[.slice none 0 0, .int .i64 k0] w fun e w' => e = .returned (.int .i64 k0) ∧ w' = w := by
  go_enter Try.func24, Try.ntmps24
  go_wp2
  refine wp_loop_rounds 1 ?_
  rw [rounds_succ]
  go_wp2
  go_ret
  exact ⟨rfl, rfl⟩

end Go.Proofs.Ythgdjecbaomffaa
