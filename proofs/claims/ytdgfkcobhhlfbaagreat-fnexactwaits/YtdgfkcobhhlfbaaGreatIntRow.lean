/- Rows of int64s: a slice of them, an own row, and the laws' own helpers over both. -/
import Derived.Test.YtdgfkcobhhlfbaaGreatRows
import Derived.Test.YtdgfkcobhhlfbaaGreatMem
import Derived.Deep.LoopGhost
import Derived.Deep.RegionWith
import Derived.WalkKit
import Derived.BigQuiet
import Derived.Deep.QuietTactic
import Derived.Maps.AppendAt
namespace Go.Proofs.YtdgfkcobhhlfbaaGreat
open Go.RowKit

/-- number i of a list -/
def zg (zs : List Int) (i : Nat) : Int := zs[i]?.getD 0
theorem zg_get {zs : List Int} {i : Nat} (h : i < zs.length) : zg zs i = zs[i] := by simp [zg, h]

/-- the slice at a, n of cap, holds the numbers zs -/
structure IntS (w : World) (a : Option Addr) (n cap : Nat) (zs : List Int) : Prop where
  len : zs.length = n
  le : n ≤ cap
  mx : cap ≤ maxLen
  at_ : 0 < n → ∃ b off, a = some ⟨b, off, none⟩ ∧ b < w.heap.size ∧ ∀ i, i < n → w.cell? ⟨b, off + i, none⟩ = some (.int .i64 (zg zs i))

theorem IntS.below {w w' : World} {a : Option Addr} {n cap : Nat} {zs : List Int} (h : IntS w a n cap zs) (hb : Below w.heap.size w w') : IntS w' a n cap zs :=
  ⟨h.len, h.le, h.mx, fun hn => by
    obtain ⟨b, off, e, h1, h2⟩ := h.at_ hn
    exact ⟨b, off, e, Nat.lt_of_lt_of_le h1 hb.size, fun i hi => (hb.cell (p := ⟨b, off + i, none⟩) h1).trans (h2 i hi)⟩⟩

theorem IntS.nil_ (w : World) : IntS w none 0 0 [] := ⟨rfl, Nat.le_refl _, Nat.zero_le _, fun h => by omega⟩

theorem _root_.Go.RowKit.Below.drewNI {B : Nat} {a w : World} (h : Below B a w) (q : Nat) : Below B a (w.drewN q) := ⟨h.os, h.tape, h.output, h.size, h.block⟩

/-- block B is a row of the call's own; its first n cells hold the numbers zs -/
def IntB (w : World) (B n : Nat) (zs : List Int) : Prop :=
  ∃ cur : Array Value, w.heap[B]? = some (.cells cur 2 (0, 0)) ∧ n ≤ cur.size ∧ ∀ i, i < n → cur[i]? = some (.int .i64 (zg zs i))

theorem IntB.below {w w' : World} {B n : Nat} {zs : List Int} (h : IntB w B n zs) (ho : Below w.heap.size w w') : IntB w' B n zs := by
  obtain ⟨cur, h1, h2⟩ := h
  exact ⟨cur, by rw [ho.block B (lt_of_block h1)]; exact h1, h2⟩
theorem IntB.lt {w : World} {B n : Nat} {zs : List Int} (h : IntB w B n zs) : B < w.heap.size := by
  obtain ⟨cur, h1, _⟩ := h; exact lt_of_block h1
theorem IntB.only {w w' : World} {B B' n : Nat} {zs : List Int} (h : IntB w B n zs) (ho : Only B' w w') (hB : B ≠ B') : IntB w' B n zs := by
  obtain ⟨cur, h1, h2⟩ := h
  exact ⟨cur, by rw [ho.block B hB]; exact h1, h2⟩
theorem IntB.toS {w : World} {B n cap : Nat} {zs : List Int} (h : IntB w B n zs) (hl : zs.length = n) (hn : n ≤ cap) (hm : cap ≤ maxLen) : IntS w (some ⟨B, 0, none⟩) n cap zs := by
  obtain ⟨cur, h1, h2, h3⟩ := h
  refine ⟨hl, hn, hm, fun _ => ⟨B, 0, rfl, lt_of_block h1, fun i hi => ?_⟩⟩
  have e := h3 i hi
  simp only [Nat.zero_add]
  simp [World.cell?, h1, e]

/-- what an own row tells of its block -/
theorem own_ints {w : World} {base g cap n : Nat} {zs : List Int} (h : w.ownsRow base 2 1 (.slice (some ⟨g, 0, none⟩) n cap) n (zs.map (Value.int .i64))) : IntB w g n zs ∧ zs.length = n ∧ n ≤ cap ∧ cap ≤ maxLen ∧ base ≤ g := by
  have hl : zs.length = n := by have := h.1; simpa using this
  rcases h.2 with ⟨e, _⟩ | ⟨g', cap', cur, e, hb, hg, h1, h2, h3, h4⟩
  · cases e
  · injection e with e1 _ e3
    injection e1 with e1
    injection e1 with e1 _ _
    subst e1 e3
    refine ⟨⟨cur, hg, by omega, fun i hi => ?_⟩, hl, h1, h2, hb⟩
    have : (cur.toList.take (n * 1))[i]? = (zs.map (Value.int .i64))[i]? := by rw [h4]
    rw [List.getElem?_take, if_pos (by omega)] at this
    rw [← Array.getElem?_toList, this]
    simp [zg, show i < zs.length by omega]

def imarks (k : Int) (n : Nat) : List Int := (List.range n).map fun (i : Nat) => k + (i : Int)
theorem imarks_g (k : Int) (n i : Nat) (h : i < n) : zg (imarks k n) i = k + (i : Int) := by simp [imarks, zg, h]
theorem imarks_len (k : Int) (n : Nat) : (imarks k n).length = n := by simp [imarks]

end Go.Proofs.YtdgfkcobhhlfbaaGreat
