/- Levels in memory: how a slice of levels lies there, and the contracts of the laws' own helpers over it. -/
import Derived.Test.YtfepkchopndpeaaRows
import Derived.Test.YtfepkchopndpeaaLev
import Derived.Test.YtfepkchopndpeaaMem
import Derived.WalkKit
import Derived.WalkLawsBesides
import Derived.Deep.LoopGhost
import Derived.Deep.RegionWith
import Derived.BigQuiet
import Derived.Deep.QuietTactic
namespace Go.Proofs.Ytfepkchopndpeaa
open Go.RowKit

/-- from ⟨b, off⟩ on lie the levels ls -/
def LevAt (w : World) (b off : Nat) (ls : List Lev) : Prop :=
  ∀ i, i < ls.length → w.cell? ⟨b, off + i * 2, none⟩ = some (.int .i64 (fr ls i)) ∧ w.cell? ⟨b, off + i * 2 + 1, none⟩ = some (.int .i64 (fe ls i))

/-- the slice at a, n of cap, holds the levels ls -/
structure LevS (w : World) (a : Option Addr) (n cap : Nat) (ls : List Lev) : Prop where
  len : ls.length = n
  le : n ≤ cap
  mx : cap ≤ maxLen
  nil : a = none → cap = 0
  wf : ∀ i, i < n → (-9223372036854775808 ≤ fr ls i ∧ fr ls i ≤ 9223372036854775807) ∧ (-9223372036854775808 ≤ fe ls i ∧ fe ls i ≤ 9223372036854775807)
  at_ : 0 < n → ∃ b off, a = some ⟨b, off, none⟩ ∧ b < w.heap.size ∧ LevAt w b off ls

theorem LevAt.below {w w' : World} {B b off : Nat} {ls : List Lev} (h : LevAt w b off ls) (hb : Below B w w') (hB : b < B) : LevAt w' b off ls :=
  fun i hi => ⟨(hb.cell (p := ⟨b, off + i * 2, none⟩) hB).trans (h i hi).1, (hb.cell (p := ⟨b, off + i * 2 + 1, none⟩) hB).trans (h i hi).2⟩

theorem LevS.below {w w' : World} {a : Option Addr} {n cap : Nat} {ls : List Lev} (h : LevS w a n cap ls) (hb : Below w.heap.size w w') : LevS w' a n cap ls :=
  ⟨h.len, h.le, h.mx, h.nil, h.wf, fun hn => by
    obtain ⟨b, off, e, h1, h2⟩ := h.at_ hn
    exact ⟨b, off, e, Nat.lt_of_lt_of_le h1 hb.size, h2.below hb h1⟩⟩

/-- block B is a row of n levels of the call's own, the first k of them those of ls -/
def LevB (w : World) (B n k : Nat) (ls : List Lev) : Prop :=
  ∃ cur : Array Value, w.heap[B]? = some (.cells cur 65 (0, 0)) ∧ cur.size = n * 2 ∧ ∀ i, i < k → cur[i * 2]? = some (.int .i64 (fr ls i)) ∧ cur[i * 2 + 1]? = some (.int .i64 (fe ls i))

theorem LevB.step {w1 : World} {B n k : Nat} {ls : List Lev} {cur : Array Value} (hcur1 : w1.heap[B]? = some (.cells cur 65 (0, 0))) (hcs : cur.size = n * 2) (hk : k < n)
    (hck : ∀ i, i < k → cur[i * 2]? = some (.int .i64 (fr ls i)) ∧ cur[i * 2 + 1]? = some (.int .i64 (fe ls i))) :
    LevB ((w1.setCell ⟨B, k * 2, none⟩ (.int .i64 (fr ls k))).setCell ⟨B, k * 2 + 1, none⟩ (.int .i64 (fe ls k))) B n (k + 1) ls := by
  refine ⟨_, blk_set (blk_set hcur1 _) _, by simp [hcs], fun i hi => ?_⟩
  simp only [Array.getElem?_setIfInBounds]
  by_cases e : i = k
  · subst e
    rw [if_neg (by omega), if_pos rfl, if_pos (by omega), if_pos rfl, if_pos (by simp; omega)]
    exact ⟨rfl, rfl⟩
  · rw [if_neg (by omega), if_neg (by omega), if_neg (by omega), if_neg (by omega)]
    exact hck i (by omega)

theorem info69 : (Try.prog.info? 65).map (fun i => (i.zero, i.size, i.bytes)) = some (some (.agg #[.int .i64 0, .int .i64 0]), 2, 16) := by kernel_rfl

theorem LevB.other {w : World} {B n k : Nat} {ls : List Lev} (h : LevB w B n k ls) {a : Addr} (ha : B ≠ a.block) (u : Value) : LevB (w.setCell a u) B n k ls := by
  obtain ⟨cur, h1, h2⟩ := h
  exact ⟨cur, by rw [Below.heap_setCell _ _ _ _ ha]; exact h1, h2⟩

theorem LevB.only {w w' : World} {B B' n k : Nat} {ls : List Lev} (h : LevB w B n k ls) (ho : Only B' w w') (hB : B ≠ B') : LevB w' B n k ls := by
  obtain ⟨cur, h1, h2⟩ := h
  exact ⟨cur, by rw [ho.block B hB]; exact h1, h2⟩
theorem LevB.below {w w' : World} {B n k : Nat} {ls : List Lev} (h : LevB w B n k ls) (ho : Below w.heap.size w w') : LevB w' B n k ls := by
  obtain ⟨cur, h1, h2⟩ := h
  exact ⟨cur, by rw [ho.block B (lt_of_block h1)]; exact h1, h2⟩

/-- an own row of levels is a slice of levels -/
theorem LevB.toS {w : World} {B n : Nat} {ls : List Lev} (h : LevB w B n n ls) (hl : ls.length = n) (hn : n ≤ 1048576)
    (wf : ∀ i, i < n → (-9223372036854775808 ≤ fr ls i ∧ fr ls i ≤ 9223372036854775807) ∧ (-9223372036854775808 ≤ fe ls i ∧ fe ls i ≤ 9223372036854775807)) : LevS w (some ⟨B, 0, none⟩) n n ls := by
  obtain ⟨cur, h1, h2, h3⟩ := h
  refine ⟨hl, Nat.le_refl _, by unfold maxLen; omega, (fun h => by cases h), wf, fun _ => ⟨B, 0, rfl, lt_of_block h1, fun i hi => ?_⟩⟩
  obtain ⟨e0, e1⟩ := h3 i (by omega)
  simp only [Nat.zero_add]
  constructor
  · simp [World.cell?, h1, e0]
  · simp [World.cell?, h1, e1]

/-- the numbers that a mark leaves -/
def marks (k : Int) (n : Nat) : List Lev := (List.range n).map fun (i : Nat) => (k + 2 * (i : Int), k + 2 * (i : Int) + 1)
theorem marks_len (k : Int) (n : Nat) : (marks k n).length = n := by simp [marks]
theorem marks_fr (k : Int) (n i : Nat) (h : i < n) : fr (marks k n) i = k + 2 * (i : Int) := by simp [marks, fr, h]
theorem marks_fe (k : Int) (n i : Nat) (h : i < n) : fe (marks k n) i = k + 2 * (i : Int) + 1 := by simp [marks, fe, h]

theorem LevB.lt {w : World} {B n k : Nat} {ls : List Lev} (h : LevB w B n k ls) : B < w.heap.size := by
  obtain ⟨cur, h1, _⟩ := h; exact lt_of_block h1

/-- a boxed struct of two cells is still there -/
theorem box_cells {w wi : World} {v0 v1 : Value} {T : TypeId} (U : Below (w.alloc (.cells #[v0, v1] T)).heap.size (w.alloc (.cells #[v0, v1] T)) wi) :
    wi.cell? ⟨w.heap.size, 0, none⟩ = some v0 ∧ wi.cell? ⟨w.heap.size, 1, none⟩ = some v1 ∧ w.heap.size < wi.heap.size := by
  refine ⟨(U.cell (p := ⟨w.heap.size, 0, none⟩) (by simp)).trans (by simp), (U.cell (p := ⟨w.heap.size, 1, none⟩) (by simp)).trans (by simp), ?_⟩
  have := U.size
  simp at this; omega

theorem LevS.nil_ (w : World) : LevS w (Option.none) 0 0 [] := ⟨rfl, Nat.le_refl _, Nat.zero_le _, fun _ => rfl, fun i hi => by omega, fun h => by omega⟩

theorem LevS.drew {w : World} {a : Option Addr} {n cap : Nat} {ls : List Lev} (h : LevS w a n cap ls) : LevS w.drew a n cap ls := h.below (Below.refl _ _).drew

end Go.Proofs.Ytfepkchopndpeaa
