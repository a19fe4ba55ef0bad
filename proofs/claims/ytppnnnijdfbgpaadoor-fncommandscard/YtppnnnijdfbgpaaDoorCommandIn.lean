/- Command in memory: how a slice of them lies there, and the contracts of the laws' own helpers over it. -/
import Derived.Test.YtppnnnijdfbgpaaDoorCommandD
import Derived.Test.YtppnnnijdfbgpaaDoorMem
import Derived.WalkKit
import Derived.WalkLawsBesides
import Derived.Deep.LoopGhost
import Derived.Deep.RegionWith
import Derived.BigQuiet
import Derived.Deep.QuietTactic
namespace Go.Proofs.YtppnnnijdfbgpaaDoor
open Go.RowKit

/-- its cells as values -/
def cml (j : Cm) : List Value := [.int .i64 j.kind, .int .i64 j.a, .int .i64 j.b, .int .i64 j.c]

/-- from ⟨b, off⟩ on lie ls -/
def CommandAt (w : World) (b off : Nat) (ls : List Cm) : Prop :=
  ∀ i, i < ls.length → ∀ c, c < 4 → w.cell? ⟨b, off + i * 4 + c, none⟩ = some (.int .i64 (cmc (cmg ls i) c))

/-- one lies at ⟨b, o⟩ -/
def Command1 (w : World) (b o : Nat) (j : Cm) : Prop := w.cell? ⟨b, o, none⟩ = some (.int .i64 j.kind) ∧ w.cell? ⟨b, o + 1, none⟩ = some (.int .i64 j.a) ∧ w.cell? ⟨b, o + 2, none⟩ = some (.int .i64 j.b) ∧ w.cell? ⟨b, o + 3, none⟩ = some (.int .i64 j.c)

theorem CommandAt.row {w : World} {b off : Nat} {ls : List Cm} (h : CommandAt w b off ls) {i : Nat} (hi : i < ls.length) : Command1 w b (off + i * 4) (cmg ls i) :=
  ⟨h i hi 0 (by omega), h i hi 1 (by omega), h i hi 2 (by omega), h i hi 3 (by omega)⟩

/-- the slice at a, n of cap, holds ls -/
structure CommandS (w : World) (a : Option Addr) (n cap : Nat) (ls : List Cm) : Prop where
  len : ls.length = n
  le : n ≤ cap
  mx : cap ≤ maxLen
  nil : a = none → cap = 0
  wf : ∀ i, i < n → cmwf (cmg ls i)
  at_ : 0 < n → ∃ b off, a = some ⟨b, off, none⟩ ∧ b < w.heap.size ∧ CommandAt w b off ls

theorem CommandS.nil_ (w : World) : CommandS w none 0 0 [] := ⟨rfl, Nat.le_refl _, Nat.zero_le _, fun _ => rfl, fun i hi => by omega, fun h => by omega⟩

theorem CommandAt.below {w w' : World} {B b off : Nat} {ls : List Cm} (h : CommandAt w b off ls) (hb : Below B w w') (hB : b < B) : CommandAt w' b off ls :=
  fun i hi c hc => (hb.cell (p := ⟨b, off + i * 4 + c, none⟩) hB).trans (h i hi c hc)

theorem CommandS.below {w w' : World} {a : Option Addr} {n cap : Nat} {ls : List Cm} (h : CommandS w a n cap ls) (hb : Below w.heap.size w w') : CommandS w' a n cap ls :=
  ⟨h.len, h.le, h.mx, h.nil, h.wf, fun hn => by
    obtain ⟨b, off, e, h1, h2⟩ := h.at_ hn
    exact ⟨b, off, e, Nat.lt_of_lt_of_le h1 hb.size, h2.below hb h1⟩⟩

theorem CommandS.drew {w : World} {a : Option Addr} {n cap : Nat} {ls : List Cm} (h : CommandS w a n cap ls) : CommandS w.drew a n cap ls := h.below (Below.refl _ _).drew

/-- block B is a row of n of them of the call's own, the first k those of ls -/
def CommandB (w : World) (B n k : Nat) (ls : List Cm) : Prop :=
  ∃ cur : Array Value, w.heap[B]? = some (.cells cur 25 (0, 0)) ∧ cur.size = n * 4 ∧ ∀ i, i < k → ∀ c, c < 4 → cur[i * 4 + c]? = some (.int .i64 (cmc (cmg ls i) c))

set_option maxHeartbeats 1000000 in
theorem CommandB.step {w1 : World} {B n k : Nat} {ls : List Cm} {y0 y1 y2 y3 : Int} {cur : Array Value} (hcur1 : w1.heap[B]? = some (.cells cur 25 (0, 0))) (hcs : cur.size = n * 4) (hk : k < n)
    (hck : ∀ i, i < k → ∀ c, c < 4 → cur[i * 4 + c]? = some (.int .i64 (cmc (cmg ls i) c))) (hj : (⟨y0, y1, y2, y3⟩ : Cm) = cmg ls k) :
    CommandB ((((w1.setCell ⟨B, k * 4, none⟩ (.int .i64 y0)).setCell ⟨B, k * 4 + 1, none⟩ (.int .i64 y1)).setCell ⟨B, k * 4 + 2, none⟩ (.int .i64 y2)).setCell ⟨B, k * 4 + 3, none⟩ (.int .i64 y3)) B n (k + 1) ls := by
  refine ⟨_, blk_set (blk_set (blk_set (blk_set hcur1 _) _) _) _, by simp [hcs], fun i hi c hc => ?_⟩
  simp only [Array.getElem?_setIfInBounds, Array.size_setIfInBounds]
  by_cases e : i = k
  · subst e
    have hs : i * 4 + 3 < cur.size := by omega
    obtain rfl | rfl | rfl | rfl : c = 0 ∨ c = 1 ∨ c = 2 ∨ c = 3 := by omega
    all_goals (rw [← hj]; simp [cmc]; omega)
  · have hne : ∀ d, d < 4 → ¬ (k * 4 + d = i * 4 + c) := fun d hd => by omega
    have h0 : ¬ (k * 4 = i * 4 + c) := by omega
    rw [if_neg (hne 3 (by omega)), if_neg (hne 2 (by omega)), if_neg (hne 1 (by omega)), if_neg h0]
    exact hck i (by omega) c hc

theorem toCommand_any (x0 x1 x2 x3 : Int) (w : World) :
    Calls Tryd.prog 16 #[.agg #[.int .i64 x0, .int .i64 x1, .int .i64 x2, .int .i64 x3]] w fun e w' => e = .returned (.agg #[.int .i64 x0, .int .i64 x1, .int .i64 x2, .int .i64 x3]) ∧ Below w.heap.size w w' := by
  go_enter Tryd.func16, Tryd.ntmps16
  go_wp2
  exact bodyPost_ret (v := .agg #[.int .i64 x0, .int .i64 x1, .int .i64 x2, .int .i64 x3]) (by simp [results, Tryd.results16, go_sem]) rfl ⟨rfl, (((Below.refl _ _).alloc (by simp) _).alloc (by simp) _).alloc (by simp; omega) _⟩

theorem infoCommand : (Tryd.prog.info? 25).map (fun i => (i.zero, i.size, i.bytes)) = some (some (.agg #[.int .i64 0, .int .i64 0, .int .i64 0, .int .i64 0]), 4, 32) := by kernel_rfl

theorem CommandB.other {w : World} {B n k : Nat} {ls : List Cm} (h : CommandB w B n k ls) {a : Addr} (ha : B ≠ a.block) (u : Value) : CommandB (w.setCell a u) B n k ls := by
  obtain ⟨cur, h1, h2⟩ := h
  exact ⟨cur, by rw [Below.heap_setCell _ _ _ _ ha]; exact h1, h2⟩

theorem eqCommand_same (x0 x1 x2 x3 : Int) (w : World) :
    Calls Tryd.prog 17 #[.agg #[.int .i64 x0, .int .i64 x1, .int .i64 x2, .int .i64 x3], .agg #[.int .i64 x0, .int .i64 x1, .int .i64 x2, .int .i64 x3]] w fun e w' => e = .returned (.bool true) ∧ Below w.heap.size w w' := by
  go_enter Tryd.func17, Tryd.ntmps17
  go_wp2
  go_ret
  exact ⟨rfl, ((Below.refl _ _).alloc (by simp) _).alloc (by simp) _⟩

theorem CommandB.below {w w' : World} {B n k : Nat} {ls : List Cm} (h : CommandB w B n k ls) (ho : Below w.heap.size w w') : CommandB w' B n k ls := by
  obtain ⟨cur, h1, h2⟩ := h
  exact ⟨cur, by rw [ho.block B (lt_of_block h1)]; exact h1, h2⟩

theorem CommandB.lt {w : World} {B n k : Nat} {ls : List Cm} (h : CommandB w B n k ls) : B < w.heap.size := by
  obtain ⟨cur, h1, _⟩ := h; exact lt_of_block h1

/-- an own row of them is a slice of them -/
theorem CommandB.toS {w : World} {B n : Nat} {ls : List Cm} (h : CommandB w B n n ls) (hl : ls.length = n) (hn : n ≤ 1048576) (wf : ∀ i, i < n → cmwf (cmg ls i)) : CommandS w (some ⟨B, 0, none⟩) n n ls := by
  obtain ⟨cur, h1, h2, h3⟩ := h
  refine ⟨hl, Nat.le_refl _, by unfold maxLen; omega, (fun h => by cases h), wf, fun _ => ⟨B, 0, rfl, lt_of_block h1, fun i hi c hc => ?_⟩⟩
  have e0 := h3 i (by omega) c hc
  simp only [Nat.zero_add]
  simp [World.cell?, h1, e0]

theorem CommandB.only {w w' : World} {B B' n k : Nat} {ls : List Cm} (h : CommandB w B n k ls) (ho : Only B' w w') (hB : B ≠ B') : CommandB w' B n k ls := by
  obtain ⟨cur, h1, h2⟩ := h
  exact ⟨cur, by rw [ho.block B hB]; exact h1, h2⟩

/-- the numbers that a mark leaves -/
def cmmark (k : Int) (i : Nat) : Cm := ⟨k + 4 * (i : Int), k + 4 * (i : Int) + 1, k + 4 * (i : Int) + 2, k + 4 * (i : Int) + 3⟩
def cmmarks (k : Int) (n : Nat) : List Cm := (List.range n).map (cmmark k)
theorem cmmarks_len (k : Int) (n : Nat) : (cmmarks k n).length = n := by simp [cmmarks]
theorem cmmarks_g (k : Int) (n i : Nat) (h : i < n) : cmg (cmmarks k n) i = cmmark k i := by simp [cmmarks, cmg, h]

end Go.Proofs.YtppnnnijdfbgpaaDoor
