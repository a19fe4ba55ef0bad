/- The program's table of shapes: what its cells hold; told; kindOf. -/
import Derived.Test.YtppnnnijdfbgpaaDoorCmdM
import Derived.Test.YtppnnnijdfbgpaaDoorMem
import Derived.Lib.LaidTab
import Derived.Lib.SmallJoins
import Derived.Laws.Rows
namespace Go.Proofs.YtppnnnijdfbgpaaDoor
open Go.RowKit

/-- row k of the table: the word, and the limits -/
def shR (k : Nat) (x0 y0 x1 y1 x2 y2 : Int) : List Value := [.string ⟨(kW (k : Int)).toArray⟩, .int .i64 x0, .int .i64 y0, .int .i64 x1, .int .i64 y1, .int .i64 x2, .int .i64 y2]
def shL : List Value :=
  shR 0 0 0 0 0 0 0 ++ (shR 1 1 1000 1 10000 0 9 ++ (shR 2 1 1000000 0 0 0 0 ++ (shR 3 0 1000000000 0 0 0 0 ++ (shR 4 0 7 0 0 0 0 ++ (shR 5 0 7 0 0 0 0 ++ (shR 6 0 7 0 0 0 0 ++ shR 7 1 1000000 1 1000000 0 0))))))
/-- the table holds what its text lays -/
def ShIs (w : World) : Prop := w.var? Tryd.prog "loop.example/g00255/impl.shapes" = some shL.toArray
theorem shNamed : Tryd.prog.globalNamed "loop.example/g00255/impl.shapes" = some 0 := by kernel_rfl
theorem ShIs.blk {w : World} (h : ShIs w) : ∃ t fr, w.heap[0]? = some (.cells shL.toArray t fr) := by
  unfold ShIs World.var? at h
  rw [shNamed] at h
  simp only [Option.bind_some] at h
  split at h
  · rename_i cs t fr e
    obtain rfl := Option.some.inj h
    exact ⟨t, fr, e⟩
  · cases h
theorem ShIs.pos {w : World} (h : ShIs w) : 0 < w.heap.size := by
  obtain ⟨_, _, e⟩ := h.blk
  exact (Array.getElem?_eq_some_iff.1 e).1
theorem ShIs.keep {w w' : World} {B : Nat} (h : ShIs w) (hb : Below B w w') (hB : 0 < B) : ShIs w' := by
  unfold ShIs World.var? at *
  rw [shNamed] at *
  simp only [Option.bind_some] at *
  rw [hb.block 0 hB]; exact h
theorem ShIs.cell {w : World} (h : ShIs w) (i : Nat) : w.cell? ⟨0, i, none⟩ = shL[i]? := by
  rw [World.var?_cell shNamed h i]; simp
theorem shWord {k : Nat} (hk : k < 8) : shL[7 * k]? = some (.string ⟨(kW (k : Int)).toArray⟩) := by
  obtain rfl | rfl | rfl | rfl | rfl | rfl | rfl | rfl : k = 0 ∨ k = 1 ∨ k = 2 ∨ k = 3 ∨ k = 4 ∨ k = 5 ∨ k = 6 ∨ k = 7 := by omega
  all_goals rfl

/-- the limits of number i of a kind -/
def loK (k i : Nat) : Int := if k = 1 then (if i = 2 then 0 else 1) else if k = 2 then (if i = 0 then 1 else 0) else if k = 7 then (if i = 2 then 0 else 1) else 0
def hiK (k i : Nat) : Int :=
  if k = 1 then (if i = 0 then 1000 else if i = 1 then 10000 else 9) else if k = 2 then (if i = 0 then 1000000 else 0) else if k = 3 then (if i = 0 then 1000000000 else 0)
  else if k = 7 then (if i = 2 then 0 else 1000000) else if k = 0 then 0 else (if i = 0 then 7 else 0)
theorem shLim {k i : Nat} (hk : k < 8) (hi : i < 3) : shL[7 * k + 1 + 2 * i]? = some (.int .i64 (loK k i)) ∧ shL[7 * k + 2 + 2 * i]? = some (.int .i64 (hiK k i)) := by
  obtain rfl | rfl | rfl | rfl | rfl | rfl | rfl | rfl : k = 0 ∨ k = 1 ∨ k = 2 ∨ k = 3 ∨ k = 4 ∨ k = 5 ∨ k = 6 ∨ k = 7 := by omega
  all_goals (obtain rfl | rfl | rfl : i = 0 ∨ i = 1 ∨ i = 2 := by omega) <;> exact ⟨rfl, rfl⟩
/-- all three within -/
def limB (k : Nat) (q : Nat → Int) (n : Nat) : Prop := ∀ i, i < n → inB (q i) (loK k i) (hiK k i) = true
theorem in00 (x : Int) : inB x 0 0 = decide (x = 0) := by
  unfold inB
  by_cases h : x = 0
  · subst h; rfl
  · by_cases h1 : 0 ≤ x
    · have h2 : ¬ x ≤ 0 := by omega
      simp [h, h2]
    · simp [h, h1]
theorem lim_cm {k : Nat} {q : Nat → Int} (h1 : 1 ≤ k) (h7 : k ≤ 7) : cmB (k : Int) (q 0) (q 1) (q 2) = true ↔ limB k q 3 := by
  have key : limB k q 3 ↔ inB (q 0) (loK k 0) (hiK k 0) = true ∧ inB (q 1) (loK k 1) (hiK k 1) = true ∧ inB (q 2) (loK k 2) (hiK k 2) = true := by
    constructor
    · intro h; exact ⟨h 0 (by omega), h 1 (by omega), h 2 (by omega)⟩
    · rintro ⟨a, b, c⟩ i hi
      obtain rfl | rfl | rfl : i = 0 ∨ i = 1 ∨ i = 2 := by omega
      all_goals assumption
  rw [key]
  obtain rfl | rfl | rfl | rfl | rfl | rfl | rfl : k = 1 ∨ k = 2 ∨ k = 3 ∨ k = 4 ∨ k = 5 ∨ k = 6 ∨ k = 7 := by omega
  all_goals simp [cmB, loK, hiK, in00, okB]

/-- a shape as a value -/
def shV (k : Nat) : Value := .agg (((shL.drop (7 * k)).take 7).toArray)
theorem shV_is {k : Nat} (hk : k < 8) : shV k = .agg #[.string ⟨(kW (k : Int)).toArray⟩, .int .i64 (loK k 0), .int .i64 (hiK k 0), .int .i64 (loK k 1), .int .i64 (hiK k 1), .int .i64 (loK k 2), .int .i64 (hiK k 2)] := by
  obtain rfl | rfl | rfl | rfl | rfl | rfl | rfl | rfl : k = 0 ∨ k = 1 ∨ k = 2 ∨ k = 3 ∨ k = 4 ∨ k = 5 ∨ k = 6 ∨ k = 7 := by omega
  all_goals rfl
/-- how many numbers a row tells -/
def tdK (k : Nat) : Nat := if k = 0 then 0 else if k = 1 then 3 else if k = 7 then 2 else 1

end Go.Proofs.YtppnnnijdfbgpaaDoor
