/- The program's Lower. -/
import Derived.Test.YtplcpiglciplkaaLowImpl
import Derived.Test.YtplcpiglciplkaaArea
import Derived.Maps.AppendAt
import Derived.Maps.AppendAt
import Derived.Maps.AppendAt
namespace Go.Proofs.Ytplcpiglciplkaa
open Go.RowKit

theorem LevB.cells {w : World} {B n : Nat} {ls : List Lev} (h : LevB w B n n ls) {i : Nat} (hi : i < n) :
    w.cell? ⟨B, i * 2, none⟩ = some (.int .i64 (fr ls i)) ∧ w.cell? ⟨B, i * 2 + 1, none⟩ = some (.int .i64 (fe ls i)) := by
  obtain ⟨cur, h1, h2, h3⟩ := h
  obtain ⟨c0, c1⟩ := h3 i hi
  refine ⟨(cell_of_blk (i * 2) h1 (by omega)).trans ?_, (cell_of_blk (i * 2 + 1) h1 (by omega)).trans ?_⟩
  · rw [← Array.getElem?_eq_getElem]; exact c0
  · rw [← Array.getElem?_eq_getElem]; exact c1

theorem LevB.but {W w : World} {G B n : Nat} {ls : List Lev} (h : LevB W B n n ls) (hb : But G W w) (hG : B ≠ G) : LevB w B n n ls := by
  obtain ⟨cur, h1, h2, h3⟩ := h
  exact ⟨cur, (hb.block B (lt_of_block h1) hG).trans h1, h2, h3⟩

theorem But.grownAt {O : Nat} {W w w' : World} {row : Option Nat} (h : But O W w) (hg : w.grownBy w' row) (hr : ∀ k, row = some k → k = O ∨ W.heap.size ≤ k) : But O W w' :=
  ⟨hg.os.trans h.os, hg.tape.trans h.tape, hg.output.trans h.output, Nat.le_trans h.size hg.size, fun k hk hne =>
    (hg.block k (Nat.lt_of_lt_of_le hk h.size) (fun e => by rcases hr k e.symm with h | h <;> omega)).trans (h.block k hk hne)⟩

theorem own_block {w : World} {base : Nat} {a : Option Addr} {n c : Nat} {e : TypeId} {size : Nat} {xs : List Value} (h : w.ownsRow base e size (.slice a n c) n xs) (hb : base < w.heap.size) :
    ∃ G, base ≤ G ∧ G < w.heap.size ∧ ∀ k, (Value.slice a n c).ownBlock = some k → k = G := by
  have hl := h.lt
  cases a with
  | none => exact ⟨base, Nat.le_refl _, hb, fun k hk => by simp [Value.ownBlock] at hk⟩
  | some ad => exact ⟨ad.block, (hl _ rfl).1, (hl _ rfl).2, fun k hk => by simp [Value.ownBlock] at hk; exact hk.symm⟩

theorem rawC_take {la lb : List Lev} {k q : Nat} (h : q < (cpd lb (fr la k) (nxt la k 1000000000)).length) :
    (rawC la lb k).take (q + 1) = (rawC la lb k).take q ++ [(fr (cpd lb (fr la k) (nxt la k 1000000000)) q, min (fe la k) (fe (cpd lb (fr la k) (nxt la k 1000000000)) q))] := by
  have h2 : q < (rawC la lb k).length := by unfold rawC; rw [List.length_map]; exact h
  rw [List.take_succ_eq_append_getElem h2]
  congr 2
  simp only [rawC, List.getElem_map, get_fr h, get_fe h]

theorem box1_below {w : World} {v0 : Value} {T : TypeId} : Below w.heap.size w (w.alloc (.cells #[v0] T)) := (Below.refl _ _).alloc (Nat.le_refl _) _

theorem rawFrom_wf {Ta Tb : Int} {la lb : List Lev} (pa : PO Ta la) (pb : PO Tb lb) : ∀ i, i < (rawFrom la lb la.length 0).length → (-9223372036854775808 ≤ fr (rawFrom la lb la.length 0) i ∧ fr (rawFrom la lb la.length 0) i ≤ 9223372036854775807) ∧ (-9223372036854775808 ≤ fe (rawFrom la lb la.length 0) i ∧ fe (rawFrom la lb la.length 0) i ≤ 9223372036854775807) := by
  intro i hi
  have h1 := low_all pa pb la.length 0 (Nat.zero_add _)
  have n1 := pa.n1
  rw [if_pos (by omega), pa.z] at h1
  have := h1.bd pa pb (Int.le_refl _) _ (List.getElem_mem hi)
  rw [get_fr hi, get_fe hi] at this
  omega

end Go.Proofs.Ytplcpiglciplkaa
