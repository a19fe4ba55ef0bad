/- All orders, of the model. -/
import Derived.Test.YtkakdodamnnplaaInts
import Derived.Test.YtkakdodamnnplaaTurnMath
import Derived.Test.YtkakdodamnnplaaStepApp
import Derived.Deep.RegionHeldLaw
namespace Go.Proofs.Ytkakdodamnnplaa
open Go.RowKit

theorem infoIS : (Try.prog.info? 34).map (fun i => (i.zero, i.size, i.bytes)) = some (some (.slice none 0 0), 1, 24) := by kernel_rfl

theorem ints_len (l : List Int) : (ints l).length = l.length := by simp [ints]
theorem ints_one (l : List Int) : ∀ u ∈ ints l, u.oneCell' = true := fun u hu => by
  unfold ints at hu
  obtain ⟨z, _, rfl⟩ := List.mem_map.1 hu
  rfl
theorem ints_app (a b : List Int) : ints (a ++ b) = ints a ++ ints b := by simp [ints]

/-- what an own row of numbers is, as a row -/
theorem rowOk_of {w : World} {base n : Nat} {v : Value} {vs : List Value} {l : List Int} (h : w.ownsRow base 2 1 v n vs) (hl : n = l.length) (hv : vs = ints l) : ∃ x : Rw, v = x.val ∧ x.l = l ∧ RowOk w base x ∧ v.ownBlock = x.o := by
  subst hl hv
  rcases h.2 with ⟨h1, h2⟩ | ⟨g, cap, cur, e, h3⟩
  · have e0 : l = [] := List.eq_nil_of_length_eq_zero h2
    subst e0
    exact ⟨⟨none, 0, []⟩, h1, rfl, by unfold RowOk Rw.val Rw.a; exact ⟨rfl, Or.inl ⟨rfl, rfl⟩⟩, by rw [h1]; rfl⟩
  · exact ⟨⟨some g, cap, l⟩, e, rfl, ⟨h.1, Or.inr ⟨g, cap, cur, rfl, h3⟩⟩, by rw [e]; rfl⟩

theorem RowOk.cells {w : World} {base : Nat} {x : Rw} (h : RowOk w base x) {g : Nat} (hg : x.o = some g) : ∀ j u, (ints x.l)[j]? = some u → w.cell? ((⟨g, 0, none⟩ : Addr).add j) = some u := fun j u hju =>
  World.ownsRow.cells (show w.ownsRow base 2 1 (.slice (some ⟨g, 0, none⟩) x.l.length x.c) x.l.length (ints x.l) from by have := h; unfold RowOk Rw.val Rw.a at this; rw [hg] at this; exact this) (g := g) rfl j u hju

theorem RRows.app {w w' : World} {base : Nat} {v v' : Value} {X : List Rw} {x : Rw} (h : RRows w base v X) (hx : RowOk w base x) (hfr : ∀ g, x.o = some g → (∀ y ∈ X, y.o ≠ some g) ∧ v.ownBlock ≠ some g)
    (own : w'.ownsRow base 34 1 v' (X.length + 1) (X.map Rw.val ++ [x.val])) (grow : w.grownBy w' v.ownBlock) (hat : v'.ownBlock = v.ownBlock ∨ v'.ownBlock = some w.heap.size) : RRows w' base v' (X ++ [x]) := by
  have keep : ∀ y, RowOk w base y → (∀ g, y.o = some g → v.ownBlock ≠ some g) → RowOk w' base y := fun y hy hn => hy.keep (fun g hg => grow.block g (hy.lt hg).1 (Ne.symm (hn g hg)))
  refine ⟨by simpa using own, fun y hy => ?_, ?_, fun y hy g hg e => ?_⟩
  · rcases List.mem_append.1 hy with hy | hy
    · exact keep y (h.ok y hy) (h.outer y hy)
    · obtain rfl := List.mem_singleton.1 hy
      exact keep y hx (fun g hg => (hfr g hg).2)
  · rw [List.pairwise_append]
    refine ⟨h.apart, List.pairwise_singleton _ _, fun y hy z hz g hg e => ?_⟩
    obtain rfl := List.mem_singleton.1 hz
    exact (hfr g e).1 y hy hg
  · have hold : ∀ y, RowOk w base y → y.o = some g → v'.ownBlock = some w.heap.size → False := fun y hy hg e2 => by
      rw [e] at e2
      have := (hy.lt hg).1
      injection e2 with e2
      omega
    rcases List.mem_append.1 hy with hy | hy
    · rcases hat with e2 | e2
      · exact h.outer y hy g hg (by rw [← e2]; exact e)
      · exact hold y (h.ok y hy) hg e2
    · obtain rfl := List.mem_singleton.1 hy
      rcases hat with e2 | e2
      · exact (hfr g hg).2 (by rw [← e2]; exact e)
      · exact hold y hx hg e2

theorem RRows.keep {w w' : World} {base : Nat} {v : Value} {X : List Rw} (h : RRows w base v X) (hv : ∀ g, v.ownBlock = some g → w'.heap[g]? = w.heap[g]?) (hx : ∀ x ∈ X, ∀ g, x.o = some g → w'.heap[g]? = w.heap[g]?) : RRows w' base v X := by
  refine ⟨⟨h.own.1, ?_⟩, fun x hx' => (h.ok x hx').keep (hx x hx'), h.apart, h.outer⟩
  rcases h.own.2 with h2 | ⟨g, cap, cur, e, h1, h2, h3⟩
  · exact Or.inl h2
  · exact Or.inr ⟨g, cap, cur, e, h1, (hv g (by rw [e]; rfl)).trans h2, h3⟩

theorem addr_add (g o j : Nat) : (⟨g, o, none⟩ : Addr).add j = ⟨g, o + j, none⟩ := by unfold Addr.add; split <;> simp_all
theorem RRows.blk {w : World} {base : Nat} {v : Value} {X : List Rw} (h : RRows w base v X) : ∀ r, v.ownBlock = some r → base ≤ r ∧ r < w.heap.size := fun r hr => World.ownsRow.lt h.own r hr
/-- every row has a block -/
def AllSome (X : List Rw) : Prop := ∀ x ∈ X, ∃ g, x.o = some g
/-- a literal of one number -/
theorem one_rowI (w : World) (z : Int) (base : Nat) (hb : base ≤ w.heap.size) : (w.alloc (.cells #[.int .i64 z] 2)).ownsRow base 2 1 (.slice (some ⟨w.heap.size, 0, none⟩) 1 1) 1 (ints [z]) :=
  ⟨rfl, Or.inr ⟨w.heap.size, 1, #[.int .i64 z], rfl, hb, heap_alloc_new _ _, Nat.le_refl _, by unfold maxLen; omega, rfl, rfl⟩⟩

end Go.Proofs.Ytkakdodamnnplaa
