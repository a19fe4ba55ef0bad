/- One after the other: the model's ends, lateness, weights. -/
import Derived.Test.YtmgeknddnamjlaaIntRow
import Derived.Test.YtmgeknddnamjlaaJobsOkS
namespace Go.Proofs.Ytmgeknddnamjlaa
open Go.RowKit

/-- the sum of the first k lengths -/
def sumTo (ls : List Jb) : Nat → Int
  | 0 => 0
  | k + 1 => sumTo ls k + (jg ls k).long
/-- the ends -/
def endsL (ls : List Jb) (k : Nat) : List Int := (List.range k).map fun i => sumTo ls (i + 1)
theorem endsL_len (ls : List Jb) (k : Nat) : (endsL ls k).length = k := by simp [endsL]
theorem endsL_g (ls : List Jb) {k i : Nat} (h : i < k) : zg (endsL ls k) i = sumTo ls (i + 1) := by simp [endsL, zg, h]
theorem endsL_succ (ls : List Jb) (k : Nat) : endsL ls (k + 1) = endsL ls k ++ [sumTo ls (k + 1)] := by simp [endsL, List.range_succ]

/-- what a right job's numbers keep -/
theorem jok_bd {j : Jb} (h : jok j = true) : 1 ≤ j.long ∧ j.long ≤ 10000 ∧ 0 ≤ j.due ∧ j.due ≤ 1000000000 ∧ 0 ≤ j.wt ∧ j.wt ≤ 1000 := by
  unfold jok jobB at h
  simp only [Bool.and_eq_true] at h
  obtain ⟨⟨⟨⟨⟨⟨_, _⟩, h3⟩, h4⟩, h5⟩, _⟩, _⟩ := h
  unfold inB at h3 h5
  unfold okB inB at h4
  simp at h3 h4 h5
  omega

theorem sumTo_bd {ls : List Jb} {n : Nat} (h : jokTo ls n) : ∀ k, k ≤ n → 0 ≤ sumTo ls k ∧ sumTo ls k ≤ 10000 * (k : Int)
  | 0, _ => by simp [sumTo]
  | k + 1, hk => by
    have := sumTo_bd h k (by omega)
    have := jok_bd (h k (by omega)).1
    simp only [sumTo]
    omega

theorem infoI : (Try.prog.info? 2).map (fun i => (i.zero, i.size, i.bytes)) = some (some (.int .i64 0), 1, 8) := by kernel_rfl

theorem ownI_below {w w' : World} {base : Nat} {e : TypeId} {size : Nat} {v : Value} {n : Nat} {xs : List Value} (h : w.ownsRow base e size v n xs) (hb : Below w.heap.size w w') : w'.ownsRow base e size v n xs := by
  have hl := h.lt
  refine ⟨h.1, ?_⟩
  rcases h.2 with h | ⟨g, cap, cur, rfl, hg, hgg, h⟩
  · exact .inl h
  · exact .inr ⟨g, cap, cur, rfl, hg, (hb.block g (hl g rfl).2).trans hgg, h⟩

theorem own_one (W : World) (z : Int) (T : TypeId) : ∀ j u, [Value.int .i64 z][j]? = some u → (W.alloc (.cells #[.int .i64 z] T)).cell? ((⟨W.heap.size, 0, none⟩ : Addr).add j) = some u := fun j u h => cell_one_new W _ T j u h

end Go.Proofs.Ytmgeknddnamjlaa
