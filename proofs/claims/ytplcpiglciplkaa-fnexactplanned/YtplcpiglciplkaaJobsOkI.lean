/- JobsOk of the program. -/
import Derived.Test.YtplcpiglciplkaaJobFew
namespace Go.Proofs.Ytplcpiglciplkaa
open Go.RowKit Go.Sort

noncomputable def numI (ls : List Jb) (n : Nat) (id : Int) : Int := Classical.epsilon (IsNum ls n id)
theorem numI_eq {ls : List Jb} {n : Nat} {id r : Int} (h : IsNum ls n id r) : r = numI ls n id := h.uniq (Classical.epsilon_spec ⟨r, h⟩)
theorem isNum_some (ls : List Jb) (id : Int) : ∀ n, ∃ r, IsNum ls n id r
  | 0 => ⟨-1, Or.inl ⟨rfl, fun i hi => by omega⟩⟩
  | n + 1 => by
    obtain ⟨r, h⟩ := isNum_some ls id n
    rcases h with ⟨rfl, h1⟩ | ⟨k, rfl, h1, h2, h3⟩
    · by_cases e : (jg ls n).id = id
      · exact ⟨n, Or.inr ⟨n, rfl, by omega, e, h1⟩⟩
      · exact ⟨-1, Or.inl ⟨rfl, fun i hi => by (by_cases e' : i = n; (subst e'; exact e); exact h1 i (by omega))⟩⟩
    · exact ⟨k, Or.inr ⟨k, rfl, by omega, h2, h3⟩⟩
theorem numI_is (ls : List Jb) (n : Nat) (id : Int) : IsNum ls n id (numI ls n id) := Classical.epsilon_spec (isNum_some ls id n)
theorem IsNum.pre {ls : List Jb} {n m : Nat} {id r : Int} (h : IsNum (ls.take m) n id r) (hn : n ≤ m) : IsNum ls n id r := by
  have e : ∀ i, i < n → jg (ls.take m) i = jg ls i := fun i hi => by simp [jg, show i < m by omega]
  rcases h with ⟨rfl, h1⟩ | ⟨k, rfl, h1, h2, h3⟩
  · exact Or.inl ⟨rfl, fun i hi => by rw [← e i hi]; exact h1 i hi⟩
  · exact Or.inr ⟨k, rfl, h1, by rw [← e k h1]; exact h2, fun i hi => by rw [← e i (by omega)]; exact h3 i hi⟩

theorem implJobsOk_any (a : Option Addr) (n cap : Nat) (ls : List Jb) (w : World) (h : JobS w a n cap ls) :
    Calls Try.prog 81 #[.slice a n cap] w fun e w' => e = .returned (.bool (jsB ls)) ∧ Below w.heap.size w w' := by
  go_enter Try.func81, Try.ntmps81
  go_wp2_with (go_at_call 99; refine (fewUnlike_job _ _ _ _ _ h).mono ?_; rintro e w1 ⟨rfl, hb1⟩)
  go_ret
  exact ⟨rfl, hb1⟩

end Go.Proofs.Ytplcpiglciplkaa
