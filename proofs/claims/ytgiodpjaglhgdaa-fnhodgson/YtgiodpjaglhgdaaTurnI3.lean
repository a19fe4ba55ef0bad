/- Turns, of the program and of the model, at every number. -/
import Derived.Test.YtgiodpjaglhgdaaTurnI2
namespace Go.Proofs.Ytgiodpjaglhgdaa
open Go Go.RowKit

theorem implTurns_any (n : Int) (w : World) :
    Calls Try.prog 51 #[.int .i64 n] w fun e w' => ∃ v X, e = .returned v ∧ RRows w' w.heap.size v X ∧ X.map (·.l) = turnsV n ∧ Below w.heap.size w w' := by
  by_cases c : 0 ≤ n ∧ n ≤ 6
  · obtain ⟨m, rfl⟩ := Int.eq_ofNat_of_zero_le c.1
    refine (implTurns_yes m (by omega) w).mono ?_
    rintro e w' ⟨v, X, rfl, hR, hX, hB⟩
    exact ⟨v, X, rfl, hR, by rw [hX]; unfold turnsV; rw [if_pos c]; simp, hB⟩
  · have dc : inB n 0 6 = false := by unfold inB; simp; omega
    have HV : Hid (turnsV n = []) := by unfold Hid turnsV; rw [if_neg c]
    go_enter Try.func51, Try.ntmps51
    go_wp2_with fail
    refine (within_any _ _ _ _).mono ?_
    rw [dc]
    rintro e w' ⟨rfl, hq⟩; have hq' := hq.symm; clear hq; subst hq'
    go_wp2
    go_ret
    exact ⟨_, [], rfl, ⟨⟨rfl, Or.inl ⟨rfl, rfl⟩⟩, (fun x hx => by cases hx), List.Pairwise.nil, (fun x hx => by cases hx)⟩, by rw [HV.out]; rfl, Below.refl _ _⟩

theorem turnsV_bd (n : Int) : (turnsV n).length ≤ 720 ∧ ∀ t ∈ turnsV n, t.length ≤ 6 := by
  unfold turnsV
  by_cases c : 0 ≤ n ∧ n ≤ 6
  · rw [if_pos c]
    refine ⟨?_, fun t ht => ?_⟩
    · rw [turnsL_len _ _ (upN_len _)]; exact (factN_le _ (by omega)).1
    · rw [(turnsL_perm _ _ (upN_len _) t ht).length_eq, upN_len]; omega
  · rw [if_neg c]
    exact ⟨by simp, fun t ht => by cases ht⟩
theorem turns_tot {n : Int} {X : List Rw} (h : X.map (·.l) = turnsV n) : X.length ≤ 720 ∧ totR X X.length ≤ 4320 ∧ ∀ x ∈ X, x.l.length ≤ 6 := by
  obtain ⟨h1, h2⟩ := turnsV_bd n
  have hx : ∀ x ∈ X, x.l.length ≤ 6 := fun x hx => h2 _ (by rw [← h]; exact List.mem_map.2 ⟨x, hx, rfl⟩)
  have hl : X.length ≤ 720 := by have := congrArg List.length h; simp at this; omega
  exact ⟨hl, by have := totR_bd hx X.length (Nat.le_refl _); omega, hx⟩

end Go.Proofs.Ytgiodpjaglhgdaa
