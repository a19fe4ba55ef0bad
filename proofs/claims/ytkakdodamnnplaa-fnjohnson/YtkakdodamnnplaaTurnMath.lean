/- All orders of some numbers: plain mathematics. -/
import Derived.Test.YtkakdodamnnplaaRowsR
namespace Go.Proofs.Ytkakdodamnnplaa
open Go.RowKit

def factN : Nat → Nat
  | 0 => 1
  | n + 1 => (n + 1) * factN n
/-- all orders of l, n numbers; the lesser places first -/
def turnsL : Nat → List Int → List (List Int)
  | 0, _ => [[]]
  | n + 1, l => (List.range l.length).flatMap fun i => (turnsL n (l.eraseIdx i)).map (zg l i :: ·)
/-- those that begin with one of the first i -/
def turnsP (n : Nat) (l : List Int) (i : Nat) : List (List Int) := (List.range i).flatMap fun i => (turnsL n (l.eraseIdx i)).map (zg l i :: ·)
theorem turnsP_zero (n : Nat) (l : List Int) : turnsP n l 0 = [] := rfl
theorem turnsP_succ (n : Nat) (l : List Int) (i : Nat) : turnsP n l (i + 1) = turnsP n l i ++ (turnsL n (l.eraseIdx i)).map (zg l i :: ·) := by
  unfold turnsP
  rw [List.range_succ, List.flatMap_append]
  simp
theorem turnsL_succ (n : Nat) (l : List Int) : turnsL (n + 1) l = turnsP n l l.length := rfl

theorem erase_len {l : List Int} {i : Nat} (h : i < l.length) : (l.eraseIdx i).length = l.length - 1 := List.length_eraseIdx_of_lt h

theorem turnsP_len {n : Nat} {l : List Int} (hl : l.length = n + 1) (ih : ∀ l : List Int, l.length = n → (turnsL n l).length = factN n) : ∀ i, i ≤ l.length → (turnsP n l i).length = i * factN n
  | 0, _ => by simp [turnsP_zero]
  | i + 1, hi => by
    rw [turnsP_succ, List.length_append, List.length_map, turnsP_len hl ih i (by omega), ih _ (by rw [erase_len (by omega)]; omega), Nat.add_mul]
    simp
theorem turnsL_len : ∀ (n : Nat) (l : List Int), l.length = n → (turnsL n l).length = factN n
  | 0, _, _ => rfl
  | n + 1, l, hl => by rw [turnsL_succ, turnsP_len hl (turnsL_len n) _ (Nat.le_refl _), hl]; rfl
theorem factN_le : ∀ n, n ≤ 6 → factN n ≤ 720 ∧ (n ≤ 5 → factN n ≤ 120)
  | 0, _ => by decide
  | 1, _ => by decide
  | 2, _ => by decide
  | 3, _ => by decide
  | 4, _ => by decide
  | 5, _ => by decide
  | 6, _ => by decide
  | n + 7, h => by omega

theorem perm_erase {l : List Int} {i : Nat} (h : i < l.length) : (zg l i :: l.eraseIdx i).Perm l := by
  rw [zg_get h, List.eraseIdx_eq_take_drop_succ]
  have e : l = l.take i ++ l[i] :: l.drop (i + 1) := by rw [List.getElem_cons_drop, List.take_append_drop]
  have p : (l[i] :: (l.take i ++ l.drop (i + 1))).Perm (l.take i ++ l[i] :: l.drop (i + 1)) := List.perm_middle.symm
  rw [← e] at p
  exact p
theorem turnsL_perm : ∀ (n : Nat) (l : List Int), l.length = n → ∀ t ∈ turnsL n l, t.Perm l
  | 0, l, hl, t, ht => by
    obtain rfl : l = [] := List.eq_nil_of_length_eq_zero hl
    obtain rfl : t = [] := List.mem_singleton.1 ht
    exact List.Perm.refl _
  | n + 1, l, hl, t, ht => by
    unfold turnsL at ht
    obtain ⟨i, hi, ht⟩ := List.mem_flatMap.1 ht
    obtain ⟨r, hr, rfl⟩ := List.mem_map.1 ht
    have hi' := List.mem_range.1 hi
    exact ((turnsL_perm n _ (by rw [erase_len hi']; omega) r hr).cons _).trans (perm_erase hi')

/-- 0, 1, .. ahead of n -/
def upN (n : Nat) : List Int := (List.range n).map fun (i : Nat) => (i : Int)
theorem upN_len (n : Nat) : (upN n).length = n := by simp [upN]
theorem upN_succ (n : Nat) : upN (n + 1) = upN n ++ [(n : Int)] := by simp [upN, List.range_succ]

end Go.Proofs.Ytkakdodamnnplaa
