/- Two machines in a row: plain mathematics of chapter 7. -/
import Derived.Test.YtkakdodamnnplaaPassD
namespace Go.Proofs.Ytkakdodamnnplaa

/-- when all are through, from A on the first and B on the second -/
def thr (A B : Int) : List Pz → Int
  | [] => B
  | x :: xs => thr (A + x.a) (max (A + x.a) B + x.b) xs
def thrV (xs : List Pz) : Int := thr 0 0 xs
def sumA : List Pz → Int
  | [] => 0
  | x :: xs => x.a + sumA xs
def sumB : List Pz → Int
  | [] => 0
  | x :: xs => x.b + sumB xs
def nnP (xs : List Pz) : Prop := ∀ x ∈ xs, 0 ≤ x.a ∧ 0 ≤ x.b

theorem thr_mono : ∀ (xs : List Pz) (A B B' : Int), B ≤ B' → thr A B xs ≤ thr A B' xs
  | [], _, _, _, h => h
  | x :: xs, A, B, B', h => thr_mono xs _ _ _ (by omega)
theorem thr_app : ∀ (xs ys : List Pz) (A B : Int), thr A B (xs ++ ys) = thr (A + sumA xs) (thr A B xs) ys
  | [], ys, A, B => by simp [thr, sumA]
  | x :: xs, ys, A, B => by
    show thr _ _ (xs ++ ys) = _
    rw [thr_app xs ys]
    show thr (A + x.a + sumA xs) _ ys = thr (A + (x.a + sumA xs)) _ ys
    rw [Int.add_assoc]; rfl
theorem thr_go (A B : Int) (x : Pz) (xs : List Pz) : thr A B (x :: xs) = thr (A + x.a) (max (A + x.a) B + x.b) xs := rfl

/-- from where the second is not ahead of the first -/
theorem thr_from : ∀ (xs : List Pz) (A B : Int), nnP xs → A ≤ B → thr A B xs = max (A + thrV xs) (B + sumB xs)
  | [], A, B, _, h => by show B = max (A + 0) (B + 0); omega
  | x :: xs, A, B, hn, h => by
    have hx := hn x List.mem_cons_self
    have hn' : nnP xs := fun y hy => hn y (List.mem_cons_of_mem _ hy)
    have e1 := thr_from xs (A + x.a) (max (A + x.a) B + x.b) hn' (by omega)
    have e2 := thr_from xs (0 + x.a) (max (0 + x.a) 0 + x.b) hn' (by omega)
    have e3 : thrV (x :: xs) = thr (0 + x.a) (max (0 + x.a) 0 + x.b) xs := rfl
    rw [thr_go, e1, e3, e2]
    simp only [sumB]
    omega
theorem thrV_cons {x : Pz} {xs : List Pz} (hn : nnP (x :: xs)) : thrV (x :: xs) = x.a + max (thrV xs) (x.b + sumB xs) := by
  have hx := hn x List.mem_cons_self
  have hn' : nnP xs := fun y hy => hn y (List.mem_cons_of_mem _ hy)
  have e2 := thr_from xs (0 + x.a) (max (0 + x.a) 0 + x.b) hn' (by omega)
  have e3 : thrV (x :: xs) = thr (0 + x.a) (max (0 + x.a) 0 + x.b) xs := rfl
  rw [e3, e2]; omega
theorem thrV_snoc (xs : List Pz) (x : Pz) : thrV (xs ++ [x]) = max (sumA xs + x.a) (thrV xs) + x.b := by
  unfold thrV
  rw [thr_app, thr_go]
  simp only [thr, Int.zero_add]
theorem sumA_app : ∀ (xs ys : List Pz), sumA (xs ++ ys) = sumA xs + sumA ys
  | [], ys => by simp [sumA]
  | x :: xs, ys => by simp only [List.cons_append, sumA, sumA_app xs ys]; omega
theorem sumB_app : ∀ (xs ys : List Pz), sumB (xs ++ ys) = sumB xs + sumB ys
  | [], ys => by simp [sumB]
  | x :: xs, ys => by simp only [List.cons_append, sumB, sumB_app xs ys]; omega
theorem sums_nn : ∀ {xs : List Pz}, nnP xs → 0 ≤ sumA xs ∧ 0 ≤ sumB xs
  | [], _ => by simp [sumA, sumB]
  | x :: xs, h => by
    have := sums_nn (xs := xs) (fun y hy => h y (List.mem_cons_of_mem _ hy))
    have hx := h x List.mem_cons_self
    simp only [sumA, sumB]; omega

/-- the machines changed -/
def flipP (x : Pz) : Pz := ⟨x.id, x.b, x.a⟩
def mirP (xs : List Pz) : List Pz := (xs.map flipP).reverse
theorem mirP_cons (x : Pz) (xs : List Pz) : mirP (x :: xs) = mirP xs ++ [flipP x] := by simp [mirP]
theorem mir_sumA : ∀ xs : List Pz, sumA (mirP xs) = sumB xs
  | [] => rfl
  | x :: xs => by rw [mirP_cons, sumA_app, mir_sumA xs]; simp only [sumA, sumB, flipP]; omega
/-- in the other order, with both machines changed, it is the same -/
theorem mirrored : ∀ {xs : List Pz}, nnP xs → thrV (mirP xs) = thrV xs
  | [], _ => rfl
  | x :: xs, h => by
    have hn' : nnP xs := fun y hy => h y (List.mem_cons_of_mem _ hy)
    rw [mirP_cons, thrV_snoc, mirrored hn', mir_sumA, thrV_cons h]
    simp only [flipP]
    omega
theorem thr_bounds : ∀ {xs : List Pz}, nnP xs → sumA xs ≤ thrV xs ∧ sumB xs ≤ thrV xs ∧ thrV xs ≤ sumA xs + sumB xs
  | [], _ => by simp [sumA, sumB, thrV, thr]
  | x :: xs, h => by
    have hn' : nnP xs := fun y hy => h y (List.mem_cons_of_mem _ hy)
    have hx := h x List.mem_cons_self
    have ih := thr_bounds hn'
    have hs := sums_nn hn'
    rw [thrV_cons h]
    simp only [sumA, sumB]
    omega

/-! ### Johnson -/
/-- the one may be ahead of the other -/
def jle (x y : Pz) : Prop := min x.a y.b ≤ min y.a x.b
theorem swap_le {x y : Pz} (h : jle x y) (A B : Int) (r : List Pz) : thr A B (x :: y :: r) ≤ thr A B (y :: x :: r) := by
  unfold jle at h
  show thr (A + x.a + y.a) (max (A + x.a + y.a) (max (A + x.a) B + x.b) + y.b) r ≤ thr (A + y.a + x.a) (max (A + y.a + x.a) (max (A + y.a) B + y.b) + x.b) r
  rw [show A + y.a + x.a = A + x.a + y.a by omega]
  exact thr_mono r _ _ _ (by omega)
/-- who may be ahead of all goes to the front -/
theorem front_le : ∀ (pre : List Pz) (z : Pz) (post : List Pz) (A B : Int), (∀ p ∈ pre, jle z p) → thr A B (z :: (pre ++ post)) ≤ thr A B (pre ++ z :: post)
  | [], _, _, _, _, _ => Int.le_refl _
  | p :: pre, z, post, A, B, h => by
    have h1 := swap_le (h p List.mem_cons_self) A B (pre ++ post)
    have h2 := front_le pre z post (A + p.a) (max (A + p.a) B + p.b) (fun q hq => h q (List.mem_cons_of_mem _ hq))
    exact Int.le_trans h1 h2
/-- no order is through sooner than a sorted one -/
theorem johnson_best : ∀ (zs ys : List Pz) (A B : Int), zs.Perm ys → zs.Pairwise jle → thr A B zs ≤ thr A B ys
  | [], ys, A, B, hp, _ => by rw [List.nil_perm.1 hp]; exact Int.le_refl _
  | z :: zs, ys, A, B, hp, hs => by
    have hz : z ∈ ys := hp.subset List.mem_cons_self
    obtain ⟨pre, post, rfl⟩ := List.append_of_mem hz
    have hp' : zs.Perm (pre ++ post) := by
      have := hp.trans List.perm_middle
      exact (List.perm_cons z).1 this
    rw [List.pairwise_cons] at hs
    have h1 := front_le pre z post A B (fun p hp2 => hs.1 p (hp'.symm.subset (List.mem_append_left _ hp2)))
    have h2 := johnson_best zs (pre ++ post) (A + z.a) (max (A + z.a) B + z.b) hp' hs.2
    exact Int.le_trans h2 h1

/-- Johnson's order -/
def ltJ (x y : Pz) : Bool :=
  if decide (x.a < x.b) ≠ decide (y.a < y.b) then decide (x.a < x.b)
  else if x.a < x.b ∧ x.a ≠ y.a then decide (x.a < y.a)
  else if ¬ x.a < x.b ∧ x.b ≠ y.b then decide (y.b < x.b)
  else decide (x.id < y.id)
theorem ltJ_iff {x y : Pz} : ltJ x y = true ↔ (x.a < x.b ∧ ¬ y.a < y.b) ∨ (x.a < x.b ∧ y.a < y.b ∧ (x.a < y.a ∨ (x.a = y.a ∧ x.id < y.id))) ∨ (¬ x.a < x.b ∧ ¬ y.a < y.b ∧ (y.b < x.b ∨ (x.b = y.b ∧ x.id < y.id))) := by
  unfold ltJ
  by_cases h1 : x.a < x.b <;> by_cases h2 : y.a < y.b <;> simp [h1, h2]
  · by_cases h3 : x.a = y.a <;> simp [h3] <;> omega
  · by_cases h3 : x.b = y.b <;> simp [h3] <;> omega
theorem jle_of {x y : Pz} (h : ltJ y x = false) : jle x y := by
  have h' : ¬ (ltJ y x = true) := by rw [h]; exact Bool.false_ne_true
  rw [ltJ_iff] at h'
  unfold jle
  omega
theorem ltJ_irr (x : Pz) : ltJ x x = false := by
  rw [← Bool.not_eq_true, ltJ_iff]; omega
theorem ltJ_trans {x y z : Pz} (h : ltJ x y = true) (g : ltJ y z = true) : ltJ x z = true := by
  rw [ltJ_iff] at *; omega
theorem ltJ_ntrans {x y z : Pz} (h : ltJ x y = false) (g : ltJ y z = false) : ltJ x z = false := by
  rw [← Bool.not_eq_true, ltJ_iff] at *; omega
theorem ltJ_anti {x y : Pz} (h : ltJ x y = false) (g : ltJ y x = false) : x.id = y.id := by
  rw [← Bool.not_eq_true, ltJ_iff] at *; omega

end Go.Proofs.Ytkakdodamnnplaa
