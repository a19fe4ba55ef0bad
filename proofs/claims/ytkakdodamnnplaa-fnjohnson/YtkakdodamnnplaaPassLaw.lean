/- Chapter 7's laws, their mathematics over right lists. -/
import Derived.Test.YtkakdodamnnplaaPassThr
import Derived.Test.YtkakdodamnnplaaTurnMath
namespace Go.Proofs.Ytkakdodamnnplaa

theorem psOk_iff {ls : List Pz} : PsOk ls ↔ ls.length ≤ 40 ∧ (∀ x ∈ ls, pok x = true) ∧ ls.Pairwise fun x y => x.id ≠ y.id := by
  constructor
  · intro h
    refine ⟨h.n, fun x hx => ?_, ?_⟩
    · obtain ⟨i, hi, rfl⟩ := List.getElem_of_mem hx
      rw [← pzg_get hi]; exact (h.ok i hi).1
    · rw [List.pairwise_iff_getElem]
      intro i j hi hj hij
      rw [← pzg_get hi, ← pzg_get hj]
      exact (h.ok j hj).2 i hij
  · rintro ⟨h1, h2, h3⟩
    refine ⟨h1, fun i hi => ⟨?_, fun k hk => ?_⟩⟩
    · rw [pzg_get hi]; exact h2 _ (List.getElem_mem hi)
    · rw [pzg_get hi, pzg_get (Nat.lt_trans hk hi)]
      exact (List.pairwise_iff_getElem.1 h3) k i (by omega) hi hk
theorem PsOk.perm {ls ys : List Pz} (h : PsOk ls) (p : ys.Perm ls) : PsOk ys := by
  obtain ⟨h1, h2, h3⟩ := psOk_iff.1 h
  exact psOk_iff.2 ⟨by rw [p.length_eq]; exact h1, fun x hx => h2 x (p.subset hx), p.symm.pairwise h3 (fun e => Ne.symm e)⟩
theorem pok_flip {x : Pz} (h : pok x = true) : pok (flipP x) = true := by
  unfold pok flipP at *
  simp only [Bool.and_eq_true] at *
  exact ⟨⟨h.1.1, h.2⟩, h.1.2⟩
theorem PsOk.mir {ls : List Pz} (h : PsOk ls) : PsOk (mirP ls) := by
  obtain ⟨h1, h2, h3⟩ := psOk_iff.1 h
  refine psOk_iff.2 ⟨by simp [mirP]; exact h1, fun x hx => ?_, ?_⟩
  · unfold mirP at hx
    obtain ⟨y, hy, rfl⟩ := List.mem_map.1 (List.mem_reverse.1 hx)
    exact pok_flip (h2 y hy)
  · unfold mirP
    rw [List.pairwise_reverse, List.pairwise_map]
    exact h3.imp fun e => Ne.symm e

theorem sumB_perm {xs ys : List Pz} (p : xs.Perm ys) : sumB xs = sumB ys := by
  induction p with
  | nil => rfl
  | cons x _ ih => simp only [sumB]; omega
  | swap x y l => simp only [sumB]; omega
  | trans _ _ i1 i2 => omega

theorem drop_step {ls : List Pz} {k : Nat} (hk : k < ls.length) : ls.drop k = pzg ls k :: ls.drop (k + 1) := by
  rw [pzg_get hk]; exact List.drop_eq_getElem_cons hk
theorem mir_step {ls : List Pz} {k : Nat} (hk : k < ls.length) : mirP (ls.drop k) = mirP (ls.drop (k + 1)) ++ [flipP (pzg ls k)] := by
  rw [drop_step hk, mirP_cons]
theorem sumA_drop {ls : List Pz} {k : Nat} (hk : k < ls.length) : sumA (ls.drop k) = sumA (ls.drop (k + 1)) + (pzg ls k).a := by
  rw [drop_step hk]; simp only [sumA]; omega
theorem sumB_drop {ls : List Pz} {k : Nat} (hk : k < ls.length) : sumB (ls.drop k) = sumB (ls.drop (k + 1)) + (pzg ls k).b := by
  rw [drop_step hk]; simp only [sumB]; omega
theorem drop_bd {ls : List Pz} (h : PsOk ls) (k : Nat) : 0 ≤ sumA (ls.drop k) ∧ sumA (ls.drop k) ≤ 400000 ∧ 0 ≤ sumB (ls.drop k) ∧ sumB (ls.drop k) ≤ 400000 := by
  have hn := nnP_of h
  have hd : nnP (ls.drop k) := fun x hx => hn x (List.mem_of_mem_drop hx)
  have ht : nnP (ls.take k) := fun x hx => hn x (List.mem_of_mem_take hx)
  have h1 := sums_nn hd
  have h2 := sums_nn ht
  have e1 := sumA_app (ls.take k) (ls.drop k)
  have e2 := sumB_app (ls.take k) (ls.drop k)
  rw [List.take_append_drop] at e1 e2
  have hb := thr_bd h (k := ls.length) (Nat.le_refl _)
  rw [List.take_of_length_le (Nat.le_refl _)] at hb
  have := h.n
  omega

/-- the mirrored list: what the law asks of it -/
theorem mir_law {ls : List Pz} (h : PsOk ls) : thrF (mirP ls) = thrV ls ∧ sumA ls ≤ thrV ls ∧ sumB ls ≤ thrV ls ∧ thrV ls ≤ sumA ls + sumB ls := by
  have hn := nnP_of h
  exact ⟨by rw [thrF_t (psB_mk h.mir)]; exact mirrored hn, thr_bounds hn⟩

/-- no order is through sooner than Johnson's -/
theorem IsJ.best {ls zs qs : List Pz} (h : IsJ ls zs) (hq : psB ls = true) (p : qs.Perm ls) : thrF zs ≤ thrF qs := by
  rcases h with ⟨h0, _⟩ | ⟨_, h1, h2⟩
  · rw [hq] at h0; cases h0
  · have ho := psB_t hq
    rw [thrF_t (psB_mk (ho.perm h1)), thrF_t (psB_mk (ho.perm p))]
    exact johnson_best zs qs 0 0 (h1.trans p.symm) (h2.imp fun e => jle_of e)
theorem IsJ.thr {ls zs : List Pz} (h : IsJ ls zs) (hq : psB ls = true) : thrF zs = thrV zs ∧ idlF zs = thrV zs - sumB ls ∧ sumB ls ≤ thrV zs ∧ zs.length = ls.length ∧ 0 ≤ thrV zs ∧ thrV zs ≤ 800000 := by
  rcases h with ⟨h0, _⟩ | ⟨_, h1, h2⟩
  · rw [hq] at h0; cases h0
  · have ho := (psB_t hq).perm h1
    have hz := psB_mk ho
    have hn := nnP_of ho
    have hb := thr_bd ho (k := zs.length) (Nat.le_refl _)
    rw [List.take_of_length_le (Nat.le_refl _)] at hb
    have := ho.n
    have hs := thr_bounds hn
    refine ⟨thrF_t hz, by rw [idlF_t hz, sumB_perm h1], by rw [← sumB_perm h1]; exact hs.2.1, h1.length_eq, hb.2.2.2.2.1, by omega⟩

/-- an order, told by numbers -/
def turnedP (ls : List Pz) (t : List Int) : List Pz := t.map fun z => pzg ls z.toNat
theorem turnedP_len (ls : List Pz) (t : List Int) : (turnedP ls t).length = t.length := by simp [turnedP]
theorem turnedP_perm {ls : List Pz} {t : List Int} (h : t.Perm (upN ls.length)) : (turnedP ls t).Perm ls := by
  have h1 : (turnedP ls t).Perm (turnedP ls (upN ls.length)) := h.map _
  have h2 : turnedP ls (upN ls.length) = ls := by
    refine List.ext_getElem (by rw [turnedP_len, upN_len]) (fun i h1 h2 => ?_)
    simp [turnedP, upN, pzg_get h2]
  rw [h2] at h1
  exact h1

end Go.Proofs.Ytkakdodamnnplaa
