/- Chapter 11's laws, their mathematics: what is picked can be taken, and of a node that is drained nothing is picked. -/
import Derived.Test.YtdgfkcobhhlfbaaGreatNodeM
namespace Go.Proofs.YtdgfkcobhhlfbaaGreat
open Go.RowKit

variable {l : List Nd} {u : List Int} {c : Int}
theorem smK_app (ps : List Pt) (p : Pt) (i : Nat) : ∀ k, k ≤ ps.length → smK (ps ++ [p]) i k = smK ps i k
  | 0, _ => rfl
  | k + 1, hk => by
    have ih := smK_app ps p i k (by omega)
    have e : ptg (ps ++ [p]) k = ptg ps k := by unfold ptg; rw [List.getElem?_append_left (by omega)]
    simp only [smK]
    rw [ih, e]
/-- what is picked of node i -/
theorem pk_sm (hc : 0 ≤ c) (h : UsOk l u) (i : Nat) : ∀ k, k ≤ l.length → smK (pkP l u c k) i (pkP l u c k).length = if i < k ∧ (ndg l i).state = 1 then pkN l u c i else 0
  | 0, _ => by rw [pkP_0, if_neg (by omega)]; rfl
  | k + 1, hk => by
    have ih := pk_sm hc h i k (by omega)
    have hb := pkN_bd hc h (k := k) (by omega)
    by_cases q : (ndg l k).state = 1 ∧ 0 < pkN l u c k
    · have eg : ptg (pkP l u c k ++ [⟨(k : Int), pkN l u c k⟩]) (pkP l u c k).length = ⟨(k : Int), pkN l u c k⟩ := by
        unfold ptg; rw [List.getElem?_append_right (Nat.le_refl _), Nat.sub_self]; rfl
      rw [(pk_yes q).2, List.length_append]
      simp only [List.length_cons, List.length_nil, Nat.zero_add, smK]
      rw [smK_app _ _ _ _ (Nat.le_refl _), ih, eg]
      by_cases e : i = k
      · subst e
        rw [if_pos rfl, if_neg (by omega), if_pos ⟨by omega, q.1⟩]
        show 0 + pkN l u c i = _
        omega
      · rw [if_neg (show ¬ ((k : Int) = (i : Int)) by omega)]
        by_cases e2 : i < k ∧ (ndg l i).state = 1
        · rw [if_pos e2, if_pos ⟨by omega, e2.2⟩]
        · rw [if_neg e2, if_neg (fun h9 => e2 ⟨by omega, h9.2⟩)]
    · rw [(pk_no q).2, ih]
      by_cases e : i = k
      · subst e
        rw [if_neg (by omega)]
        by_cases s1 : (ndg l i).state = 1
        · rw [if_pos ⟨by omega, s1⟩]
          have : ¬ 0 < pkN l u c i := fun h9 => q ⟨s1, h9⟩
          omega
        · rw [if_neg (fun h9 => s1 h9.2)]
      · by_cases e2 : i < k ∧ (ndg l i).state = 1
        · rw [if_pos e2, if_pos ⟨by omega, e2.2⟩]
        · rw [if_neg e2, if_neg (fun h9 => e2 ⟨by omega, h9.2⟩)]
theorem pk_ptOk (hc : 0 ≤ c) (h : UsOk l u) : ptOk (pkP l u c l.length) u.length (pkP l u c l.length).length := fun j hj => by
  obtain ⟨i, h1, h2, h3, h4, h5⟩ := (pkP_at h hc l.length (Nat.le_refl _)).1 j hj
  have := pkN_bd hc h h1
  have := h.len
  omega
/-- what is picked can be taken: used stays right, and there is just that less ready -/
theorem pk_taken (hc : 0 ≤ c) (h : UsOk l u) : ∃ m, chF u (pkP l u c l.length) 1 = some m ∧ UsOk l m ∧ rdK l m l.length = rdK l u l.length - (c - pkC l u c l.length) := by
  have hlen := h.len
  have n2 := h.ns.n2
  have hu : uoB u u.length = true := uoB_mk fun i hi => by
    have h1 := h.us i (by omega)
    have h2 := (nOk_t (h.ns.ok i (by omega))).1
    omega
  have hp := pk_ptOk hc h
  obtain ⟨m, hm⟩ := chK_can (u := u) (ps := pkP l u c l.length) (sign := 1) (Or.inl rfl) _ hp fun j i hj hi => by
    have h1 := smK_0 (i := i) (n := u.length) j fun q hq => hp q (by omega)
    have h2 := h.us i (by omega)
    omega
  obtain ⟨l1, _, e1⟩ := chK_sum _ m hm
  have e2 : ∀ i, i < l.length → zg m i = zg u i + if (ndg l i).state = 1 then pkN l u c i else 0 := fun i hi => by
    rw [e1 i (by omega), pk_sm hc h i _ (Nat.le_refl _)]
    by_cases s1 : (ndg l i).state = 1
    · rw [if_pos ⟨hi, s1⟩, if_pos s1]; omega
    · rw [if_neg fun h9 => s1 h9.2, if_neg s1]; omega
  refine ⟨m, by unfold chF; rw [if_pos hu]; exact hm, ⟨h.ns, by omega, fun i hi => ?_⟩, ?_⟩
  · rw [e2 i hi]
    have h1 := h.us i hi
    have h2 := pkN_bd hc h hi
    have h3 : pkN l u c i ≤ (ndg l i).cores - zg u i := by unfold pkN; omega
    split <;> omega
  · have key : ∀ k, k ≤ l.length → rdK l m k = rdK l u k - (c - pkC l u c k) := by
      intro k
      induction k with
      | zero => intro _; rw [pkC_0]; simp [rdK]
      | succ k ih =>
        intro hk
        have ih := ih (by omega)
        have h2 := pkN_bd hc h (k := k) (by omega)
        simp only [rdK]
        rw [ih, e2 k (by omega)]
        by_cases q : (ndg l k).state = 1 ∧ 0 < pkN l u c k
        · rw [(pk_yes q).1, if_pos q.1, if_pos q.1, if_pos q.1]; omega
        · rw [(pk_no q).1]
          by_cases s1 : (ndg l k).state = 1
          · have : ¬ 0 < pkN l u c k := fun h9 => q ⟨s1, h9⟩
            rw [if_pos s1, if_pos s1, if_pos s1]; omega
          · rw [if_neg s1, if_neg s1]
    exact key _ (Nat.le_refl _)
/-- nothing is wanted any more where there is enough -/
theorem pk_end (hc : 0 ≤ c) (h : UsOk l u) (hr : c ≤ rdK l u l.length) : pkC l u c l.length = 0 := by
  have := pkC_eq h hc l.length (Nat.le_refl _)
  omega

/-- a node is drained -/
def drn (l : List Nd) (k : Nat) : List Nd := l.set k ⟨(ndg l k).cores, 2⟩
theorem drn_len (l : List Nd) (k : Nat) : (drn l k).length = l.length := List.length_set
theorem drn_g {k i : Nat} (hk : k < l.length) : ndg (drn l k) i = if k = i then ⟨(ndg l k).cores, 2⟩ else ndg l i := by
  unfold drn
  by_cases e : k = i
  · subst e; rw [if_pos rfl]
    show ((l.set k _)[k]?).getD _ = _
    rw [List.getElem?_set_self hk]; rfl
  · rw [if_neg e]
    show ((l.set k _)[i]?).getD _ = (l[i]?).getD _
    rw [List.getElem?_set_ne e]
theorem drn_ok (h : UsOk l u) {k : Nat} (hk : k < l.length) : UsOk (drn l k) u := by
  have hlen := h.len
  refine ⟨⟨by rw [drn_len]; exact h.ns.n1, by rw [drn_len]; exact h.ns.n2, fun i hi => ?_⟩, by rw [drn_len]; exact hlen, fun i hi => ?_⟩
  · rw [drn_len] at hi
    rw [drn_g hk]
    by_cases e : k = i
    · subst e
      have := (nOk_t (h.ns.ok k hk)).1
      rw [if_pos rfl]
      unfold nOk inB
      simp only [Bool.and_eq_true, decide_eq_true_eq]
      omega
    · rw [if_neg e]; exact h.ns.ok i hi
  · rw [drn_len] at hi
    have h1 := h.us i hi
    rw [drn_g hk]
    by_cases e : k = i
    · subst e; rw [if_pos rfl]; exact h1
    · rw [if_neg e]; exact h1
theorem drn_rd {k : Nat} (hk : k < l.length) : ∀ m, rdK (drn l k) u m = rdK l u m - if k < m ∧ (ndg l k).state = 1 then (ndg l k).cores - zg u k else 0
  | 0 => by rw [if_neg (by omega)]; simp [rdK]
  | m + 1 => by
    have ih := drn_rd hk m
    simp only [rdK]
    rw [ih, drn_g hk]
    by_cases e : k = m
    · subst e
      rw [if_pos rfl, if_neg (show ¬ ((2 : Int) = 1) by omega), if_neg (by omega)]
      by_cases s1 : (ndg l k).state = 1
      · rw [if_pos s1, if_pos ⟨by omega, s1⟩]; omega
      · rw [if_neg s1, if_neg fun h9 => s1 h9.2]
    · rw [if_neg e]
      by_cases s1 : (ndg l m).state = 1
      · rw [if_pos s1, if_pos s1]
        by_cases e2 : k < m ∧ (ndg l k).state = 1
        · rw [if_pos e2, if_pos ⟨by omega, e2.2⟩]; omega
        · rw [if_neg e2, if_neg fun h9 => e2 ⟨by omega, h9.2⟩]; omega
      · rw [if_neg s1, if_neg s1]
        by_cases e2 : k < m ∧ (ndg l k).state = 1
        · rw [if_pos e2, if_pos ⟨by omega, e2.2⟩]
        · rw [if_neg e2, if_neg fun h9 => e2 ⟨by omega, h9.2⟩]
/-- of a node that is drained nothing is picked -/
theorem drn_pk (h : UsOk l u) (hc : 0 ≤ c) {k : Nat} (hk : k < l.length) {j : Nat} (hj : j < (pkP (drn l k) u c (drn l k).length).length) : (ptg (pkP (drn l k) u c (drn l k).length) j).node ≠ (k : Int) := by
  obtain ⟨i, h1, h2, h3, _⟩ := (pkP_at (drn_ok h hk) hc _ (Nat.le_refl _)).1 j hj
  rw [h2]
  intro e
  have e' : i = k := by omega
  subst e'
  rw [drn_g hk, if_pos rfl] at h3
  exact absurd h3 (show ¬ ((2 : Int) = 1) by omega)

end Go.Proofs.YtdgfkcobhhlfbaaGreat
