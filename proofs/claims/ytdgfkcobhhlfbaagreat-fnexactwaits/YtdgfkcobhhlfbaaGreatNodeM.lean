/- Chapter 11's laws, their mathematics. -/
import Derived.Test.YtdgfkcobhhlfbaaGreatNodeQ
namespace Go.Proofs.YtdgfkcobhhlfbaaGreat
open Go.RowKit

/-- what the first k parts have of node i -/
def smK (ps : List Pt) (i : Nat) : Nat → Int
  | 0 => 0
  | k + 1 => if (ptg ps k).node = (i : Int) then smK ps i k + (ptg ps k).cores else smK ps i k
/-- each of the first k parts is one of n nodes', its cores from 0 to 2^30 -/
def ptOk (ps : List Pt) (n k : Nat) : Prop := ∀ j, j < k → (0 ≤ (ptg ps j).node ∧ (ptg ps j).node < (n : Int)) ∧ 0 ≤ (ptg ps j).cores ∧ (ptg ps j).cores ≤ 1073741824
theorem smK_0 {ps : List Pt} {i n : Nat} : ∀ k, ptOk ps n k → 0 ≤ smK ps i k
  | 0, _ => Int.le_refl _
  | k + 1, h => by
    have ih := smK_0 (i := i) k fun j hj => h j (by omega)
    have := (h k (by omega)).2.1
    simp only [smK]; split <;> omega
theorem smK_mono {ps : List Pt} {i n k : Nat} (h : ptOk ps n (k + 1)) : smK ps i k ≤ smK ps i (k + 1) := by
  have := (h k (by omega)).2.1
  simp only [smK]; split <;> omega
theorem smK_le {ps : List Pt} {i n : Nat} : ∀ d k, ptOk ps n (k + d) → smK ps i k ≤ smK ps i (k + d)
  | 0, _, _ => Int.le_refl _
  | d + 1, k, h => by
    have ih := smK_le (i := i) d k fun j hj => h j (by omega)
    have := smK_mono (i := i) (k := k + d) (n := n) h
    rw [← Nat.add_assoc]; omega
/-- what a change makes of each number, and that its parts are right -/
theorem chK_sum {u : List Int} {ps : List Pt} {sign : Int} : ∀ k out, chK u ps sign k = some out → out.length = u.length ∧ ptOk ps u.length k ∧ ∀ i, i < u.length → zg out i = zg u i + sign * smK ps i k
  | 0, out, h => by
    have e : u = out := Option.some.inj h
    subst e
    exact ⟨rfl, fun j hj => by omega, fun i hi => by simp [smK]⟩
  | k + 1, out, h => by
    rcases hk : chK u ps sign k with _ | o
    · rw [chK_stop hk 1] at h; cases h
    · obtain ⟨i1, i2, i3⟩ := chK_sum k o hk
      rw [chK_s hk] at h
      have hl := (ch1_len h).trans i1
      unfold ch1 at h
      split at h
      · rename_i c1
        split at h
        · cases h
        · have e := Option.some.inj h
          refine ⟨hl, fun j hj => ?_, fun i hi => ?_⟩
          · by_cases e2 : j = k
            · subst e2; rw [i1] at c1; omega
            · exact i2 j (by omega)
          · rw [← e, zg_set (by omega)]
            simp only [smK]
            by_cases e2 : (ptg ps k).node = (i : Int)
            · rw [if_pos e2, if_pos (by omega)]
              have e3 : (ptg ps k).node.toNat = i := by omega
              rw [e3, i3 i hi, Int.mul_add]; omega
            · rw [if_neg e2, if_neg (by omega)]
              exact i3 i hi
      · cases h
/-- a change can be made where nothing falls below 0 -/
theorem chK_can {u : List Int} {ps : List Pt} {sign : Int} (hs : sign = 1 ∨ sign = -1) : ∀ k, ptOk ps u.length k → (∀ j i, j ≤ k → i < u.length → 0 ≤ zg u i + sign * smK ps i j) → ∃ out, chK u ps sign k = some out
  | 0, _, _ => ⟨u, rfl⟩
  | k + 1, h, hz => by
    obtain ⟨o, ho⟩ := chK_can hs k (fun j hj => h j (by omega)) fun j i hj hi => hz j i (by omega) hi
    obtain ⟨i1, _, i3⟩ := chK_sum k o ho
    have hp := h k (by omega)
    refine ⟨o.set (ptg ps k).node.toNat (zg o (ptg ps k).node.toNat + sign * (ptg ps k).cores), (chK_s ho).trans ?_⟩
    unfold ch1
    rw [if_pos (by rw [i1]; omega), if_neg]
    have h9 := hz (k + 1) (ptg ps k).node.toNat (Nat.le_refl _) (by omega)
    rw [i3 _ (by omega)]
    simp only [smK] at h9
    rw [if_pos (by omega), Int.mul_add] at h9
    omega

theorem ints_ext {a b : List Int} (hl : a.length = b.length) (h : ∀ i, i < a.length → zg a i = zg b i) : a = b := by
  refine List.ext_getElem hl fun i h1 h2 => ?_
  have e := h i h1
  unfold zg at e
  rw [List.getElem?_eq_getElem h1, List.getElem?_eq_getElem h2] at e
  exact e

/-- Given of Taken is as it was -/
theorem given_taken {a t : List Int} {ps : List Pt} (h : chF a ps 1 = some t) (hb : useOk t t.length) : chF t ps (-1) = some a := by
  unfold chF at h ⊢
  by_cases c : uoB a a.length = true
  · rw [if_pos c] at h
    have ha := uoB_t c
    obtain ⟨l1, p1, e1⟩ := chK_sum ps.length t h
    rw [if_pos (uoB_mk hb)]
    obtain ⟨o, ho⟩ := chK_can (u := t) (ps := ps) (sign := -1) (Or.inr rfl) ps.length (by rw [l1]; exact p1) fun j i hj hi => by
      have h1 := smK_le (i := i) (n := a.length) (ps.length - j) j (by rw [show j + (ps.length - j) = ps.length by omega]; exact p1)
      rw [show j + (ps.length - j) = ps.length by omega] at h1
      rw [e1 i (by omega)]
      have h2 := ha i (by omega)
      omega
    obtain ⟨l2, _, e2⟩ := chK_sum ps.length o ho
    rw [ho]
    refine congrArg some (ints_ext (by omega) fun i hi => ?_)
    rw [e2 i (by omega), e1 i (by omega)]
    omega
  · rw [if_neg c] at h; cases h

variable {l : List Nd} {u : List Int} {c : Int}
/-- what is still wanted is what the nodes ahead did not have -/
theorem pkC_eq (h : UsOk l u) (hc : 0 ≤ c) : ∀ k, k ≤ l.length → pkC l u c k = c - min c (rdK l u k)
  | 0, _ => by rw [pkC_0]; simp only [rdK]; omega
  | k + 1, hk => by
    have ih := pkC_eq h hc k (by omega)
    have b1 := rdK_bd h k (by omega)
    have b2 := h.us k (by omega)
    have b3 := pkN_bd hc h (k := k) (by omega)
    have eN : pkN l u c k = min (pkC l u c k) ((ndg l k).cores - zg u k) := rfl
    by_cases q : (ndg l k).state = 1 ∧ 0 < pkN l u c k
    · rw [(pk_yes q).1]
      simp only [rdK]
      rw [if_pos q.1]; omega
    · rw [(pk_no q).1]
      simp only [rdK]
      split
      · rename_i s1
        have : ¬ 0 < pkN l u c k := fun h9 => q ⟨s1, h9⟩
        omega
      · exact ih
/-- the parts behind k nodes: of nodes that are up, rising, with cores -/
theorem pkP_at (h : UsOk l u) (hc : 0 ≤ c) : ∀ k, k ≤ l.length → (∀ j, j < (pkP l u c k).length → ∃ i : Nat, i < k ∧ (ptg (pkP l u c k) j).node = (i : Int) ∧ (ndg l i).state = 1 ∧ (ptg (pkP l u c k) j).cores = pkN l u c i ∧ 0 < pkN l u c i) ∧
    (∀ i j, i < j → j < (pkP l u c k).length → (ptg (pkP l u c k) i).node < (ptg (pkP l u c k) j).node)
  | 0, _ => ⟨fun j hj => by simp [pkP_0] at hj, fun i j _ hj => by simp [pkP_0] at hj⟩
  | k + 1, hk => by
    obtain ⟨i1, i2⟩ := pkP_at h hc k (by omega)
    by_cases q : (ndg l k).state = 1 ∧ 0 < pkN l u c k
    · have e := (pk_yes q).2
      have eL : (pkP l u c (k + 1)).length = (pkP l u c k).length + 1 := by rw [e, List.length_append]; rfl
      have e1 : ∀ j, j < (pkP l u c k).length → ptg (pkP l u c (k + 1)) j = ptg (pkP l u c k) j := fun j hj => by
        unfold ptg; rw [e, List.getElem?_append_left hj]
      have e2 : ptg (pkP l u c (k + 1)) (pkP l u c k).length = ⟨(k : Int), pkN l u c k⟩ := by
        unfold ptg; rw [e, List.getElem?_append_right (Nat.le_refl _), Nat.sub_self]; rfl
      refine ⟨fun j hj => ?_, fun i j hij hj => ?_⟩
      · by_cases cj : j < (pkP l u c k).length
        · obtain ⟨i, h1, h2⟩ := i1 j cj
          rw [e1 j cj]
          exact ⟨i, by omega, h2⟩
        · obtain rfl : j = (pkP l u c k).length := by omega
          rw [e2]
          exact ⟨k, by omega, rfl, q.1, rfl, q.2⟩
      · by_cases cj : j < (pkP l u c k).length
        · rw [e1 i (by omega), e1 j cj]
          exact i2 i j hij cj
        · obtain rfl : j = (pkP l u c k).length := by omega
          rw [e1 i (by omega), e2]
          obtain ⟨m, h1, h2, _⟩ := i1 i (by omega)
          rw [h2]
          show (m : Int) < (k : Int); omega
    · have e := (pk_no q).2
      rw [e]
      refine ⟨fun j hj => ?_, i2⟩
      obtain ⟨i, h1, h2⟩ := i1 j hj
      exact ⟨i, by omega, h2⟩
/-- together they have what was wanted less what is still wanted -/
def ptSum (ps : List Pt) : Nat → Int
  | 0 => 0
  | k + 1 => ptSum ps k + (ptg ps k).cores
theorem ptSum_app (ps : List Pt) (p : Pt) : ∀ k, k ≤ ps.length → ptSum (ps ++ [p]) k = ptSum ps k
  | 0, _ => rfl
  | k + 1, hk => by
    have ih := ptSum_app ps p k (by omega)
    simp only [ptSum]
    rw [ih]
    unfold ptg; rw [List.getElem?_append_left (by omega)]
theorem pk_sum : ∀ k, ptSum (pkP l u c k) (pkP l u c k).length = c - pkC l u c k
  | 0 => by rw [pkP_0, pkC_0]; simp [ptSum]
  | k + 1 => by
    have ih := pk_sum k
    by_cases q : (ndg l k).state = 1 ∧ 0 < pkN l u c k
    · rw [(pk_yes q).1, (pk_yes q).2, List.length_append]
      simp only [List.length_cons, List.length_nil, Nat.zero_add, ptSum]
      rw [ptSum_app _ _ _ (Nat.le_refl _), ih]
      unfold ptg
      rw [List.getElem?_append_right (Nat.le_refl _), Nat.sub_self]
      show c - pkC l u c k + pkN l u c k = _
      omega
    · rw [(pk_no q).1, (pk_no q).2]; exact ih

end Go.Proofs.YtdgfkcobhhlfbaaGreat
