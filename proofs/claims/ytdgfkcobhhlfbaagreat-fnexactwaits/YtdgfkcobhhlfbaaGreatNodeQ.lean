/- Nodes (chapter 11): which are right, what is ready, what is picked, what is used with parts more or less: plain mathematics. -/
import Derived.Test.YtdgfkcobhhlfbaaGreatNodeD
import Derived.Test.YtdgfkcobhhlfbaaGreatPartD
import Derived.Test.YtdgfkcobhhlfbaaGreatTime
import Derived.Test.YtdgfkcobhhlfbaaGreatIntRow
namespace Go.Proofs.YtdgfkcobhhlfbaaGreat
open Go.RowKit

theorem nin_t {x lo hi : Int} (h : inB x lo hi = true) : lo ≤ x ∧ x ≤ hi := by unfold inB at h; simpa using h
theorem nin_f {x lo hi : Int} (h : inB x lo hi = false) : x < lo ∨ hi < x := by unfold inB at h; simp at h; omega
theorem nin_mk {x lo hi : Int} (h : lo ≤ x ∧ x ≤ hi) : inB x lo hi = true := by unfold inB; simpa using h
theorem nin_no {x lo hi : Int} (h : x < lo ∨ hi < x) : inB x lo hi = false := by unfold inB; simp; omega

def nOk (x : Nd) : Bool := inB x.cores 1 100 && inB x.state 1 3
theorem nOk_t {x : Nd} (h : nOk x = true) : (1 ≤ x.cores ∧ x.cores ≤ 100) ∧ 1 ≤ x.state ∧ x.state ≤ 3 := by
  unfold nOk at h
  simp only [Bool.and_eq_true] at h
  exact ⟨nin_t h.1, nin_t h.2⟩
structure NsOk (l : List Nd) : Prop where
  n1 : 1 ≤ l.length
  n2 : l.length ≤ 8
  ok : ∀ i, i < l.length → nOk (ndg l i) = true
noncomputable def nsB (l : List Nd) : Bool := @decide (NsOk l) (Classical.propDecidable _)
theorem nsB_t {l : List Nd} (h : nsB l = true) : NsOk l := @of_decide_eq_true _ (Classical.propDecidable _) h
theorem nsB_f {l : List Nd} (h : nsB l = false) : ¬ NsOk l := @of_decide_eq_false _ (Classical.propDecidable _) h
theorem nsB_mk {l : List Nd} (h : NsOk l) : nsB l = true := @decide_eq_true _ (Classical.propDecidable _) h
theorem nsB_no {l : List Nd} (h : ¬ NsOk l) : nsB l = false := @decide_eq_false _ (Classical.propDecidable _) h

structure UsOk (l : List Nd) (u : List Int) : Prop where
  ns : NsOk l
  len : u.length = l.length
  us : ∀ i, i < l.length → 0 ≤ zg u i ∧ zg u i ≤ (ndg l i).cores
noncomputable def usB (l : List Nd) (u : List Int) : Bool := @decide (UsOk l u) (Classical.propDecidable _)
theorem usB_t {l : List Nd} {u : List Int} (h : usB l u = true) : UsOk l u := @of_decide_eq_true _ (Classical.propDecidable _) h
theorem usB_f {l : List Nd} {u : List Int} (h : usB l u = false) : ¬ UsOk l u := @of_decide_eq_false _ (Classical.propDecidable _) h
theorem usB_mk {l : List Nd} {u : List Int} (h : UsOk l u) : usB l u = true := @decide_eq_true _ (Classical.propDecidable _) h
theorem usB_no {l : List Nd} {u : List Int} (h : ¬ UsOk l u) : usB l u = false := @decide_eq_false _ (Classical.propDecidable _) h
theorem usB_ns {l : List Nd} {u : List Int} (h : nsB l = false) : usB l u = false := usB_no fun q => nsB_f h q.ns
theorem usB_len {l : List Nd} {u : List Int} (h : u.length ≠ l.length) : usB l u = false := usB_no fun q => h q.len

/-- what is ready of the first k -/
def rdK (l : List Nd) (u : List Int) : Nat → Int
  | 0 => 0
  | k + 1 => if (ndg l k).state = 1 then rdK l u k + ((ndg l k).cores - zg u k) else rdK l u k
noncomputable def rdF (l : List Nd) (u : List Int) : Int := if usB l u = true then rdK l u l.length else -1
theorem rdF_t {l : List Nd} {u : List Int} (h : usB l u = true) : rdF l u = rdK l u l.length := if_pos h
theorem rdF_f {l : List Nd} {u : List Int} (h : usB l u = false) : rdF l u = -1 := if_neg (by rw [h]; simp)
theorem rdK_bd {l : List Nd} {u : List Int} (h : UsOk l u) : ∀ k, k ≤ l.length → 0 ≤ rdK l u k ∧ rdK l u k ≤ 100 * (k : Int)
  | 0, _ => by simp [rdK]
  | k + 1, hk => by
    have ih := rdK_bd h k (by omega)
    have h1 := h.us k (by omega)
    have h2 := (nOk_t (h.ns.ok k (by omega))).1
    simp only [rdK]
    push_cast
    split <;> omega

/-- what is still wanted, and the parts, behind the first k -/
def pkS (l : List Nd) (u : List Int) (c : Int) : Nat → Int × List Pt
  | 0 => (c, [])
  | k + 1 =>
    let q := pkS l u c k
    let n := min q.1 ((ndg l k).cores - zg u k)
    if (ndg l k).state = 1 ∧ 0 < n then (q.1 - n, q.2 ++ [⟨(k : Int), n⟩]) else q
def pkC (l : List Nd) (u : List Int) (c : Int) (k : Nat) : Int := (pkS l u c k).1
def pkP (l : List Nd) (u : List Int) (c : Int) (k : Nat) : List Pt := (pkS l u c k).2
def pkN (l : List Nd) (u : List Int) (c : Int) (k : Nat) : Int := min (pkC l u c k) ((ndg l k).cores - zg u k)
variable {l : List Nd} {u : List Int} {c : Int}
theorem pkC_0 : pkC l u c 0 = c := rfl
theorem pkP_0 : pkP l u c 0 = [] := rfl
theorem pk_yes {k : Nat} (h : (ndg l k).state = 1 ∧ 0 < pkN l u c k) : pkC l u c (k + 1) = pkC l u c k - pkN l u c k ∧ pkP l u c (k + 1) = pkP l u c k ++ [⟨(k : Int), pkN l u c k⟩] := by
  have e : pkS l u c (k + 1) = (pkC l u c k - pkN l u c k, pkP l u c k ++ [⟨(k : Int), pkN l u c k⟩]) := if_pos h
  exact ⟨congrArg Prod.fst e, congrArg Prod.snd e⟩
theorem pk_no {k : Nat} (h : ¬ ((ndg l k).state = 1 ∧ 0 < pkN l u c k)) : pkC l u c (k + 1) = pkC l u c k ∧ pkP l u c (k + 1) = pkP l u c k := by
  have e : pkS l u c (k + 1) = pkS l u c k := if_neg h
  exact ⟨congrArg Prod.fst e, congrArg Prod.snd e⟩
theorem pkP_len : ∀ k, (pkP l u c k).length ≤ k
  | 0 => Nat.le_refl _
  | k + 1 => by
    have ih := pkP_len k
    by_cases h : (ndg l k).state = 1 ∧ 0 < pkN l u c k
    · rw [(pk_yes h).2, List.length_append]; simp; omega
    · rw [(pk_no h).2]; omega
/-- what is still wanted stays from 0 to c -/
theorem pkC_bd (hc : 0 ≤ c) : ∀ k, 0 ≤ pkC l u c k ∧ pkC l u c k ≤ c
  | 0 => ⟨hc, Int.le_refl _⟩
  | k + 1 => by
    have ih := pkC_bd hc k
    by_cases h : (ndg l k).state = 1 ∧ 0 < pkN l u c k
    · rw [(pk_yes h).1]
      have : pkN l u c k ≤ pkC l u c k := by unfold pkN; omega
      omega
    · rw [(pk_no h).1]; exact ih
theorem pkN_bd (hc : 0 ≤ c) (h : UsOk l u) {k : Nat} (hk : k < l.length) : 0 ≤ pkN l u c k ∧ pkN l u c k ≤ 100 := by
  have h1 := h.us k hk
  have h2 := (nOk_t (h.ns.ok k hk)).1
  have h3 := pkC_bd (l := l) (u := u) hc k
  unfold pkN; omega
noncomputable def pkF (l : List Nd) (u : List Int) (c : Int) : Option (List Pt) := if c < 1 ∨ rdF l u < c then none else some (pkP l u c l.length)

/-- may these numbers be used? -/
def useOk (u : List Int) (k : Nat) : Prop := ∀ i, i < k → 0 ≤ zg u i ∧ zg u i ≤ 1073741824
noncomputable def uoB (u : List Int) (k : Nat) : Bool := @decide (useOk u k) (Classical.propDecidable _)
theorem uoB_t {u : List Int} {k : Nat} (h : uoB u k = true) : useOk u k := @of_decide_eq_true _ (Classical.propDecidable _) h
theorem uoB_f {u : List Int} {k : Nat} (h : uoB u k = false) : ¬ useOk u k := @of_decide_eq_false _ (Classical.propDecidable _) h
theorem uoB_mk {u : List Int} {k : Nat} (h : useOk u k) : uoB u k = true := @decide_eq_true _ (Classical.propDecidable _) h
theorem uoB_no {u : List Int} {k : Nat} (h : ¬ useOk u k) : uoB u k = false := @decide_eq_false _ (Classical.propDecidable _) h

/-- a part more, or less -/
def ch1 (out : List Int) (p : Pt) (sign : Int) : Option (List Int) :=
  if 0 ≤ p.node ∧ p.node < out.length ∧ 0 ≤ p.cores ∧ p.cores ≤ 1073741824 then
    if zg out p.node.toNat + sign * p.cores < 0 then none else some (out.set p.node.toNat (zg out p.node.toNat + sign * p.cores))
  else none
def chK (u : List Int) (ps : List Pt) (sign : Int) : Nat → Option (List Int)
  | 0 => some u
  | k + 1 => match chK u ps sign k with
    | none => none
    | some out => ch1 out (ptg ps k) sign
noncomputable def chF (u : List Int) (ps : List Pt) (sign : Int) : Option (List Int) := if uoB u u.length = true then chK u ps sign ps.length else none
theorem chK_stop {u : List Int} {ps : List Pt} {sign : Int} {k : Nat} (h : chK u ps sign k = none) : ∀ d, chK u ps sign (k + d) = none
  | 0 => h
  | d + 1 => by
    have ih := chK_stop h d
    rw [← Nat.add_assoc, chK, ih]
theorem chK_no {u : List Int} {ps : List Pt} {sign : Int} {k m : Nat} (h : chK u ps sign k = none) (hk : k ≤ m) : chK u ps sign m = none := by
  have := chK_stop h (m - k)
  rwa [show k + (m - k) = m by omega] at this
theorem chK_s {u out : List Int} {ps : List Pt} {sign : Int} {k : Nat} (h : chK u ps sign k = some out) : chK u ps sign (k + 1) = ch1 out (ptg ps k) sign := by rw [chK, h]
theorem ch1_len {out out' : List Int} {p : Pt} {sign : Int} (h : ch1 out p sign = some out') : out'.length = out.length := by
  unfold ch1 at h
  split at h
  · split at h
    · cases h
    · rw [← Option.some.inj h, List.length_set]
  · cases h
theorem zg_set {l : List Int} {i j : Nat} {v : Int} (hi : i < l.length) : zg (l.set i v) j = if i = j then v else zg l j := by
  unfold zg
  by_cases e : i = j
  · subst e; rw [if_pos rfl, List.getElem?_set_self hi]; rfl
  · rw [if_neg e, List.getElem?_set_ne e]
/-- numbers behind k parts: as many, from 0 up, no more than k + 1 times 2^30 -/
theorem chK_bd {u : List Int} {ps : List Pt} {sign : Int} (hs : sign = 1 ∨ sign = -1) (hu : useOk u u.length) : ∀ k out, chK u ps sign k = some out → out.length = u.length ∧ ∀ i, i < u.length → 0 ≤ zg out i ∧ zg out i ≤ 1073741824 * ((k : Int) + 1)
  | 0, out, h => by
    have e : u = out := Option.some.inj h
    subst e
    exact ⟨rfl, fun i hi => by have := hu i hi; push_cast; omega⟩
  | k + 1, out, h => by
    rcases hk : chK u ps sign k with _ | o
    · rw [chK_stop hk 1] at h; cases h
    · obtain ⟨i1, i2⟩ := chK_bd hs hu k o hk
      rw [chK_s hk] at h
      refine ⟨(ch1_len h).trans i1, fun i hi => ?_⟩
      unfold ch1 at h
      split at h
      · rename_i c1
        split at h
        · cases h
        · rename_i c2
          have e := Option.some.inj h
          have h3 := i2 i hi
          have h4 := i2 (ptg ps k).node.toNat (by omega)
          rw [← e, zg_set (by omega)]
          push_cast
          rcases hs with rfl | rfl
          · split <;> omega
          · split <;> omega
      · cases h

end Go.Proofs.YtdgfkcobhhlfbaaGreat
