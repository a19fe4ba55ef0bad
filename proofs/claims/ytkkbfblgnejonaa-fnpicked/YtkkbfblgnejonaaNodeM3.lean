/- What FnDrained asks. -/
import Derived.Test.YtkkbfblgnejonaaPartMk
namespace Go.Proofs.Ytkkbfblgnejonaa
open Go.RowKit Go.Sort

/-- what stands ready when a node is drained -/
theorem drn_rdF {l : List Nd} {u : List Int} (h : UsOk l u) {k : Nat} (hk : k < l.length) :
    rdF (drn l k) u = rdF l u - if (ndg l k).state = 1 then (ndg l k).cores - zg u k else 0 := by
  rw [rdF_t (usB_mk (drn_ok h hk)), rdF_t (usB_mk h), drn_rd hk, drn_len]
  by_cases e : (ndg l k).state = 1
  · rw [if_pos e, if_pos ⟨hk, e⟩]
  · rw [if_neg e, if_neg fun q => e q.2]
theorem pkF_all {l : List Nd} {u : List Int} {M : Int} (hM : rdF l u = M) : (pkF l u M).isSome = decide (0 < M) := by
  unfold pkF
  by_cases c : 0 < M
  · rw [if_neg (by omega)]; simp [c]
  · rw [if_pos (Or.inl (by omega))]; simp [c]
theorem drn_node {l : List Nd} {u : List Int} (h : UsOk l u) {k : Nat} (hk : k < l.length) {M : Int} {j : Nat} (hj : j < (pkl (drn l k) u M).length) : (ptg (pkl (drn l k) u M) j).node ≠ (k : Int) := by
  unfold pkl at hj ⊢
  rcases e : (pkF (drn l k) u M).isSome with _ | _
  · have : pkF (drn l k) u M = none := by simpa using e
    rw [this] at hj; simp at hj
  · obtain ⟨_, h1, _, h3⟩ := pkF_some e
    rw [h3] at hj ⊢
    exact drn_pk h (by omega) hk hj
end Go.Proofs.Ytkkbfblgnejonaa
