/- The least picked again and again: the plain mathematics of the model's orders. -/
import Derived.Test.YtbnocnadlleibaaOpts
namespace Go.Proofs.Ytbnocnadlleibaa
open Go.RowKit Go.Sort

/-- the numbers picked so far: sorted, and none of the others ahead of one of them -/
structure SelI (lt : Jb → Jb → Bool) (ls : List Jb) (ps : List Nat) : Prop where
  nd : ps.Nodup
  lo : ∀ p ∈ ps, p < ls.length
  srt : (ps.map (jg ls)).Pairwise (fun x y => lt y x = false)
  rest : ∀ i, i < ls.length → i ∉ ps → ∀ p ∈ ps, lt (jg ls i) (jg ls p) = false

theorem sel_nil (lt : Jb → Jb → Bool) (ls : List Jb) : SelI lt ls [] := { nd := List.nodup_nil, lo := (fun _ h => absurd h List.not_mem_nil), srt := List.Pairwise.nil, rest := (fun _ _ _ _ h => absurd h List.not_mem_nil) }

/-- numbers that are all different and all among others: the others are these and some more -/
theorem among {α : Type} [BEq α] [LawfulBEq α] : ∀ (l m : List α), l.Nodup → (∀ x ∈ l, x ∈ m) → ∃ r, m.Perm (l ++ r)
  | [], m, _, _ => ⟨m, List.Perm.refl _⟩
  | a :: l, m, hn, hs => by
    have hn' := List.nodup_cons.1 hn
    obtain ⟨r, hr⟩ := among l (m.erase a) hn'.2 (fun x hx => (List.mem_erase_of_ne (fun e : x = a => hn'.1 (by rw [← e]; exact hx))).2 (hs x (List.mem_cons_of_mem _ hx)))
    exact ⟨r, (List.perm_cons_erase (hs a List.mem_cons_self)).trans (hr.cons a)⟩

theorem SelI.step {lt : Jb → Jb → Bool} {ls : List Jb} {ps : List Nat} (h : SelI lt ls ps) {b : Nat} (hb : b < ls.length) (hn : b ∉ ps) (best : ∀ i, i < ls.length → i ∉ ps → lt (jg ls i) (jg ls b) = false) : SelI lt ls (ps ++ [b]) := by
  refine ⟨?_, fun p hp => ?_, ?_, fun i hi hni p hp => ?_⟩
  · refine List.nodup_append.2 ⟨h.nd, by simp, fun x hx y hy => ?_⟩
    rw [List.mem_singleton.1 hy]; intro e; exact hn (e ▸ hx)
  · rcases List.mem_append.1 hp with hp | hp
    · exact h.lo p hp
    · rw [List.mem_singleton.1 hp]; exact hb
  · rw [List.map_append]
    refine List.pairwise_append.2 ⟨h.srt, by simp, fun x hx y hy => ?_⟩
    obtain ⟨p, hp, rfl⟩ := List.mem_map.1 hx
    have e : y = jg ls b := by simpa using hy
    rw [e]
    exact h.rest b hb hn p hp
  · rcases List.mem_append.1 hp with hp | hp
    · exact h.rest i hi (fun e => hni (List.mem_append_left _ e)) p hp
    · rw [List.mem_singleton.1 hp]
      exact best i hi (fun e => hni (List.mem_append_left _ e))

theorem SelI.perm {lt : Jb → Jb → Bool} {ls : List Jb} {ps : List Nat} (h : SelI lt ls ps) (hl : ps.length = ls.length) : (ps.map (jg ls)).Perm ls := by
  obtain ⟨r, hr⟩ := among ps (List.range ls.length) h.nd fun p hp => List.mem_range.2 (h.lo p hp)
  have hlen := hr.length_eq
  rw [List.length_range, List.length_append] at hlen
  have hr0 : r = [] := List.length_eq_zero_iff.1 (by omega)
  subst hr0
  have hp : ps.Perm (List.range ls.length) := by rw [List.append_nil] at hr; exact hr.symm
  have e : (List.range ls.length).map (jg ls) = ls := by
    apply List.ext_getElem
    · simp
    · intro i h1 h2
      simp [jg, h2]
  have := hp.map (jg ls)
  rwa [e] at this

/-- the best of the first k that are not picked yet; none where all are -/
def BestTo (lt : Jb → Jb → Bool) (ls : List Jb) (ps : List Nat) (k : Nat) (r : Int) : Prop :=
  (r = -1 ∧ ∀ i, i < k → i ∈ ps) ∨ ∃ b : Nat, r = b ∧ b < k ∧ b ∉ ps ∧ ∀ i, i < k → i ∉ ps → lt (jg ls i) (jg ls b) = false

theorem best_zero (lt : Jb → Jb → Bool) (ls : List Jb) (ps : List Nat) : BestTo lt ls ps 0 (-1) := Or.inl ⟨rfl, fun i hi => by omega⟩
theorem BestTo.used {lt : Jb → Jb → Bool} {ls : List Jb} {ps : List Nat} {k : Nat} {r : Int} (h : BestTo lt ls ps k r) (hk : k ∈ ps) : BestTo lt ls ps (k + 1) r := by
  rcases h with ⟨e, h⟩ | ⟨b, e, h1, h2, h3⟩
  · refine Or.inl ⟨e, fun i hi => ?_⟩
    by_cases c : i = k
    · subst c; exact hk
    · exact h i (by omega)
  · refine Or.inr ⟨b, e, by omega, h2, fun i hi hni => ?_⟩
    by_cases c : i = k
    · subst c; exact absurd hk hni
    · exact h3 i (by omega) hni
theorem BestTo.first {lt : Jb → Jb → Bool} (hs : SWO lt) {ls : List Jb} {ps : List Nat} {k : Nat} (h : BestTo lt ls ps k (-1)) (hk : k ∉ ps) : BestTo lt ls ps (k + 1) k := by
  rcases h with ⟨_, h⟩ | ⟨b, e, _⟩
  · refine Or.inr ⟨k, rfl, by omega, hk, fun i hi hni => ?_⟩
    by_cases c : i = k
    · subst c; exact hs.irrefl _
    · exact absurd (h i (by omega)) hni
  · omega
theorem BestTo.better {lt : Jb → Jb → Bool} (hs : SWO lt) {ls : List Jb} {ps : List Nat} {k b : Nat} (h : BestTo lt ls ps k b) (hk : k ∉ ps) (hlt : lt (jg ls k) (jg ls b) = true) : BestTo lt ls ps (k + 1) k := by
  rcases h with ⟨e, _⟩ | ⟨b', e, h1, h2, h3⟩
  · omega
  · obtain rfl : b = b' := by omega
    refine Or.inr ⟨k, rfl, by omega, hk, fun i hi hni => ?_⟩
    by_cases c : i = k
    · subst c; exact hs.irrefl _
    · rw [Bool.eq_false_iff]; intro h4
      have := hs.trans _ _ _ h4 hlt
      rw [h3 i (by omega) hni] at this; cases this
theorem BestTo.worse {lt : Jb → Jb → Bool} {ls : List Jb} {ps : List Nat} {k b : Nat} (h : BestTo lt ls ps k b) (hlt : lt (jg ls k) (jg ls b) = false) : BestTo lt ls ps (k + 1) b := by
  rcases h with ⟨e, _⟩ | ⟨b', e, h1, h2, h3⟩
  · omega
  · obtain rfl : b = b' := by omega
    refine Or.inr ⟨b, rfl, by omega, h2, fun i hi hni => ?_⟩
    by_cases c : i = k
    · subst c; exact hlt
    · exact h3 i (by omega) hni
/-- as long as not all are picked there is a best one -/
theorem BestTo.some {lt : Jb → Jb → Bool} {ls : List Jb} {ps : List Nat} {r : Int} (h : BestTo lt ls ps ls.length r) (hl : ps.length < ls.length) : ∃ b : Nat, r = b ∧ b < ls.length ∧ b ∉ ps ∧ ∀ i, i < ls.length → i ∉ ps → lt (jg ls i) (jg ls b) = false := by
  rcases h with ⟨_, h⟩ | ⟨b, e, h1, h2, h3⟩
  · exfalso
    obtain ⟨r', hr⟩ := among (List.range ls.length) ps List.nodup_range fun i hi => h i (List.mem_range.1 hi)
    have hlen := hr.length_eq
    rw [List.length_append, List.length_range] at hlen
    omega
  · exact ⟨b, e, h1, h2, h3⟩

end Go.Proofs.Ytbnocnadlleibaa
