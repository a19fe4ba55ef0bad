/- The best, as the program reckons it; the rest of a slice of jobs. -/
import Derived.Test.YtbnocnadlleibaaL6S
namespace Go.Proofs.Ytbnocnadlleibaa
open Go.RowKit Go.Sort

def lstK (f : Nat → Int) : Nat → Int
  | 0 => 1000000000
  | n + 1 => min (lstK f n) (f n)
/-- the least of all ways, from l on -/
def leastV : List Int → List Int → Int
  | [], l => mostV l
  | p :: ps, l => lstK (fun k => leastV ps (addAt l k p)) l.length

theorem lst_best {f g : Nat → Int} : ∀ n, 1 ≤ n → (∀ k, k < n → f k = g k ∧ 0 ≤ g k ∧ g k ≤ 1000000000) → lstK f n = bestK g n ∧ 0 ≤ bestK g n
  | 0, h, _ => by omega
  | n + 1, _, h => by
    have hn := h n (by omega)
    have e : bestK g (n + 1) = if bestK g n < 0 ∨ g n < bestK g n then g n else bestK g n := rfl
    have e2 : lstK f (n + 1) = min (lstK f n) (f n) := rfl
    by_cases h0 : n = 0
    · subst h0
      have e3 : bestK g 1 = g 0 := by rw [e]; exact if_pos (Or.inl (show (-1 : Int) < 0 by omega))
      rw [e2, e3]
      show min 1000000000 (f 0) = g 0 ∧ _
      omega
    · have ih := lst_best n (by omega) (fun k hk => h k (by omega))
      rw [e2, e, ih.1]
      split <;> omega
theorem bestK_le {g : Nat → Int} {T : Int} : ∀ n, 1 ≤ n → (∀ k, k < n → 0 ≤ g k ∧ g k ≤ T) → 0 ≤ bestK g n ∧ bestK g n ≤ T
  | 0, h, _ => by omega
  | n + 1, _, h => by
    have hn := h n (by omega)
    have e : bestK g (n + 1) = if bestK g n < 0 ∨ g n < bestK g n then g n else bestK g n := rfl
    rw [e]
    by_cases h0 : n = 0
    · subst h0
      have e3 : bestK g 0 = -1 := rfl
      rw [if_pos (by left; rw [e3]; omega)]; exact hn
    · have ih := bestK_le n (by omega) (fun k hk => h k (by omega))
      split <;> omega
theorem least_best : ∀ (ps l : List Int) (c : Int), 1 ≤ l.length → LdOk l c → 0 ≤ c → c + 10000 * (ps.length : Int) ≤ 1000000000 → (∀ p ∈ ps, 0 ≤ p ∧ p ≤ 10000) →
    leastV ps l = bestV ps l ∧ 0 ≤ bestV ps l ∧ bestV ps l ≤ c + 10000 * (ps.length : Int)
  | [], l, c, _, h, hc, _, _ => ⟨rfl, mostV_nonneg l, by have := h.most hc; simp only [List.length_nil]; show mostV l ≤ _; omega⟩
  | p :: ps, l, c, hl, h, hc, hb, hp => by
    have hp0 := hp p List.mem_cons_self
    rw [List.length_cons] at hb ⊢
    push_cast at hb ⊢
    have ih : ∀ k, k < l.length → leastV ps (addAt l k p) = bestV ps (addAt l k p) ∧ 0 ≤ bestV ps (addAt l k p) ∧ bestV ps (addAt l k p) ≤ (c + 10000) + 10000 * (ps.length : Int) := fun k hk =>
      least_best ps (addAt l k p) (c + 10000) (by rw [addAt_len]; exact hl) ((h.add hk hp0.1).mono (by omega)) (by omega) (by omega) (fun q hq => hp q (List.mem_cons_of_mem _ hq))
    have h1 := lst_best (f := fun k => leastV ps (addAt l k p)) (g := fun k => bestV ps (addAt l k p)) l.length hl (fun k hk => by have := ih k hk; exact ⟨this.1, this.2.1, by have := this.2.2; omega⟩)
    have h2 := bestK_le (g := fun k => bestV ps (addAt l k p)) (T := (c + 10000) + 10000 * (ps.length : Int)) l.length hl (fun k hk => (ih k hk).2)
    exact ⟨h1.1, h1.2, by show bestK _ _ ≤ _; omega⟩

theorem longs_cons (x : Jb) (ls : List Jb) : longs (x :: ls) = x.long :: longs ls := rfl
theorem jg_zero (x : Jb) (ls : List Jb) : jg (x :: ls) 0 = x := rfl
theorem jg_succ (x : Jb) (ls : List Jb) (i : Nat) : jg (x :: ls) (i + 1) = jg ls i := by simp [jg]

/-- all but the first -/
theorem JobS.rest {w : World} {b off n cap : Nat} {x : Jb} {ls : List Jb} (h : JobS w (some ⟨b, off, none⟩) (n + 1) cap (x :: ls)) : JobS w (if cap = 1 then some ⟨b, off, none⟩ else some ⟨b, off + 7, none⟩) n (cap - 1) ls := by
  have hl := h.len
  have hle := h.le
  have hmx := h.mx
  refine ⟨by simpa using hl, by omega, by omega, fun e => (by split at e <;> cases e), fun i hi => ?_, fun hn => ?_⟩
  · rw [← jg_succ x]; exact h.wf (i + 1) (by omega)
  · obtain ⟨b', off', e, hb, hat⟩ := h.at_ (by omega)
    injection e with e
    injection e with e1 e2 _
    subst e1 e2
    refine ⟨b, off + 7, if_neg (by omega), hb, fun i hi c hc => ?_⟩
    have := hat (i + 1) (by simpa using hi) c hc
    rw [jg_succ, show off + (i + 1) * 7 + c = off + 7 + i * 7 + c by omega] at this
    exact this

end Go.Proofs.Ytbnocnadlleibaa
