/- Queue of the program; Place, of both. -/
import Derived.Test.YtaoimijeaacaiaaJobQS
import Derived.Test.YtaoimijeaacaiaaJobSort
namespace Go.Proofs.Ytaoimijeaacaiaa
open Go.RowKit Go.Sort

theorem IsQ.wf {ls ys : List Jb} (h : IsQ ls ys) (wf : ∀ i, i < ls.length → jwf (jg ls i)) : ∀ i, i < ys.length → jwf (jg ys i) := by
  intro i hi
  rcases h with ⟨_, rfl⟩ | ⟨_, h1, _⟩
  · simp at hi
  · have hmem : jg ys i ∈ ls := h1.subset (by rw [jg_get hi]; exact List.getElem_mem hi)
    obtain ⟨j, hjl, e⟩ := List.getElem_of_mem hmem
    rw [← e, ← jg_get hjl]
    exact wf j hjl

theorem implQueue_yes (a : Option Addr) (n cap : Nat) (ls : List Jb) (w : World) (h : JobS w a n cap ls) (hq : jsB ls = true) :
    Calls Try.prog 16 #[.slice a n cap] w fun e w' => ∃ B ys, e = .returned (.slice (some ⟨B, 0, none⟩) n n) ∧ w.heap.size ≤ B ∧ JobB w' B n n ys ∧ ys.length = n ∧ IsQ ls ys ∧ Below w.heap.size w w' := by
  have hn := (jsB_t hq).n
  have hlen := h.len
  go_enter Try.func16, Try.ntmps16
  go_wp2_with fail
  refine (implJobsOk_any a n cap ls _ h).mono ?_
  rw [hq]
  rintro e w1 ⟨rfl, hb1⟩
  go_wp2_with fail
  refine (implSorted_any a n cap ls _ (h.below hb1) (by omega)).mono ?_
  rintro e w2 ⟨B, ys, rfl, hB, hp, hl, hs, hJ, hb2⟩
  have z1 := hb1.size
  go_wp2
  go_ret
  exact ⟨B, ys, rfl, by omega, hJ, hl, Or.inr ⟨hq, hp, hs⟩, hb1.then hb2 hb1.size⟩

theorem implQueue_no (a : Option Addr) (n cap : Nat) (ls : List Jb) (w : World) (h : JobS w a n cap ls) (hq : jsB ls = false) :
    Calls Try.prog 16 #[.slice a n cap] w fun e w' => e = .returned (.slice none 0 0) ∧ Below w.heap.size w w' := by
  go_enter Try.func16, Try.ntmps16
  go_wp2_with fail
  refine (implJobsOk_any a n cap ls _ h).mono ?_
  rw [hq]
  rintro e w1 ⟨rfl, hb1⟩
  go_wp2
  go_ret
  exact ⟨rfl, hb1⟩

/-- where in the queue this one is -/
def IsPlace (ls : List Jb) (id r : Int) : Prop := ∃ ys, IsQ ls ys ∧ IsNum ys ys.length id r
theorem IsPlace.uniq {ls : List Jb} {id r s : Int} (h : IsPlace ls id r) (g : IsPlace ls id s) : r = s := by
  obtain ⟨ys, h1, h2⟩ := h
  obtain ⟨zs, g1, g2⟩ := g
  obtain rfl := h1.uniq g1
  exact h2.uniq g2

set_option maxHeartbeats 1000000 in
theorem specPlace_any (a : Option Addr) (n cap : Nat) (ls : List Jb) (id : Int) (w : World) (h : JobS w a n cap ls) :
    Calls Try.prog 24 #[.slice a n cap, .int .i64 id] w fun e w' => ∃ r : Int, e = .returned (.int .i64 r) ∧ IsPlace ls id r ∧ Below w.heap.size w w' := by
  go_enter Try.func24, Try.ntmps24
  go_wp2_with fail
  refine (specQueue_any a n cap ls _ h).mono ?_
  rintro e w1 ⟨v, m, cap', ys, rfl, hS, hQ, hb1⟩
  have hyl := hS.len
  have hy40 := hQ.len
  go_wp2
  go_loopw [6] (fun i wr => ∃ k : Nat, k ≤ m ∧ i = .int .i64 k ∧ (∀ x, x < k → (jg ys x).id ≠ id) ∧ Below w1.heap.size w1 wr) (fun i _ => m - (intOf i).toNat)
  case atStart => exact ⟨0, by omega, rfl, fun x hx => by omega, Below.refl _ _⟩
  case round =>
    obtain ⟨k, hk, rfl, hno, hw⟩ := hrel
    by_cases hlt : k < m
    · obtain ⟨b, off, rfl, hbw, hat⟩ := hS.at_ (by omega)
      have hk0 := (hat.below hw hbw) k (by omega) 0 (by omega)
      simp only [jc, Nat.add_zero] at hk0
      have hlt' : (k : Int) < (m : Int) := by omega
      by_cases hc : (jg ys k).id = id
      · have hc' : ((jg ys k).id == id) = true := by simpa using hc
        have HC : Hid ((jg ys k).id = id) := hc
        clear hc
        go_wp2
        go_ret
        exact ⟨_, rfl, ⟨ys, hQ, Or.inr ⟨k, rfl, by omega, HC.out, hno⟩⟩, hb1.then hw hb1.size⟩
      · have hc' : ((jg ys k).id == id) = false := by simpa using hc
        go_wp2
        go_roundw
        case rel => exact ⟨k + 1, by omega, by go_num, fun x hx => by (by_cases e : x = k; (subst e; exact hc); exact hno x (by omega)), hw⟩
        case measure => simp [intOf]; omega
    · have e : k = m := by omega
      subst e
      go_wp2
      go_ret
      exact ⟨_, rfl, ⟨ys, hQ, Or.inl ⟨rfl, by rw [hyl]; exact hno⟩⟩, hb1.then hw hb1.size⟩

set_option maxHeartbeats 1000000 in
theorem implPlace_any (a : Option Addr) (n cap : Nat) (ls : List Jb) (id : Int) (w : World) (h : JobS w a n cap ls) :
    Calls Try.prog 19 #[.slice a n cap, .int .i64 id] w fun e w' => ∃ r : Int, e = .returned (.int .i64 r) ∧ IsPlace ls id r ∧ Below w.heap.size w w' := by
  have hlen := h.len
  rcases hq : jsB ls with _ | _
  · go_enter Try.func19, Try.ntmps19
    go_wp2_with fail
    refine (implQueue_no a n cap ls _ h hq).mono ?_
    rintro e w1 ⟨rfl, hb1⟩
    go_wp2_with fail
    refine (numberOf_any none 0 0 [] id _ (JobS.nil_ _)).mono ?_
    rintro e w2 ⟨r, rfl, hr, q, os, rfl⟩
    go_wp2
    go_ret
    exact ⟨r, rfl, ⟨[], Or.inl ⟨hq, rfl⟩, hr⟩, hb1.then (below_grow _ _ _) hb1.size⟩
  · have hn := (jsB_t hq).n
    go_enter Try.func19, Try.ntmps19
    go_wp2_with fail
    refine (implQueue_yes a n cap ls _ h hq).mono ?_
    rintro e w1 ⟨B, ys, rfl, hB, hJ, hl, hQ, hb1⟩
    go_wp2_with fail
    refine (numberOf_any _ n n ys id _ (hJ.toS hl (by omega) (fun i hi => hQ.wf (fun j hj => h.wf j (by omega)) i (by omega)))).mono ?_
    rintro e w2 ⟨r, rfl, hr, q, os, rfl⟩
    go_wp2
    go_ret
    exact ⟨r, rfl, ⟨ys, hQ, by rw [hl]; exact hr⟩, hb1.then (below_grow _ _ _) hb1.size⟩

end Go.Proofs.Ytaoimijeaacaiaa
