/- Pieces drawn. What is drawn is not reckoned, only that pieces come, each number of which fits. -/
import Derived.Test.YtnndkdonbjeejaaPieceSet
import Derived.Test.YtnndkdonbjeejaaPieceS
import Derived.Test.YtnndkdonbjeejaaL6D
import Derived.Deep.RegionHeld3
namespace Go.Proofs.Ytnndkdonbjeejaa
open Go.RowKit Go.Sort

theorem PieceS.drop1 {w : World} {g n cap : Nat} {ys : List Pc} (h : PieceS w (some ⟨g, 0, none⟩) n cap ys) (hn : 0 < n) : PieceS w (if cap = 1 then some ⟨g, 0, none⟩ else some ⟨g, 4, none⟩) (n - 1) (cap - 1) (ys.drop 1) := by
  have hl := h.len
  have hle := h.le
  have hm := h.mx
  have e : ∀ i, pcg (ys.drop 1) i = pcg ys (i + 1) := fun i => by simp [pcg]
  refine ⟨by simp; omega, by omega, by unfold maxLen at *; omega, ?_, fun i hi => by rw [e]; exact h.wf (i + 1) (by omega), fun h0 => ?_⟩
  · split <;> (intro h9; cases h9)
  · obtain ⟨b, off, ha, hb, hat⟩ := h.at_ hn
    obtain ⟨rfl, rfl⟩ : g = b ∧ 0 = off := by simpa using ha
    refine ⟨g, 4, by rw [if_neg (by omega)], hb, fun i hi c hc => ?_⟩
    have hi' : i + 1 < ys.length := by simp at hi; omega
    have := hat (i + 1) hi' c hc
    rw [e]
    rwa [show 0 + (i + 1) * 4 + c = 4 + i * 4 + c by omega] at this

/-- the numbers of McNaughton's pieces are small -/
theorem pcsF_small {ls : List Jb} {m : Int} : ∀ p ∈ pcsF ls m, 0 ≤ p.job ∧ p.job ≤ 1000000 ∧ 0 ≤ p.mac ∧ p.mac ≤ 10 ∧ 0 ≤ p.fr ∧ p.fr ≤ 400000 ∧ 0 ≤ p.up ∧ p.up ≤ 400000 := by
  intro p hp
  rcases hq : shB ls m with _ | _
  · rw [pcsF_f hq] at hp; cases hp
  · have B := bnd_f hq
    have ok := pcsF_ok hq
    have h1 := ok.one p hp
    obtain ⟨j, hj, e⟩ := h1.job
    obtain ⟨i, hi, rfl⟩ := List.getElem_of_mem hj
    have hok := (ok.jobs.ok i hi).1
    have hid : 1 ≤ (jg ls i).id ∧ (jg ls i).id ≤ 1000000 := by
      unfold jok jobB inB at hok
      simp only [Bool.and_eq_true, decide_eq_true_eq] at hok
      omega
    rw [jg_get hi] at hid
    have := h1.m0; have := h1.m1; have := h1.f0; have := h1.lt; have := ok.m1
    rw [pcsF_t hq] at hp
    have hne : ls ≠ [] := fun h9 => by subst h9; cases hj
    have ht := B.pos hne
    obtain ⟨_, hin⟩ := pcsV_in (by omega) _ 0 (Int.le_refl _) B.each p hp
    have h2 := hin.f2
    have := B.le; have := B.sum
    omega
theorem pcsF_wf (ls : List Jb) (m : Int) : allWfPiece (pcsF ls m) := fun p hp c hc => by
  have := pcsF_small p hp
  obtain rfl | rfl | rfl | rfl : c = 0 ∨ c = 1 ∨ c = 2 ∨ c = 3 := by omega
  all_goals (simp only [pcc]; omega)
theorem pcsF_len (ls : List Jb) (m : Int) : (pcsF ls m).length ≤ 80 := by
  rcases hq : shB ls m with _ | _
  · rw [pcsF_f hq]; simp
  · rw [pcsF_t hq]
    have := pcsV_len (bndV ls m) (jp ls) 0
    rw [jp_len] at this
    have := (shB_t hq).1.n
    omega

set_option maxHeartbeats 1000000 in
theorem likePieces_same (a a' : Option Addr) (n cap cap' : Nat) (ls : List Pc) (w : World) (h : PieceS w a n cap ls) (h' : PieceS w a' n cap' ls) :
    Calls Try.prog 13 #[.slice a n cap, .slice a' n cap'] w fun e w' => e = .returned (.bool true) ∧ Below w.heap.size w w' := by
  have hm := h.mx
  have hle := h.le
  unfold maxLen at hm
  go_enter Try.func13, Try.ntmps13
  go_wp2
  go_loopw [5] (fun i wr => ∃ k : Nat, k ≤ n ∧ i = .int .i64 k ∧ Below w.heap.size w wr) (fun i _ => n - (intOf i).toNat)
  case atStart => exact ⟨0, by omega, rfl, Below.refl _ _⟩
  case round =>
    obtain ⟨k, hk, rfl, hw⟩ := hrel
    by_cases hlt : k < n
    · obtain ⟨b, off, rfl, hbw, hat⟩ := h.at_ (by omega)
      obtain ⟨b', off', rfl, hbw', hat'⟩ := h'.at_ (by omega)
      obtain ⟨c0, c1, c2, c3⟩ := (hat.below hw hbw).row (i := k) (by rw [h.len]; exact hlt)
      obtain ⟨d0, d1, d2, d3⟩ := (hat'.below hw hbw').row (i := k) (by rw [h.len]; exact hlt)
      have hlt' : (k : Int) < (n : Int) := by omega
      go_wp2
      go_quiet (fail)
      go_wp2
      go_roundw
      case rel => exact ⟨k + 1, by omega, by go_num, hw.drewN _⟩
      case measure => simp [intOf]; omega
    · have e : k = n := by omega
      subst e
      go_wp2
      go_ret
      exact ⟨rfl, hw⟩

theorem row_atd {w w2 : World} {cb k : Nat} {L : Array Value} {v : Value} (hb : But cb (w.alloc (.cells L 2)).drew w2) (hc : cb < w.heap.size) (hv : L[k]? = some v) : w2.cell? ⟨w.heap.size, k, none⟩ = some v :=
  row_at (w := w) (w2 := w2) (cb := cb) ⟨hb.os, hb.tape, hb.output, hb.size, hb.block⟩ hc hv

end Go.Proofs.Ytnndkdonbjeejaa
