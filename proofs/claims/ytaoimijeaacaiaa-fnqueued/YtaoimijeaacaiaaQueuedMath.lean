/- Queue of the program told as the model's; in a queue each is ahead of those behind it. -/
import Derived.Test.YtaoimijeaacaiaaJobQI
import Derived.Test.YtaoimijeaacaiaaJobLike
import Derived.Test.YtaoimijeaacaiaaJobDrawA
import Derived.Test.YtaoimijeaacaiaaBytesOpen
import Derived.Deep.Cut
namespace Go.Proofs.Ytaoimijeaacaiaa
open Go.RowKit Go.Sort

theorem implQueue_any (a : Option Addr) (n cap : Nat) (ls : List Jb) (w : World) (h : JobS w a n cap ls) :
    Calls Try.prog 16 #[.slice a n cap] w fun e w' => ∃ v m cap' ys, e = .returned (.slice v m cap') ∧ JobS w' v m cap' ys ∧ IsQ ls ys ∧ Below w.heap.size w w' := by
  rcases hq : jsB ls with _ | _
  · refine (implQueue_no a n cap ls w h hq).mono ?_
    rintro e w' ⟨rfl, hb⟩
    exact ⟨none, 0, 0, [], rfl, JobS.nil_ _, Or.inl ⟨hq, rfl⟩, hb⟩
  · refine (implQueue_yes a n cap ls w h hq).mono ?_
    rintro e w' ⟨B, ys, rfl, _, hJ, hl, hQ, hb⟩
    have hn := (jsB_t hq).n
    have hlen := h.len
    exact ⟨_, _, _, ys, rfl, hJ.toS hl (by omega) (fun i hi => hQ.wf (fun i hi => h.wf i (by omega)) i (by omega)), hQ, hb⟩

theorem strict {ls ys : List Jb} (h : IsQ ls ys) {k i : Nat} (hk : k < i) (hi : i < ys.length) : jlt (jg ys k) (jg ys i) = true := by
  rcases h with ⟨_, rfl⟩ | ⟨h0, h1, h2⟩
  · simp at hi
  · have hok := jsB_t h0
    have hs := h2 k i hk hi
    have hne : (jg ys k).id ≠ (jg ys i).id := by
      intro e
      have ha : jg ys k ∈ ls := h1.subset (by rw [jg_get (show k < ys.length by omega)]; exact List.getElem_mem _)
      have hb : jg ys i ∈ ls := h1.subset (by rw [jg_get hi]; exact List.getElem_mem _)
      have e2 := hok.inj ha hb e
      have hnd : ys.Nodup := by
        rw [h1.nodup_iff]
        rw [List.nodup_iff_pairwise_ne, List.pairwise_iff_getElem]
        intro x y hx hy hxy e3
        have h4 := (hok.ok y hy).2 x hxy
        rw [jg_get hx, jg_get hy, e3] at h4
        exact h4 rfl
      rw [jg_get (show k < ys.length by omega), jg_get hi] at e2
      have := (List.nodup_iff_pairwise_ne.1 hnd)
      rw [List.pairwise_iff_getElem] at this
      exact this k i (by omega) hi hk e2
    have e1 := mt ahead_iff.2 (Bool.eq_false_iff.1 hs)
    exact ahead_iff.2 (by omega)

theorem ahead_irrefl (i r a : Int) : aheadB i r a i r a = false := by
  rw [Bool.eq_false_iff]; intro h; have := ahead_iff.1 h; omega
theorem ahead_asym {i r a i' r' a' : Int} (h : aheadB i r a i' r' a' = true) : aheadB i' r' a' i r a = false := by
  rw [Bool.eq_false_iff]; intro h2; have := ahead_iff.1 h; have := ahead_iff.1 h2; omega

end Go.Proofs.Ytaoimijeaacaiaa
